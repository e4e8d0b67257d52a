import Derived.Test.YtgbghmgipnphkaaD
import Derived.Test.YtgbghmgipnphkaaB

/- Arguments opened: integers of any kind, bytes. -/
set_option maxRecDepth 10000
set_option maxRecDepth 10000
namespace Go.Proofs.Ytgbghmgipnphkaa
open Go.ChangeShapes Go.WideShapes Go.ChangeAt Go.RowKit Go.Deep

section
variable {H : Type} {enc : TypeId × Value → H} {P : Program} {W : World} {r : Reach} {b0 : Nat} {v : Value} {d : DataW H} {p : List MemPlace}
theorem open_kints {T E : TypeId} {k : IntKind} {bytes : Nat} (hT : P.underlying T = some (.slice E)) (hE : P.underlying E = some (.int k)) (hC : P.cellsOf E = 1) (hB : P.bytesOf E = bytes)
    (hv : Value.okWide P W r b0 T v) (h : DataW.Trod enc P W 0 (fun _ => true) true T v d p) (hlt : ∀ x ∈ p, x.block < W.heap.size) :
    ∃ A c, ∃ l : List Int, v = .slice A l.length c ∧ Rd W W.heap.size A (l.map (Value.int k)) ∧ (∀ x ∈ l, (Lit.int k x).wf = true) ∧ l.length ≤ c ∧ (A = none → c = 0) ∧
      ((∀ elems spare, d = .slice elems spare → (elems.length + spare.length) * P.bytesOf E ≤ reachBytes) → l.length * bytes ≤ 140737488351232) := by
  obtain ⟨a, len, cap, rfl⟩ := okWide_slice hT hv
  obtain ⟨fuel, hf⟩ := h
  rcases open_ints hT hE hC hf with ⟨hcs, hx⟩ | ⟨a', len', cap', zs, hcs, _, hl, _, hz, hx, hcell, hwz⟩
  · simp [Value.cells] at hcs
    obtain ⟨rfl, rfl, rfl⟩ := hcs
    exact ⟨none, 0, [], rfl, Rd.nil, by simp, by simp, fun _ => rfl, fun _ => by simp⟩
  · simp [Value.cells] at hcs
    obtain ⟨rfl, rfl, rfl⟩ := hcs
    simp only [Prod.mk.injEq] at hx
    obtain ⟨rfl, rfl⟩ := hx
    simp only [if_true] at hz
    have hll : (zs.take len).length = len := by simp; omega
    refine ⟨some a', cap, zs.take len, by rw [hll], fun hn => ?_, fun x hx => hwz x (List.mem_of_mem_take hx), by omega, (fun h => by cases h), fun hb => ?_⟩
    · simp only [List.length_map, hll] at hn
      obtain ⟨b, off, spot⟩ := a'
      have hspot : spot = none := by simpa [Addr.add] using World.cell?_spot (hcell 0 (by omega))
      subst hspot
      refine ⟨b, off, rfl, hlt (.cell b off) (MemPlace.mem_row.2 ⟨0, by omega, by simp⟩), fun j u hu => ?_⟩
      simp only [List.getElem?_map, Option.map_eq_some_iff] at hu
      obtain ⟨x, hx, rfl⟩ := hu
      have hj : j < len := by
        have := (List.getElem?_eq_some_iff.1 hx).1
        omega
      have := hcell j (by omega)
      rw [add_plain] at this
      rw [this]
      rw [List.getElem?_take_of_lt hj] at hx
      simp [List.getD, hx]
    · have := hb _ _ rfl
      rw [hB] at this
      simp [reachBytes, lits] at this
      have hm : len * bytes ≤ (min len zs.length + (zs.length - len)) * bytes := Nat.mul_le_mul_right _ (by omega)
      rw [hll]
      omega
def u8F (x : Int) : UInt8 := UInt8.ofNat x.toNat
theorem bys_of : ∀ {l : List Int}, (∀ x ∈ l, (Lit.int .u8 x).wf = true) → bys (l.map u8F) = l.map (Value.int .u8)
  | [], _ => rfl
  | x :: l, h => by
    have h1 := bys_of (l := l) fun y hy => h y (by simp [hy])
    obtain ⟨hx1, hx2⟩ := wf_u8 (h x (by simp))
    simp only [bys, List.map_cons, List.cons.injEq] at h1 ⊢
    refine ⟨?_, h1⟩
    congr 1
    unfold u8F
    rw [UInt8.toNat_ofNat']
    omega
theorem open_bys {T E : TypeId} (hT : P.underlying T = some (.slice E)) (hE : P.underlying E = some (.int .u8)) (hC : P.cellsOf E = 1) (hB : P.bytesOf E = 1)
    (hv : Value.okWide P W r b0 T v) (h : DataW.Trod enc P W 0 (fun _ => true) true T v d p) (hlt : ∀ x ∈ p, x.block < W.heap.size) :
    ∃ A c, ∃ l : List UInt8, v = .slice A l.length c ∧ Rd W W.heap.size A (bys l) ∧ l.length ≤ c ∧ (A = none → c = 0) ∧
      ((∀ elems spare, d = .slice elems spare → (elems.length + spare.length) * P.bytesOf E ≤ reachBytes) → l.length ≤ 140737488351232) := by
  obtain ⟨A, c, l, rfl, h1, h2, h3, h4, h5⟩ := open_kints hT hE hC hB hv h hlt
  exact ⟨A, c, l.map u8F, by rw [List.length_map], by rw [bys_of h2]; exact h1, by rw [List.length_map]; exact h3, h4, by rw [List.length_map]; intro hh; have := h5 hh; omega⟩
/-- A list is no longer than what it is read as. -/
theorem len_read {T E : TypeId} {k : IntKind} {A : Option Addr} {n c : Nat} (hT : P.underlying T = some (.slice E)) (hE : P.underlying E = some (.int k)) (hC : P.cellsOf E = 1)
    (h : DataW.Trod enc P W 0 (fun _ => true) true T (.slice A n c) d p) : n = 0 ∨ ∃ elems spare, d = .slice elems spare ∧ n ≤ elems.length := by
  obtain ⟨fuel, hf⟩ := h
  rcases open_ints hT hE hC hf with ⟨hcs, hx⟩ | ⟨a', len', cap', zs, hcs, _, hl, _, hz, hx, hcell, hwz⟩
  · simp [Value.cells] at hcs
    exact .inl hcs.2.1
  · simp [Value.cells] at hcs
    obtain ⟨rfl, rfl, rfl⟩ := hcs
    simp only [Prod.mk.injEq] at hx
    obtain ⟨rfl, rfl⟩ := hx
    simp only [if_true] at hz
    exact .inr ⟨_, _, rfl, by simp [lits]; omega⟩
theorem bulk_len : ∀ l : List (DataW H), l.length ≤ Rows.uptoBulkAll l
  | [] => by simp [Rows.uptoBulkAll]
  | x :: r => by
    have h1 : 1 ≤ Rows.uptoBulk x := by
      cases x with
      | lit l => cases l <;> simp [Rows.uptoBulk]
      | _ => simp [Rows.uptoBulk]
    have := bulk_len r
    simp only [Rows.uptoBulkAll, List.length_cons]
    omega
theorem len_bulk {T E : TypeId} {k : IntKind} {A : Option Addr} {n c : Nat} (hT : P.underlying T = some (.slice E)) (hE : P.underlying E = some (.int k)) (hC : P.cellsOf E = 1)
    (h : DataW.Trod enc P W 0 (fun _ => true) true T (.slice A n c) d p) : n ≤ Rows.uptoBulk d := by
  rcases len_read hT hE hC h with rfl | ⟨elems, spare, rfl, hn⟩
  · omega
  · have := bulk_len elems
    simp only [Rows.uptoBulk]
    omega
end
end Go.Proofs.Ytgbghmgipnphkaa
