/- Arguments opened: integers of any kind, bytes, texts. -/
import Derived.Test.YtccmannmbldghaaD
import Derived.Test.YtccmannmbldghaaF8
namespace Go.Proofs.Ytccmannmbldghaa
open Go.ChangeShapes Go.WideShapes Go.ChangeAt Go.RowKit Go.Deep

section
variable {H : Type} {enc : TypeId × Value → H} {P : Program} {W : World} {r : Reach} {b0 : Nat} {v : Value} {d : DataW H} {p : List MemPlace}
theorem open_kints {T E : TypeId} {k : IntKind} {bytes : Nat} (hT : P.underlying T = some (.slice E)) (hE : P.underlying E = some (.int k)) (hC : P.cellsOf E = 1) (hB : P.bytesOf E = bytes)
    (hv : Value.okWide P W r b0 T v) (h : DataW.Trod enc P W 0 (fun _ => true) true T v d p) (hlt : ∀ x ∈ p, x.block < W.heap.size) :
    ∃ A c, ∃ l : List Int, v = .slice A l.length c ∧ Rd W W.heap.size A (l.map (Value.int k)) ∧ (∀ x ∈ l, (Lit.int k x).wf = true) ∧ l.length ≤ c ∧ (A = none → c = 0) ∧
      ((∀ elems spare, d = .slice elems spare → (elems.length + spare.length) * P.bytesOf E ≤ reachBytes) → l.length * bytes ≤ 140737488351232) := by
  obtain ⟨a, len, cap, rfl⟩ := okWide_slice hT hv
  obtain ⟨fuel, hf⟩ := h
  rcases open_ints hT hE hC hf with ⟨hcs, hx⟩ | ⟨a', len', cap', zs, hcs, _, hl, _, hz, hx, hcell, hwz⟩
  · simp [Value.cells] at hcs
    obtain ⟨rfl, rfl, rfl⟩ := hcs
    exact ⟨none, 0, [], rfl, Rd.nil, by simp, by simp, fun _ => rfl, fun _ => by simp⟩
  · simp [Value.cells] at hcs
    obtain ⟨rfl, rfl, rfl⟩ := hcs
    simp only [Prod.mk.injEq] at hx
    obtain ⟨rfl, rfl⟩ := hx
    simp only [if_true] at hz
    have hll : (zs.take len).length = len := by simp; omega
    refine ⟨some a', cap, zs.take len, by rw [hll], fun hn => ?_, fun x hx => hwz x (List.mem_of_mem_take hx), by omega, (fun h => by cases h), fun hb => ?_⟩
    · simp only [List.length_map, hll] at hn
      obtain ⟨b, off, spot⟩ := a'
      have hspot : spot = none := by simpa [Addr.add] using World.cell?_spot (hcell 0 (by omega))
      subst hspot
      refine ⟨b, off, rfl, hlt (.cell b off) (MemPlace.mem_row.2 ⟨0, by omega, by simp⟩), fun j u hu => ?_⟩
      simp only [List.getElem?_map, Option.map_eq_some_iff] at hu
      obtain ⟨x, hx, rfl⟩ := hu
      have hj : j < len := by
        have := (List.getElem?_eq_some_iff.1 hx).1
        omega
      have := hcell j (by omega)
      rw [add_plain] at this
      rw [this]
      rw [List.getElem?_take_of_lt hj] at hx
      simp [List.getD, hx]
    · have := hb _ _ rfl
      rw [hB] at this
      simp [reachBytes, lits] at this
      have hm : len * bytes ≤ (min len zs.length + (zs.length - len)) * bytes := Nat.mul_le_mul_right _ (by omega)
      rw [hll]
      omega

theorem uns_of : ∀ {l : List Int}, (∀ x ∈ l, (Lit.int .u64 x).wf = true) → uns (l.map Int.toNat) = l.map (Value.int .u64) ∧ ∀ n ∈ l.map Int.toNat, n < 18446744073709551616
  | [], _ => ⟨rfl, by simp⟩
  | x :: l, h => by
    obtain ⟨h1, h2⟩ := uns_of (l := l) fun y hy => h y (by simp [hy])
    obtain ⟨hx1, hx2⟩ := wf_u64 (h x (by simp))
    refine ⟨?_, fun n hn => ?_⟩
    · simp only [uns, List.map_cons, List.cons.injEq] at h1 ⊢
      exact ⟨by rw [Int.toNat_of_nonneg hx1], h1⟩
    · rcases List.mem_cons.1 hn with rfl | hn
      · omega
      · exact h2 n hn
def u8F (x : Int) : UInt8 := UInt8.ofNat x.toNat
theorem bys_of : ∀ {l : List Int}, (∀ x ∈ l, (Lit.int .u8 x).wf = true) → bys (l.map u8F) = l.map (Value.int .u8)
  | [], _ => rfl
  | x :: l, h => by
    have h1 := bys_of (l := l) fun y hy => h y (by simp [hy])
    obtain ⟨hx1, hx2⟩ := wf_u8 (h x (by simp))
    simp only [bys, List.map_cons, List.cons.injEq] at h1 ⊢
    refine ⟨?_, h1⟩
    congr 1
    unfold u8F
    rw [UInt8.toNat_ofNat']
    omega

/-- A list of numbers of 64 bits, their sign dropped. -/
theorem open_uns {T E : TypeId} (hT : P.underlying T = some (.slice E)) (hE : P.underlying E = some (.int .u64)) (hC : P.cellsOf E = 1) (hB : P.bytesOf E = 8)
    (hv : Value.okWide P W r b0 T v) (h : DataW.Trod enc P W 0 (fun _ => true) true T v d p) (hlt : ∀ x ∈ p, x.block < W.heap.size) :
    ∃ A c, ∃ l : List Nat, v = .slice A l.length c ∧ Rd W W.heap.size A (uns l) ∧ (∀ n ∈ l, n < 18446744073709551616) ∧ l.length ≤ c ∧ (A = none → c = 0) ∧
      ((∀ elems spare, d = .slice elems spare → (elems.length + spare.length) * P.bytesOf E ≤ reachBytes) → l.length * 8 ≤ 140737488351232) := by
  obtain ⟨A, c, l, rfl, h1, h2, h3, h4, h5⟩ := open_kints hT hE hC hB hv h hlt
  obtain ⟨h6, h7⟩ := uns_of h2
  exact ⟨A, c, l.map Int.toNat, by rw [List.length_map], by rw [h6]; exact h1, h7, by rw [List.length_map]; exact h3, h4, by rw [List.length_map]; exact h5⟩
theorem open_bys {T E : TypeId} (hT : P.underlying T = some (.slice E)) (hE : P.underlying E = some (.int .u8)) (hC : P.cellsOf E = 1) (hB : P.bytesOf E = 1)
    (hv : Value.okWide P W r b0 T v) (h : DataW.Trod enc P W 0 (fun _ => true) true T v d p) (hlt : ∀ x ∈ p, x.block < W.heap.size) :
    ∃ A c, ∃ l : List UInt8, v = .slice A l.length c ∧ Rd W W.heap.size A (bys l) ∧ l.length ≤ c ∧ (A = none → c = 0) ∧
      ((∀ elems spare, d = .slice elems spare → (elems.length + spare.length) * P.bytesOf E ≤ reachBytes) → l.length ≤ 140737488351232) := by
  obtain ⟨A, c, l, rfl, h1, h2, h3, h4, h5⟩ := open_kints hT hE hC hB hv h hlt
  exact ⟨A, c, l.map u8F, by rw [List.length_map], by rw [bys_of h2]; exact h1, by rw [List.length_map]; exact h3, h4, by rw [List.length_map]; intro hh; have := h5 hh; omega⟩

/-- A list of texts. -/
theorem open_txs {T S E : TypeId} (hT : P.underlying T = some (.slice S)) (hS : P.underlying S = some (.slice E)) (hE : P.underlying E = some (.int .u8)) (hC : P.cellsOf S = 1) (hC' : P.cellsOf E = 1) (hB : P.bytesOf S = 24)
    (hv : Value.okWide P W r b0 T v) (h : DataW.Trod enc P W 0 (fun _ => true) true T v d p) (hlt : ∀ x ∈ p, x.block < W.heap.size) :
    ∃ A c, ∃ l : List Tx, v = .slice A l.length c ∧ Rd W W.heap.size A (txs l) ∧ TxIn W W.heap.size l ∧ l.length ≤ c ∧ (A = none → c = 0) ∧
      ((∀ elems spare, d = .slice elems spare → (elems.length + spare.length) * P.bytesOf S ≤ reachBytes) → l.length * 24 ≤ 140737488351232) := by
  obtain ⟨a, len, cap, rfl⟩ := okWide_slice hT hv
  obtain ⟨fuel, hf⟩ := h
  rcases open_int_rows hT hS hE hC hC' hf with ⟨hcs, hx⟩ | ⟨a', len', cap', A, L, C, Z, hcs, _, hl, _, hx, hrow⟩
  · simp [Value.cells] at hcs
    obtain ⟨rfl, rfl, rfl⟩ := hcs
    exact ⟨none, 0, [], rfl, Rd.nil, (fun t ht => by cases ht), by simp, fun _ => rfl, fun _ => by simp⟩
  · simp [Value.cells] at hcs
    obtain ⟨rfl, rfl, rfl⟩ := hcs
    simp only [Prod.mk.injEq] at hx
    obtain ⟨rfl, rfl⟩ := hx
    have hone : ∀ i, i < len → ∃ t : Tx, W.cell? (a'.add i) = some (txv t) ∧ Rd W W.heap.size t.1 (bys t.2.2) ∧ t.2.2.length ≤ t.2.1 := by
      intro i hi
      obtain ⟨h1, h2, h3, h4, h5, h6, h7⟩ := hrow i (by omega)
      have hlen : ((Z i).take (L i)).length = L i := by rw [List.length_take]; omega
      refine ⟨(A i, C i, ((Z i).take (L i)).map u8F), ?_, ?_, ?_⟩
      · rw [h1]
        simp only [txv, List.length_map, hlen]
      · show Rd W W.heap.size (A i) (bys (((Z i).take (L i)).map u8F))
        rw [bys_of fun x hx => h5 x (List.mem_of_mem_take hx)]
        intro hn
        rw [List.length_map, hlen] at hn
        rcases hA : A i with _ | ad
        · have := h6 hA
          omega
        · obtain ⟨_, h8⟩ := h7 ad hA
          obtain ⟨b, off, spot⟩ := ad
          have hspot : spot = none := by simpa [Addr.add] using World.cell?_spot (h8 0 (by omega))
          subst hspot
          refine ⟨b, off, rfl, hlt (.cell b off) (List.mem_append_right _ (List.mem_flatMap.2 ⟨i, List.mem_range.2 (by omega), ?_⟩)), fun j u hu => ?_⟩
          · rw [hA]
            exact MemPlace.mem_row.2 ⟨0, by omega, by simp⟩
          · simp only [List.getElem?_map, Option.map_eq_some_iff] at hu
            obtain ⟨x, hx, rfl⟩ := hu
            have hj : j < L i := by
              have := (List.getElem?_eq_some_iff.1 hx).1
              omega
            have h9 := h8 j (by omega)
            rw [add_plain] at h9
            rw [h9]
            rw [List.getElem?_take_of_lt hj] at hx
            simp [List.getD, hx]
      · rw [List.length_map, hlen]
        exact h2
    obtain ⟨l, hll, hq⟩ := list_of len hone
    refine ⟨some a', cap, l, by rw [hll], fun hn => ?_, fun t ht => ?_, by omega, (fun h => by cases h), fun hb => ?_⟩
    · rw [txs_len] at hn
      obtain ⟨b, off, spot⟩ := a'
      have h0 := (hq 0 (by omega)).1
      have hspot : spot = none := by simpa [Addr.add] using World.cell?_spot h0
      subst hspot
      refine ⟨b, off, rfl, hlt (.cell b off) (List.mem_append_left _ (MemPlace.mem_row.2 ⟨0, by omega, by simp⟩)), fun j u hu => ?_⟩
      have hj : j < l.length := by
        have := (List.getElem?_eq_some_iff.1 hu).1
        rwa [txs_len] at this
      rw [txs_at l j hj] at hu
      have h1 := (hq j hj).1
      rw [add_plain] at h1
      rw [h1, ← hu]
      rfl
    · obtain ⟨i, hil, rfl⟩ := List.getElem_of_mem ht
      exact (hq i hil).2
    · have := hb _ _ rfl
      rw [hB] at this
      simp [reachBytes] at this
      omega
end
end Go.Proofs.Ytccmannmbldghaa
