/- Arguments opened: lists of texts whose lengths are bounded, sectors. -/
import Derived.Test.YtdcegkeaopjbnaaDA
import Derived.Test.YtdcegkeaopjbnaaOA
import Derived.Deep.Matrix
set_option maxRecDepth 10000
namespace Go.Proofs.Ytdcegkeaopjbnaa
open Go.ChangeShapes Go.WideShapes Go.ChangeAt Go.RowKit Go.Deep

theorem weights_in {H : Type} {P : Program} {e : TypeId} {d : DataW H} {n : Nat} : ∀ {l : List (DataW H)}, d ∈ l → n ∈ DataW.weights P e d → n ∈ DataW.weightsAll P e l
  | x :: r, h, hn => by
    simp only [DataW.weightsAll, List.mem_append]
    rcases List.mem_cons.1 h with rfl | h
    · exact .inl hn
    · exact .inr (weights_in h hn)
section
variable {H : Type} {enc : TypeId × Value → H} {P : Program} {W : World} {r : Reach} {b0 : Nat} {v : Value} {d : DataW H} {p : List MemPlace}
/-- A list of texts. -/
theorem open_txs2 {T S E : TypeId} (hT : P.underlying T = some (.slice S)) (hS : P.underlying S = some (.slice E)) (hE : P.underlying E = some (.int .u8)) (hC : P.cellsOf S = 1) (hC' : P.cellsOf E = 1) (hB : P.bytesOf E = 1)
    (hv : Value.okWide P W r b0 T v) (h : DataW.Trod enc P W 0 (fun _ => true) true T v d p) (hlt : ∀ x ∈ p, x.block < W.heap.size) :
    ∃ A c, ∃ l : List Tx, v = .slice A l.length c ∧ Rd W W.heap.size A (txs l) ∧ TxIn W W.heap.size l ∧ l.length ≤ c ∧ (A = none → c = 0) ∧
      ((∀ n ∈ DataW.weights P T d, n ≤ reachBytes) → ∀ t ∈ l, t.2.2.length ≤ 140737488351232) := by
  obtain ⟨a, len, cap, rfl⟩ := okWide_slice hT hv
  obtain ⟨fuel, hf⟩ := h
  rcases open_int_rows hT hS hE hC hC' hf with ⟨hcs, hx⟩ | ⟨a', len', cap', A, L, C, Z, hcs, _, hl, _, hx, hrow⟩
  · simp [Value.cells] at hcs
    obtain ⟨rfl, rfl, rfl⟩ := hcs
    exact ⟨none, 0, [], rfl, Rd.nil, (fun t ht => by cases ht), by simp, fun _ => rfl, fun _ t ht => by cases ht⟩
  · simp [Value.cells] at hcs
    obtain ⟨rfl, rfl, rfl⟩ := hcs
    simp only [Prod.mk.injEq] at hx
    obtain ⟨rfl, rfl⟩ := hx
    have hone : ∀ i, i < len → ∃ t : Tx, W.cell? (a'.add i) = some (txv t) ∧ Rd W W.heap.size t.1 (bys t.2.2) ∧ t.2.2.length ≤ t.2.1 ∧ t.1 = A i ∧ t.2.2.length = L i := by
      intro i hi
      obtain ⟨h1, h2, h3, h4, h5, h6, h7⟩ := hrow i (by omega)
      have hlen : ((Z i).take (L i)).length = L i := by rw [List.length_take]; omega
      refine ⟨(A i, C i, ((Z i).take (L i)).map u8F), ?_, ?_, ?_, rfl, by show (((Z i).take (L i)).map u8F).length = L i; rw [List.length_map, hlen]⟩
      · rw [h1]
        simp only [txv, List.length_map, hlen]
      · show Rd W W.heap.size (A i) (bys (((Z i).take (L i)).map u8F))
        rw [bys_of fun x hx => h5 x (List.mem_of_mem_take hx)]
        intro hn
        rw [List.length_map, hlen] at hn
        rcases hA : A i with _ | ad
        · have := h6 hA
          omega
        · obtain ⟨_, h8⟩ := h7 ad hA
          obtain ⟨b, off, spot⟩ := ad
          have hspot : spot = none := by simpa [Addr.add] using World.cell?_spot (h8 0 (by omega))
          subst hspot
          refine ⟨b, off, rfl, hlt (.cell b off) (List.mem_append_right _ (List.mem_flatMap.2 ⟨i, List.mem_range.2 (by omega), ?_⟩)), fun j u hu => ?_⟩
          · rw [hA]
            exact MemPlace.mem_row.2 ⟨0, by omega, by simp⟩
          · simp only [List.getElem?_map, Option.map_eq_some_iff] at hu
            obtain ⟨x, hx, rfl⟩ := hu
            have hj : j < L i := by
              have := (List.getElem?_eq_some_iff.1 hx).1
              omega
            have h9 := h8 j (by omega)
            rw [add_plain] at h9
            rw [h9]
            rw [List.getElem?_take_of_lt hj] at hx
            simp [List.getD, hx]
      · rw [List.length_map, hlen]
        exact h2
    obtain ⟨l, hll, hq⟩ := list_of len hone
    refine ⟨some a', cap, l, by rw [hll], fun hn => ?_, fun t ht => ?_, by omega, (fun h => by cases h), fun hb => ?_⟩
    · rw [txs_len] at hn
      obtain ⟨b, off, spot⟩ := a'
      have h0 := (hq 0 (by omega)).1
      have hspot : spot = none := by simpa [Addr.add] using World.cell?_spot h0
      subst hspot
      refine ⟨b, off, rfl, hlt (.cell b off) (List.mem_append_left _ (MemPlace.mem_row.2 ⟨0, by omega, by simp⟩)), fun j u hu => ?_⟩
      have hj : j < l.length := by
        have := (List.getElem?_eq_some_iff.1 hu).1
        rwa [txs_len] at this
      rw [txs_at l j hj] at hu
      have h1 := (hq j hj).1
      rw [add_plain] at h1
      rw [h1, ← hu]
      rfl
    · obtain ⟨i, hil, rfl⟩ := List.getElem_of_mem ht
      exact ⟨(hq i hil).2.1, (hq i hil).2.2.1⟩
    · intro t ht
      obtain ⟨i, hil, rfl⟩ := List.getElem_of_mem ht
      obtain ⟨-, -, -, hA, hL⟩ := hq i hil
      rw [hL]
      obtain ⟨h1, h2, h3, h4, h5, h6, h7⟩ := hrow i (by omega)
      rcases hAi : A i with _ | ad
      · have := h6 hAi
        omega
      · have hd : intRow .u8 (A i) (L i) (Z i) = (.slice (((Z i).take (L i)).map fun n => (.lit (.int .u8 n) : DataW H)) (((Z i).drop (L i)).map fun n => .lit (.int .u8 n))) := by rw [hAi]; rfl
        have hin : (((Z i).take (L i)).length + ((Z i).drop (L i)).length) * P.bytesOf E ∈ DataW.weights P T (DataW.slice ((List.range len).map fun r => (intRow .u8 (A r) (L r) (Z r) : DataW H)) ((List.range (cap - len)).map fun j => intRow .u8 (A (len + j)) (L (len + j)) (Z (len + j)))) := by
          simp only [DataW.weights, hT, List.mem_cons, List.mem_append]
          right; left
          exact weights_in (d := (intRow .u8 (A i) (L i) (Z i) : DataW H)) (List.mem_map.2 ⟨i, List.mem_range.2 (by omega), rfl⟩) (by rw [hd]; simp [DataW.weights, hS])
        have := hb _ hin
        rw [hB] at this
        simp [reachBytes] at this
        omega
end
section
variable {H : Type} {enc : TypeId × Value → H} {W : World} {r : Reach} {b0 : Nat} {v : Value} {d : DataW H} {p : List MemPlace}
theorem okWide_arr' {k e : TypeId} {n : Nat} (hu : Try.prog.underlying k = some (.array n e)) (h : Value.okWide Try.prog W r b0 k v) : ∃ xs : Array Value, v = .agg xs := by
  simp only [Value.okWide, hu] at h
  obtain ⟨cs, h1, _, _⟩ := h
  exact ⟨cs, h1⟩
theorem open_secv (hv : Value.okWide Try.prog W r b0 46 v) (h : DataW.Trod enc Try.prog W 0 (fun _ => true) true 46 v d p) : ∃ s : Sec, v = .agg s.cs.toArray := by
  obtain ⟨cs, rfl⟩ := okWide_arr' Try.underlying46 hv
  obtain ⟨fuel, hf⟩ := h
  obtain ⟨s, hs⟩ := open_sec hf
  refine ⟨s, ?_⟩
  have : cs.toList = s.cs := hs
  rw [← this]
end
end Go.Proofs.Ytdcegkeaopjbnaa
