/- Arguments opened: lists of acts (an uber, a number, bools); four ubers. -/
import Derived.Test.YtegcknloemgndaaEU
import Derived.Test.YtegcknloemgndaaSP2
set_option maxRecDepth 10000
namespace Go.Proofs.Ytegcknloemgndaa
open Go.ChangeShapes Go.WideShapes Go.ChangeAt Go.RowKit Go.Deep

def bls (l : List Bool) : List Value := l.map Value.bool
theorem bls_len (l : List Bool) : (bls l).length = l.length := by simp [bls]
theorem bls_one (l : List Bool) : ∀ u ∈ bls l, u.oneCell' = true := by
  intro u hu
  simp only [bls, List.mem_map] at hu
  obtain ⟨b, _, rfl⟩ := hu
  rfl
/-- An act of the laws. -/
structure UAct where
  u : Ub
  brk : Int
  keep : List Bool
  ka : Option Addr
  kc : Nat
  hb : I64 brk
def UAct.cs (a : UAct) : List Value := a.u.cs ++ [.int .i64 a.brk, .slice a.ka a.keep.length a.kc]
theorem UAct.cs_len (a : UAct) : a.cs.length = 9 := rfl
theorem UAct.one (a : UAct) : ∀ v ∈ a.cs, v.oneCell' = true := by
  intro v hv
  rcases List.mem_append.1 hv with hv | hv
  · exact a.u.one v hv
  · simp only [List.mem_cons, List.not_mem_nil, or_false] at hv
    rcases hv with rfl | rfl <;> rfl
def flatA (l : List UAct) : List Value := l.flatMap UAct.cs
theorem flatA_len : ∀ l : List UAct, (flatA l).length = l.length * 9
  | [] => rfl
  | s :: r => by
    have := flatA_len r
    simp only [flatA, List.flatMap_cons, List.length_append, UAct.cs_len, List.length_cons] at this ⊢
    omega
theorem flatA_at : ∀ (l : List UAct) (i : Nat) (h : i < l.length) (j : Nat), j < 9 → (flatA l)[i * 9 + j]? = (l[i].cs)[j]?
  | s :: r, 0, _, j, hj => by
    simp only [flatA, List.flatMap_cons, Nat.zero_mul, Nat.zero_add, List.getElem_cons_zero]
    rw [List.getElem?_append_left (by rw [UAct.cs_len]; exact hj)]
  | s :: r, i + 1, h, j, hj => by
    have := flatA_at r i (by simpa using h) j hj
    simp only [flatA, List.flatMap_cons, List.getElem_cons_succ] at this ⊢
    rw [List.getElem?_append_right (by rw [UAct.cs_len]; omega), UAct.cs_len, show (i + 1) * 9 + j - 9 = i * 9 + j by omega]
    exact this
theorem rd_uact {w : World} {B : Nat} {A : Option Addr} {l : List UAct} (h : Rd w B A (flatA l)) (k : Nat) (hk : k < l.length) : ∃ b off, A = some ⟨b, off, none⟩ ∧ b < B ∧ w.rangeAt b (off + k * 9) l[k].cs := by
  obtain ⟨b, off, e, hl, hc⟩ := h (by rw [flatA_len]; omega)
  refine ⟨b, off, e, hl, fun j v hv => ?_⟩
  have hj : j < 9 := by have := (List.getElem?_eq_some_iff.1 hv).1; rwa [UAct.cs_len] at this
  rw [Nat.add_assoc]
  exact hc _ v (by rw [flatA_at l k hk j hj]; exact hv)
/-- What is known of the bools of acts. -/
def KeepOk (w : World) (B : Nat) (l : List UAct) : Prop := ∀ a ∈ l, Rd w B a.ka (bls a.keep) ∧ a.keep.length ≤ 140737488351232
theorem cells_uact : Try.prog.cellsOf 51 = 9 := by kernel_rfl
section
variable {H : Type} {enc : TypeId × Value → H} {W : World} {r : Reach} {b0 : Nat} {v : Value} {d : DataW H} {p : List MemPlace}
theorem weights_all {P : Program} {e : TypeId} {x : DataW H} {n : Nat} : ∀ {l : List (DataW H)}, x ∈ l → n ∈ DataW.weights P e x → n ∈ DataW.weightsAll P e l
  | y :: l, h, hn => by
    unfold DataW.weightsAll
    rcases List.mem_cons.1 h with rfl | h
    · exact List.mem_append_left _ hn
    · exact List.mem_append_right _ (weights_all h hn)
theorem open_boolsc {fuel : Nat} {cs : List Value} {x : DataW H × List MemPlace} (h : DataW.trod enc Try.prog W 0 (fun _ => true) true fuel 49 cs = some x) (hlt : ∀ q ∈ x.2, q.block < W.heap.size) :
    ∃ A c, ∃ l : List Bool, cs = [.slice A l.length c] ∧ Rd W W.heap.size A (bls l) ∧ ((∀ n ∈ DataW.weights Try.prog 49 x.1, n ≤ reachBytes) → l.length ≤ 140737488351232) := by
  rcases open_slice1 Try.underlying49 cells_bool h with ⟨hcs, hx⟩ | ⟨a', len', cap', m, n, V, D, Pl, hcs, _, hl, _, hmm, hx, hcell⟩
  · exact ⟨none, 0, [], hcs, Rd.nil, fun _ => by simp⟩
  · simp only [if_true] at hmm
    have each : ∀ i, i < len' → ∃ b : Bool, W.cell? (a'.add i) = some (.bool b) := fun i hi => by
      obtain ⟨h1, h2⟩ := hcell i (by omega)
      obtain ⟨b, hb, _⟩ := DataW.trod_bool Try.underlying4 h2
      simp only [List.cons.injEq, and_true] at hb
      exact ⟨b, by rw [h1, hb]⟩
    obtain ⟨l, hll, hl2⟩ := list_of len' each
    subst hx
    refine ⟨some a', cap', l, by rw [hll]; exact hcs, fun hn => ?_, fun hb => ?_⟩
    · simp only [bls, List.length_map] at hn
      obtain ⟨b, off, spot⟩ := a'
      have hspot : spot = none := by simpa [Addr.add] using World.cell?_spot (hl2 0 hn)
      subst hspot
      refine ⟨b, off, rfl, hlt (.cell b off) (List.mem_append_left _ (MemPlace.mem_row.2 ⟨0, by omega, by simp⟩)), fun j u hu => ?_⟩
      simp only [bls, List.getElem?_map, Option.map_eq_some_iff] at hu
      obtain ⟨x, hx, rfl⟩ := hu
      obtain ⟨hj, hxe⟩ := List.getElem?_eq_some_iff.1 hx
      have := hl2 j hj
      rw [add_plain, hxe] at this
      exact this
    · have := hb _ (show _ ∈ DataW.weights Try.prog 49 _ by simp only [DataW.weights, Try.underlying49]; exact List.mem_cons_self)
      rw [bytes_bool] at this
      simp [reachBytes] at this
      omega
theorem open_uact {fuel : Nat} {cs : List Value} {x : DataW H × List MemPlace} (h : DataW.trod enc Try.prog W 0 (fun _ => true) true fuel 51 cs = some x) (hlt : ∀ q ∈ x.2, q.block < W.heap.size) :
    ∃ a : UAct, cs = a.cs ∧ Rd W W.heap.size a.ka (bls a.keep) ∧ ((∀ n ∈ DataW.weights Try.prog 51 x.1, n ≤ reachBytes) → a.keep.length ≤ 140737488351232) := by
  obtain ⟨xs, m, _, hxx, hl, hn, hx⟩ := DataW.trod_struct Try.underlying51 h
  subst hxx
  rw [cells_uact] at hl
  have hn3 : xs.length = 3 := hn
  obtain ⟨x0, x1, x2, rfl⟩ : ∃ x0 x1 x2, xs = [x0, x1, x2] := by
    rcases xs with _ | ⟨x0, _ | ⟨x1, _ | ⟨x2, _ | ⟨x3, t⟩⟩⟩⟩ <;> simp at hn3
    exact ⟨x0, x1, x2, rfl⟩
  have h0 : DataW.trod enc Try.prog W 0 (fun _ => true) true m 27 ((cs.drop 0).take (Try.prog.cellsOf 27)) = some x0 := hx 0 _ rfl
  have h1 : DataW.trod enc Try.prog W 0 (fun _ => true) true m 3 ((cs.drop 7).take (Try.prog.cellsOf 3)) = some x1 := hx 1 _ rfl
  have h2 : DataW.trod enc Try.prog W 0 (fun _ => true) true m 49 ((cs.drop 8).take (Try.prog.cellsOf 49)) = some x2 := hx 2 _ rfl
  obtain ⟨u, hu⟩ := open_ubc h0
  obtain ⟨k, hk, _, wk⟩ := DataW.trod_int Try.underlying3 h1
  obtain ⟨A, c, l, hb, hr, hlen⟩ := open_boolsc h2 (fun q hq => hlt q (by simp [hq]))
  simp only [cells_ub, List.drop_zero] at hu
  simp only [cells_int] at hk
  simp only [cells_bools] at hb
  refine ⟨⟨u, k, l, A, c, wf_i64 wk⟩, ?_, hr, fun hw => hlen fun n hn => hw n ?_⟩
  · have e : cs = cs.take 7 ++ ((cs.drop 7).take 1 ++ (cs.drop 8).take 1) := by
      have e2 : (cs.drop 8).take 1 = cs.drop 8 := List.take_of_length_le (by rw [List.length_drop]; omega)
      have e1 : (cs.drop 7).take 1 ++ cs.drop 8 = cs.drop 7 := by
        have := List.take_append_drop 1 (cs.drop 7)
        rwa [List.drop_drop] at this
      rw [e2, e1, List.take_append_drop]
    rw [e, hu, hk, hb]
    rfl
  · have ht : ((Try.prog.fieldsOf 51).toList.map (·.type)) = [27, 3, 49] := by kernel_rfl
    unfold Program.fieldsOf at ht
    simp only [Try.underlying51] at ht
    simp only [DataW.weights, Try.underlying51, ht, List.map_cons, List.map_nil, DataW.weightsEach]
    exact List.mem_append_right _ (List.mem_append_right _ (List.mem_append_left _ hn))
theorem open_uacts (hv : Value.okWide Try.prog W r b0 43 v) (h : DataW.Trod enc Try.prog W 0 (fun _ => true) true 43 v d p) (hlt : ∀ x ∈ p, x.block < W.heap.size) (hw : ∀ n ∈ DataW.weights Try.prog 43 d, n ≤ reachBytes) :
    ∃ A c, ∃ l : List UAct, v = .slice A l.length c ∧ Rd W W.heap.size A (flatA l) ∧ KeepOk W W.heap.size l := by
  obtain ⟨a, len, cap, rfl⟩ := okWide_slice Try.underlying43 hv
  obtain ⟨fuel, hf⟩ := h
  rcases open_slice Try.underlying43 hf with ⟨hcs, hx⟩ | ⟨a', len', cap', m, n, D, Pl, hcs, _, hl, _, hmm, hx, hcell⟩
  · simp [Value.cells] at hcs
    obtain ⟨rfl, rfl, rfl⟩ := hcs
    exact ⟨none, 0, [], rfl, Rd.nil, fun _ h => by cases h⟩
  · simp [Value.cells] at hcs
    obtain ⟨rfl, rfl, rfl⟩ := hcs
    simp only [Prod.mk.injEq] at hx
    obtain ⟨rfl, rfl⟩ := hx
    simp only [if_true] at hmm
    have each : ∀ i, i < len → ∃ d : UAct, (∀ j, j < 9 → W.cell? (a'.add (i * 9 + j)) = d.cs[j]?) ∧ Rd W W.heap.size d.ka (bls d.keep) ∧ d.keep.length ≤ 140737488351232 := fun i hi => by
      obtain ⟨cs', h1, h2⟩ := hcell i (by omega)
      rw [cells_uact] at h1
      obtain ⟨_, hlen, hc⟩ := World.cells?_some h1
      obtain ⟨d, rfl, hr, hk⟩ := open_uact h2 (fun q hq => hlt q (List.mem_append_right _ (List.mem_flatMap.2 ⟨i, List.mem_range.2 (by omega), hq⟩)))
      refine ⟨d, fun j hj => ?_, hr, hk fun n hn => hw n ?_⟩
      · have := hc j hj
        rwa [add_add] at this
      · simp only [DataW.weights, Try.underlying43]
        refine List.mem_cons_of_mem _ (List.mem_append_left _ (weights_all (x := D i) (List.mem_map.2 ⟨i, List.mem_range.2 hi, rfl⟩) hn))
    obtain ⟨l, hll, hl2⟩ := list_of len each
    refine ⟨some a', cap, l, by rw [hll], fun hn => ?_, fun x hx => ?_⟩
    · rw [flatA_len] at hn
      obtain ⟨b, off, spot⟩ := a'
      have h00 := (hl2 0 (by omega)).1 0 (by omega)
      have hspot : spot = none := by
        have h00' : W.cell? (({ block := b, off := off, spot := spot } : Addr).add (0 * 9 + 0)) = some (.int .u64 ((l[0]'(by omega)).u.txg : Int)) := h00
        simpa [Addr.add] using World.cell?_spot h00'
      subst hspot
      refine ⟨b, off, rfl, hlt (.cell b off) (List.mem_append_left _ (MemPlace.mem_row.2 ⟨0, by rw [cells_uact]; omega, by simp⟩)), fun j u hu => ?_⟩
      have hj : j < l.length * 9 := by have := (List.getElem?_eq_some_iff.1 hu).1; rwa [flatA_len] at this
      have h1 : j = j / 9 * 9 + j % 9 := by omega
      have h2 : j / 9 < l.length := by omega
      have h3 : j % 9 < 9 := by omega
      generalize j / 9 = q at *
      generalize j % 9 = t at *
      subst h1
      rw [flatA_at l q h2 t h3] at hu
      have := (hl2 q h2).1 t h3
      rw [add_plain] at this
      rw [this, hu]
    · obtain ⟨i, hi, rfl⟩ := List.getElem_of_mem hx
      exact (hl2 i hi).2
end
end Go.Proofs.Ytegcknloemgndaa
