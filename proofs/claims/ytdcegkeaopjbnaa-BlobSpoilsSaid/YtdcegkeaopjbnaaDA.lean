/- The texts D EB EV EP. -/
import Derived.Test.YtdcegkeaopjbnaaBA
import Derived.Deep.Matrix
import Derived.ProofKit
import Derived.OpenShut
import Derived.SizedLaws
import Derived.Deep.Slices
import Derived.Deep.Fields
import Derived.Test.YtdcegkeaopjbnaaGA
import Derived.Test.YtdcegkeaopjbnaaVA
import Derived.Test.YtdcegkeaopjbnaaQA
import Derived.Lib.SmallJoins
set_option maxRecDepth 10000
namespace Go.Proofs.Ytdcegkeaopjbnaa

section
open Go.ChangeShapes Go.WideShapes Go.ChangeAt Go.RowKit Go.Deep

theorem Try.own : ownKnob Try.prog.godebug = none := by kernel_rfl
theorem Try.laidOut : laidOutB Try.prog = true := by kernel_rfl

section
variable {H : Type} {enc : TypeId × Value → H} {P : Program}
/-- Every argument reads behind the call as it did. -/
theorem trodAll_stays (hl : laidOutB P = true) {W W' : World} (hb : Below W.heap.size W W') {sp : Nat → Bool} : ∀ {ts : List TypeId} {vs : List Value} {ds : List (DataW H)} {ps : List MemPlace},
    (∀ t ∈ ts, P.readableRec t = true ∧ t < P.types.size) → DataW.TrodAll enc P W 0 (fun _ => true) true ts vs ds ps → (∀ x ∈ ps, x.block < W.heap.size) → (∀ x ∈ ps, sp x.block = true) →
    DataW.TrodAll enc P W' 0 sp true ts vs ds ps
  | [], vs, ds, ps, _, h, _, _ => by
    obtain ⟨rfl, rfl, rfl⟩ := trodAll_nil h
    exact trodAll_mk0
  | t :: ts, vs, ds, ps, hr, h, hlt, hsp => by
    obtain ⟨v, vs', d, ds', p, q, rfl, rfl, rfl, h1, h2⟩ := trodAll_cons h
    exact trodAll_cons_mk (WideElems.Trod_stays hl (hr t (by simp)).1 (hr t (by simp)).2 h1 (fun x hx => hb.same (hlt x (by simp [hx]))) (fun x hx => hsp x (by simp [hx])))
      (trodAll_stays hl hb (fun u hu => hr u (by simp [hu])) h2 (fun x hx => hlt x (by simp [hx])) (fun x hx => hsp x (by simp [hx])))

/-- A law's row: true, and each argument as it was, where nothing that lay has turned. -/
theorem law_post (hl : laidOutB P = true) {tb : TypeId} (htb : P.underlying tb = some .bool) {f : Func} {s : ChangeSpec} (hvars : s.vars = []) (hres : f.resultTypes = #[tb]) (hpar : ∀ t ∈ f.params.toList, P.readableRec t = true ∧ t < P.types.size)
    {W W' : World} {args : Array Value} {ds gs : List (DataW H)} {before : List MemPlace}
    (hW : DataW.Whole enc P f.params.toList s.vars false W args.toList ds gs before) (hfn : s.fn H (ds ++ gs) = { results := [.lit (.bool true)], args := ds }) (hb : Below W.heap.size W W') :
    s.post enc P f false true false false W args (.bool true) W' := by
  have hlt : ∀ p ∈ before, p.block < W.heap.size := fun p hp => hW.lt p hp
  have hW' := hW
  obtain ⟨p, q, hA0, hV, hpq, _, _⟩ := hW
  have hV' := hV
  rw [hvars] at hV'
  obtain ⟨rfl, rfl⟩ := trodVars_none hV'
  have hA : DataW.TrodAll enc P W 0 (fun _ => true) true f.params.toList args.toList ds p := hA0
  subst hpq
  simp only [List.append_nil] at hlt
  refine ⟨ds, _, _, [], p, [], hW', ?_, ?_, ?_, World.keptBut_mono (fun x hx => ⟨hx, by simpa using hx⟩) (hb.frame (· ∈ p ++ [])), fun h => by cases h⟩
  · rw [hfn, hres]
    exact trodAll_cons_mk (shut_bool htb _) trodAll_mk0
  · rw [hfn]
    exact trodAll_stays hl hb hpar hA hlt fun x hx => by simpa using hlt x hx
  · rw [hfn, hvars]
    rfl
end

theorem list_of {α : Type} {Q : Nat → α → Prop} : ∀ (n : Nat), (∀ i, i < n → ∃ x, Q i x) → ∃ l : List α, l.length = n ∧ ∀ i (h : i < l.length), Q i l[i]
  | 0, _ => ⟨[], rfl, fun i h => absurd h (by simp)⟩
  | n + 1, h => by
    obtain ⟨l, hl, hq⟩ := list_of n fun i hi => h i (by omega)
    obtain ⟨x, hx⟩ := h n (by omega)
    refine ⟨l ++ [x], by simp [hl], fun i hi => ?_⟩
    rcases Nat.lt_or_ge i n with hi' | hi'
    · rw [List.getElem_append_left (by omega)]
      exact hq i (by omega)
    · obtain rfl : i = n := by simp at hi; omega
      rw [List.getElem_append_right (by omega)]
      simpa [hl] using hx
theorem wf_i64 {x : Int} (h : (Lit.int .i64 x).wf = true) : I64 x := by
  unfold I64
  simpa [Lit.wf, IntKind.min, IntKind.max, IntKind.signed, IntKind.bits] using h
theorem wf_u64 {x : Int} (h : (Lit.int .u64 x).wf = true) : 0 ≤ x ∧ x < 18446744073709551616 := by
  simp [Lit.wf, IntKind.min, IntKind.max, IntKind.signed, IntKind.bits] at h
  omega
theorem wf_u8 {x : Int} (h : (Lit.int .u8 x).wf = true) : 0 ≤ x ∧ x < 256 := by
  simp [Lit.wf, IntKind.min, IntKind.max, IntKind.signed, IntKind.bits] at h
  omega
theorem wf_u32 {x : Int} (h : (Lit.int .u32 x).wf = true) : 0 ≤ x ∧ x < 4294967296 := by
  simp [Lit.wf, IntKind.min, IntKind.max, IntKind.signed, IntKind.bits] at h
  omega
end
section
open Go.ChangeShapes Go.WideShapes Go.ChangeAt Go.RowKit Go.Deep

section
variable {H : Type} {enc : TypeId × Value → H} {P : Program} {W : World} {r : Reach} {b0 : Nat} {v : Value} {d : DataW H} {p : List MemPlace}
theorem open_kints {T E : TypeId} {k : IntKind} {bytes : Nat} (hT : P.underlying T = some (.slice E)) (hE : P.underlying E = some (.int k)) (hC : P.cellsOf E = 1) (hB : P.bytesOf E = bytes)
    (hv : Value.okWide P W r b0 T v) (h : DataW.Trod enc P W 0 (fun _ => true) true T v d p) (hlt : ∀ x ∈ p, x.block < W.heap.size) :
    ∃ A c, ∃ l : List Int, v = .slice A l.length c ∧ Rd W W.heap.size A (l.map (Value.int k)) ∧ (∀ x ∈ l, (Lit.int k x).wf = true) ∧ l.length ≤ c ∧ (A = none → c = 0) ∧
      ((∀ elems spare, d = .slice elems spare → (elems.length + spare.length) * P.bytesOf E ≤ reachBytes) → l.length * bytes ≤ 140737488351232) := by
  obtain ⟨a, len, cap, rfl⟩ := okWide_slice hT hv
  obtain ⟨fuel, hf⟩ := h
  rcases open_ints hT hE hC hf with ⟨hcs, hx⟩ | ⟨a', len', cap', zs, hcs, _, hl, _, hz, hx, hcell, hwz⟩
  · simp [Value.cells] at hcs
    obtain ⟨rfl, rfl, rfl⟩ := hcs
    exact ⟨none, 0, [], rfl, Rd.nil, by simp, by simp, fun _ => rfl, fun _ => by simp⟩
  · simp [Value.cells] at hcs
    obtain ⟨rfl, rfl, rfl⟩ := hcs
    simp only [Prod.mk.injEq] at hx
    obtain ⟨rfl, rfl⟩ := hx
    simp only [if_true] at hz
    have hll : (zs.take len).length = len := by simp; omega
    refine ⟨some a', cap, zs.take len, by rw [hll], fun hn => ?_, fun x hx => hwz x (List.mem_of_mem_take hx), by omega, (fun h => by cases h), fun hb => ?_⟩
    · simp only [List.length_map, hll] at hn
      obtain ⟨b, off, spot⟩ := a'
      have hspot : spot = none := by simpa [Addr.add] using World.cell?_spot (hcell 0 (by omega))
      subst hspot
      refine ⟨b, off, rfl, hlt (.cell b off) (MemPlace.mem_row.2 ⟨0, by omega, by simp⟩), fun j u hu => ?_⟩
      simp only [List.getElem?_map, Option.map_eq_some_iff] at hu
      obtain ⟨x, hx, rfl⟩ := hu
      have hj : j < len := by
        have := (List.getElem?_eq_some_iff.1 hx).1
        omega
      have := hcell j (by omega)
      rw [add_plain] at this
      rw [this]
      rw [List.getElem?_take_of_lt hj] at hx
      simp [List.getD, hx]
    · have := hb _ _ rfl
      rw [hB] at this
      simp [reachBytes, lits] at this
      have hm : len * bytes ≤ (min len zs.length + (zs.length - len)) * bytes := Nat.mul_le_mul_right _ (by omega)
      rw [hll]
      omega
def u8F (x : Int) : UInt8 := UInt8.ofNat x.toNat
theorem bys_of : ∀ {l : List Int}, (∀ x ∈ l, (Lit.int .u8 x).wf = true) → bys (l.map u8F) = l.map (Value.int .u8)
  | [], _ => rfl
  | x :: l, h => by
    have h1 := bys_of (l := l) fun y hy => h y (by simp [hy])
    obtain ⟨hx1, hx2⟩ := wf_u8 (h x (by simp))
    simp only [bys, List.map_cons, List.cons.injEq] at h1 ⊢
    refine ⟨?_, h1⟩
    congr 1
    unfold u8F
    rw [UInt8.toNat_ofNat']
    omega
theorem open_bys {T E : TypeId} (hT : P.underlying T = some (.slice E)) (hE : P.underlying E = some (.int .u8)) (hC : P.cellsOf E = 1) (hB : P.bytesOf E = 1)
    (hv : Value.okWide P W r b0 T v) (h : DataW.Trod enc P W 0 (fun _ => true) true T v d p) (hlt : ∀ x ∈ p, x.block < W.heap.size) :
    ∃ A c, ∃ l : List UInt8, v = .slice A l.length c ∧ Rd W W.heap.size A (bys l) ∧ l.length ≤ c ∧ (A = none → c = 0) ∧
      ((∀ elems spare, d = .slice elems spare → (elems.length + spare.length) * P.bytesOf E ≤ reachBytes) → l.length ≤ 140737488351232) := by
  obtain ⟨A, c, l, rfl, h1, h2, h3, h4, h5⟩ := open_kints hT hE hC hB hv h hlt
  exact ⟨A, c, l.map u8F, by rw [List.length_map], by rw [bys_of h2]; exact h1, by rw [List.length_map]; exact h3, h4, by rw [List.length_map]; intro hh; have := h5 hh; omega⟩
/-- A list is no longer than what it is read as. -/
theorem len_read {T E : TypeId} {k : IntKind} {A : Option Addr} {n c : Nat} (hT : P.underlying T = some (.slice E)) (hE : P.underlying E = some (.int k)) (hC : P.cellsOf E = 1)
    (h : DataW.Trod enc P W 0 (fun _ => true) true T (.slice A n c) d p) : n = 0 ∨ ∃ elems spare, d = .slice elems spare ∧ n ≤ elems.length := by
  obtain ⟨fuel, hf⟩ := h
  rcases open_ints hT hE hC hf with ⟨hcs, hx⟩ | ⟨a', len', cap', zs, hcs, _, hl, _, hz, hx, hcell, hwz⟩
  · simp [Value.cells] at hcs
    exact .inl hcs.2.1
  · simp [Value.cells] at hcs
    obtain ⟨rfl, rfl, rfl⟩ := hcs
    simp only [Prod.mk.injEq] at hx
    obtain ⟨rfl, rfl⟩ := hx
    simp only [if_true] at hz
    exact .inr ⟨_, _, rfl, by simp [lits]; omega⟩
theorem bulk_len : ∀ l : List (DataW H), l.length ≤ Rows.uptoBulkAll l
  | [] => by simp [Rows.uptoBulkAll]
  | x :: r => by
    have h1 : 1 ≤ Rows.uptoBulk x := by
      cases x with
      | lit l => cases l <;> simp [Rows.uptoBulk]
      | _ => simp [Rows.uptoBulk]
    have := bulk_len r
    simp only [Rows.uptoBulkAll, List.length_cons]
    omega
theorem len_bulk {T E : TypeId} {k : IntKind} {A : Option Addr} {n c : Nat} (hT : P.underlying T = some (.slice E)) (hE : P.underlying E = some (.int k)) (hC : P.cellsOf E = 1)
    (h : DataW.Trod enc P W 0 (fun _ => true) true T (.slice A n c) d p) : n ≤ Rows.uptoBulk d := by
  rcases len_read hT hE hC h with rfl | ⟨elems, spare, rfl, hn⟩
  · omega
  · have := bulk_len elems
    simp only [Rows.uptoBulk]
    omega
end
end
section
open Go.ChangeShapes Go.WideShapes Go.ChangeAt Go.RowKit Go.Deep

/-- Something that is done with a device: 'keep' is a slice of bools, whatever it holds. -/
structure Deed where
  kind : Int
  at_ : Int
  data : Sec
  keep : Value
  hk : I64 kind
  ha : I64 at_
  h1 : keep.oneCell' = true
def Deed.cs (d : Deed) : List Value := .int .i64 d.kind :: .int .i64 d.at_ :: (d.data.cs ++ [d.keep])
theorem Deed.cs_len (d : Deed) : d.cs.length = 131 := by simp [Deed.cs, Sec.cs_len]
theorem Deed.one (d : Deed) : ∀ u ∈ d.cs, u.oneCell' = true := by
  intro u hu
  simp only [Deed.cs, List.mem_cons, List.mem_append, List.not_mem_nil, or_false] at hu
  rcases hu with rfl | rfl | hu | rfl
  · rfl
  · rfl
  · exact d.data.one u hu
  · exact d.h1
def flatD (l : List Deed) : List Value := l.flatMap Deed.cs
theorem flatD_len : ∀ l : List Deed, (flatD l).length = l.length * 131
  | [] => rfl
  | s :: r => by
    have := flatD_len r
    simp only [flatD, List.flatMap_cons, List.length_append, Deed.cs_len, List.length_cons] at this ⊢
    omega
theorem flatD_at : ∀ (l : List Deed) (i : Nat) (h : i < l.length) (j : Nat), j < 131 → (flatD l)[i * 131 + j]? = (l[i].cs)[j]?
  | s :: r, 0, _, j, hj => by
    simp only [flatD, List.flatMap_cons, Nat.zero_mul, Nat.zero_add, List.getElem_cons_zero]
    rw [List.getElem?_append_left (by rw [Deed.cs_len]; exact hj)]
  | s :: r, i + 1, h, j, hj => by
    have := flatD_at r i (by simpa using h) j hj
    simp only [flatD, List.flatMap_cons, List.getElem_cons_succ] at this ⊢
    rw [List.getElem?_append_right (by rw [Deed.cs_len]; omega), Deed.cs_len, show (i + 1) * 131 + j - 131 = i * 131 + j by omega]
    exact this
theorem rd_deed {w : World} {B : Nat} {A : Option Addr} {l : List Deed} (h : Rd w B A (flatD l)) (k : Nat) (hk : k < l.length) : ∃ b off, A = some ⟨b, off, none⟩ ∧ b < B ∧ w.rangeAt b (off + k * 131) l[k].cs := by
  obtain ⟨b, off, e, hl, hc⟩ := h (by rw [flatD_len]; omega)
  refine ⟨b, off, e, hl, fun j v hv => ?_⟩
  have hj : j < 131 := by have := (List.getElem?_eq_some_iff.1 hv).1; rwa [Deed.cs_len] at this
  rw [Nat.add_assoc]
  exact hc _ v (by rw [flatD_at l k hk j hj]; exact hv)

theorem cells_bool : Try.prog.cellsOf 4 = 1 := by kernel_rfl
theorem bytes_bool : Try.prog.bytesOf 4 = 1 := by kernel_rfl
theorem cells_sec : Try.prog.cellsOf 46 = 128 := by kernel_rfl
theorem cells_u8 : Try.prog.cellsOf 5 = 1 := by kernel_rfl
theorem cells_int : Try.prog.cellsOf 3 = 1 := by kernel_rfl
section
variable {H : Type} {enc : TypeId × Value → H} {W : World} {r : Reach} {b0 : Nat} {v : Value} {d : DataW H} {p : List MemPlace}
theorem open_sec {fuel : Nat} {cs : List Value} {x : DataW H × List MemPlace} (h : DataW.trod enc Try.prog W 0 (fun _ => true) true fuel 46 cs = some x) : ∃ s : Sec, cs = s.cs := by
  obtain ⟨xs, m, _, _, hl, hn, hx⟩ := DataW.trod_array Try.underlying46 h
  rw [cells_sec] at hl
  have each : ∀ i, i < 128 → ∃ b : UInt8, cs[i]? = some (.int .u8 (b.toNat : Int)) := fun i hi => by
    have h1 := hx i hi
    rw [cells_u8, Nat.mul_one] at h1
    have hi2 : i < cs.length := by omega
    rw [List.drop_eq_getElem_cons hi2, List.take_succ_cons, List.take_zero] at h1
    obtain ⟨n, hc, _, hw⟩ := DataW.trod_int Try.underlying5 (h1.trans (List.getElem?_eq_getElem (by omega)))
    simp only [List.cons.injEq, and_true] at hc
    obtain ⟨hn1, hn2⟩ := wf_u8 hw
    refine ⟨UInt8.ofNat n.toNat, ?_⟩
    rw [List.getElem?_eq_getElem hi2, hc, UInt8.toNat_ofNat']
    congr 2
    omega
  obtain ⟨l, hll, hl2⟩ := list_of 128 each
  refine ⟨⟨l, hll⟩, List.ext_getElem? fun i => ?_⟩
  by_cases hi : i < 128
  · rw [hl2 i (by omega)]
    exact (bys_at l i (by omega)).symm
  · rw [List.getElem?_eq_none (by omega), List.getElem?_eq_none (by rw [Sec.cs_len]; omega)]
end
end
section
open Go.ChangeShapes Go.WideShapes Go.ChangeAt Go.RowKit Go.Deep

section
variable {H : Type} {enc : TypeId × Value → H} {P : Program} {W : World} {r : Reach} {b0 : Nat} {v : Value} {d : DataW H} {p : List MemPlace}
theorem open_ptr {H : Type} {enc : TypeId × Value → H} {W : World} {r : Reach} {b0 : Nat} {v : Value} {d : DataW H} {p : List MemPlace}
    (hv : Value.okWide Try.prog W r b0 25 v) (h : DataW.Trod enc Try.prog W 0 (fun _ => true) true 25 v d p) : ∃ a b s, v = ptv a b s ∧ IsPtr a b s := by
  obtain ⟨v0, v1, v2, y0, y1, y2, n, rfl, -, -, h0, h1, h2⟩ := Go.Joins.open_agg3 Try.underlying25 (by kernel_rfl) (by kernel_rfl) hv h
  obtain ⟨x0, e0, _, w0⟩ := DataW.trod_int Try.underlying3 h0
  obtain ⟨x1, e1, _, w1⟩ := DataW.trod_int Try.underlying22 h1
  obtain ⟨x2, e2, _, w2⟩ := DataW.trod_int Try.underlying23 h2
  simp only [List.cons.injEq, and_true] at e0 e1 e2
  subst e0 e1 e2
  have i0 := wf_i64 w0
  have i1 := wf_u64 w1
  have i2 := wf_u32 w2
  exact ⟨x0, x1, x2, rfl, i0.1, i0.2, i1.1, i1.2, i2.1, i2.2⟩
end
end
end Go.Proofs.Ytdcegkeaopjbnaa
