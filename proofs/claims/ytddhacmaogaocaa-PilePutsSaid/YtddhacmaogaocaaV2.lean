
/- The device: its state as plain data, what each call does to it, and how it lies in memory. -/
import Derived.Test.YtddhacmaogaocaaV1
set_option maxRecDepth 10000
namespace Go.Proofs.Ytddhacmaogaocaa
open Go.RowKit

theorem infoSec : (Try.prog.info? 23).map (fun i => (i.zero, i.size, i.bytes)) = some (some (.agg zsec.cs.toArray), 128, 128) := by kernel_rfl
theorem infoW : (Try.prog.info? 70).map (fun i => (i.zero, i.size, i.bytes)) = some (some (.agg (wcs (0, zsec)).toArray), 129, 136) := by kernel_rfl
theorem sizeSec : (Try.prog.info? 23).map (·.size) = some 128 := by kernel_rfl
theorem sizeSec' (s : Sec) : (Try.prog.info? 23).map (·.size) = some s.cs.length := by rw [Sec.cs_len]; exact sizeSec
theorem sizeSec'' (s : Sec) : (Try.prog.info? 23).map (·.size) = some s.cs.toArray.size := by rw [List.size_toArray, Sec.cs_len]; exact sizeSec
theorem sizeW : (Try.prog.info? 70).map (·.size) = some 129 := by kernel_rfl
theorem sizeW' (p : Nat × Sec) : (Try.prog.info? 70).map (·.size) = some (wcs p).length := by rw [wcs_len]; exact sizeW
theorem sizeW'' (p : Nat × Sec) : (Try.prog.info? 70).map (·.size) = some (wcs p).toArray.size := by rw [List.size_toArray, wcs_len]; exact sizeW
theorem zeroSec (w : World) : Sem.run Try.prog (zeroValue 23) w = .ok (.agg zsec.cs.toArray) w := by
  obtain ⟨i, hi, hz, _, _⟩ := info_parts infoSec
  simp [zeroValue, typeInfo, hi, hz]
theorem zeroW (w : World) : Sem.run Try.prog (zeroValue 70) w = .ok (.agg (wcs (0, zsec)).toArray) w := by
  obtain ⟨i, hi, hz, _, _⟩ := info_parts infoW
  simp [zeroValue, typeInfo, hi, hz]
theorem all_one {cs : List Value} (h : ∀ v ∈ cs, v.oneCell' = true) : cs.toArray.all (·.oneCell') = true := all_oneCell_toArray h

/-! ### Arrays and structs put together -/
theorem foldl_zip (off : Nat) : ∀ (l : List Value) (m : Nat) (z : Array Value), off + m + l.length ≤ z.size →
    ((l.zipIdx m).foldl (fun cs x => cs.setIfInBounds (off + x.2) x.1) z).size = z.size ∧
    ∀ k, ((l.zipIdx m).foldl (fun cs x => cs.setIfInBounds (off + x.2) x.1) z)[k]? = if off + m ≤ k ∧ k < off + m + l.length then l[k - (off + m)]? else z[k]?
  | [], m, z, _ => ⟨rfl, fun k => by rw [if_neg (by simp)]; rfl⟩
  | v :: r, m, z, hl => by
    simp only [List.length_cons] at hl
    obtain ⟨h1, h2⟩ := foldl_zip off r (m + 1) (z.setIfInBounds (off + m) v) (by simp; omega)
    simp only [List.zipIdx_cons, List.foldl_cons, List.length_cons]
    refine ⟨by rw [h1]; simp, fun k => ?_⟩
    rw [h2 k]
    rcases Nat.lt_trichotomy k (off + m) with hk | hk | hk
    · rw [if_neg (by omega), if_neg (by omega), Array.getElem?_setIfInBounds_ne (by omega)]
    · subst hk
      rw [if_neg (by omega), if_pos (by omega)]
      simp only [Nat.sub_self, List.getElem?_cons_zero]
      rw [Array.getElem?_setIfInBounds_self_of_lt (by omega)]
    · by_cases hk2 : k < off + m + (r.length + 1)
      · rw [if_pos (by omega), if_pos (by omega), show k - (off + m) = (k - (off + (m + 1))) + 1 by omega, List.getElem?_cons_succ]
      · rw [if_neg (by omega), if_neg (by omega), Array.getElem?_setIfInBounds_ne (by omega)]
theorem fill_two (a : Nat) (s : Sec) :
    Instr.fill (fun i => (#[(0, 1), (1, 128)] : Array (Nat × Nat))[i]?) (wcs (0, zsec)).toArray [(0, .int .i64 (a : Int)), (1, .agg s.cs.toArray)] = some (wcs (a, s)).toArray := by
  have h0 : (wcs (0, zsec)).toArray.size = 129 := by rw [List.size_toArray, wcs_len]
  have h1 : s.cs.toArray.size = 128 := by rw [List.size_toArray, Sec.cs_len]
  have e1 : ∀ z : Array Value, (#[Value.int .i64 (a : Int)] : Array Value).zipIdx.foldl (fun cs (c, j) => cs.setIfInBounds (0 + j) c) z = z.setIfInBounds 0 (.int .i64 (a : Int)) := fun z => by simp
  have e2 : ∀ z : Array Value, s.cs.toArray.zipIdx.foldl (fun cs (c, j) => cs.setIfInBounds (1 + j) c) z = (s.cs.zipIdx 0).foldl (fun cs x => cs.setIfInBounds (1 + x.2) x.1) z := fun z => by
    rw [← Array.foldl_toList, Array.toList_zipIdx]
  unfold Instr.fill
  simp only [List.getElem?_toArray, List.getElem?_cons_zero, Value.cells, h0, e1]
  rw [if_neg (by simp)]
  unfold Instr.fill
  have hcs : (Value.agg s.cs.toArray).cells = s.cs.toArray := rfl
  simp only [List.getElem?_cons_succ, List.getElem?_cons_zero, hcs, h0, h1, e2, Array.size_setIfInBounds]
  rw [if_neg (by decide)]
  unfold Instr.fill
  obtain ⟨h2, h3⟩ := foldl_zip 1 s.cs 0 ((wcs (0, zsec)).toArray.setIfInBounds 0 (.int .i64 (a : Int))) (by rw [Array.size_setIfInBounds, h0, Sec.cs_len]; omega)
  refine congrArg some (Array.ext_getElem? fun k => ?_)
  have hR : ∀ p : Nat × Sec, (wcs p).toArray[k]? = (wcs p)[k]? := fun p => List.getElem?_toArray ..
  rw [h3 k, hR]
  simp only [Nat.add_zero, Sec.cs_len]
  rcases Nat.eq_zero_or_pos k with rfl | hk
  · rw [if_neg (by omega), Array.getElem?_setIfInBounds_self_of_lt (by rw [h0]; omega)]
    rfl
  · by_cases hj : k < 129
    · rw [if_pos (by omega)]
      obtain ⟨j, rfl⟩ : ∃ j, k = j + 1 := ⟨k - 1, by omega⟩
      rw [Nat.add_sub_cancel]
      rfl
    · rw [if_neg (by omega), Array.getElem?_setIfInBounds_ne (by omega), hR, List.getElem?_eq_none (by rw [wcs_len]; omega), List.getElem?_eq_none (by rw [wcs_len]; omega)]
theorem buildW (a : Nat) (s : Sec) (w : World) : (Instr.build 70 #[(0, .int .i64 (a : Int)), (1, .agg s.cs.toArray)]).run Try.prog w = .ok (.agg (wcs (a, s)).toArray) w := by
  refine run_build w _ _ _ ?_
  obtain ⟨i, hi, hz, hs, _⟩ := info_parts infoW
  have hp : (Try.prog.fieldsOf 70).toList.mapM (fun f => (Try.prog.info? f.type).map fun i => (f.offset, i.size)) = some [(0, 1), (1, 128)] := by kernel_rfl
  unfold Program.built
  simp only [hi, Try.underlying70, hz]
  unfold Program.fieldsOf at hp
  simp only [Try.underlying70] at hp
  rw [hp]
  exact fill_two a s
theorem buildZ (w : World) : (Instr.build 23 #[]).run Try.prog w = .ok (.agg zsec.cs.toArray) w := by
  refine run_build w _ _ _ ?_
  kernel_rfl
def osec (b : UInt8) : Sec := ⟨b :: List.replicate 127 0, by rw [List.length_cons, List.length_replicate]⟩
theorem build1 (w : World) : (Instr.build 23 #[(0, .int .u8 1)]).run Try.prog w = .ok (.agg (osec 1).cs.toArray) w := by
  refine run_build w _ _ _ ?_
  kernel_rfl
theorem build2 (w : World) : (Instr.build 23 #[(0, .int .u8 2)]).run Try.prog w = .ok (.agg (osec 2).cs.toArray) w := by
  refine run_build w _ _ _ ?_
  kernel_rfl
/-! ### Two sectors held against each other -/
theorem run_eqSec (s t : Sec) (w : World) : (Op.equal 23 (.agg s.cs.toArray) (.agg t.cs.toArray)).run Try.prog w = .ok (s.same t) w := by
  have hq : ∀ s : Sec, ∀ i ∈ List.range 128, Try.prog.keyLits 1 5 ((s.cs.toArray.toList.drop (i * Try.prog.cellsOf 5)).take (Try.prog.cellsOf 5)) = some [.int .u8 ((s.l.getD i 0).toNat : Int)] := by
    intro s i hi
    have hi := List.mem_range.1 hi
    have hc : Try.prog.cellsOf 5 = 1 := by kernel_rfl
    rw [hc, Nat.mul_one]
    have hd : (s.cs.toArray.toList.drop i).take 1 = [.int .u8 ((s.l.getD i 0).toNat : Int)] := by
      have h1 : i < s.cs.length := by rw [Sec.cs_len]; exact hi
      rw [List.drop_eq_getElem_cons h1, List.take_succ_cons, List.take_zero]
      have h2 := s.at_ i hi
      rw [List.getElem?_eq_getElem h1] at h2
      simp only [Option.some.injEq] at h2
      rw [h2]
      simp [List.getD, List.getElem?_eq_getElem (show i < s.l.length by rw [s.h]; exact hi)]
    rw [hd]
    unfold Program.keyLits
    simp only [Try.underlying5]
    have hw : (Lit.int .u8 ((s.l.getD i 0).toNat : Int)).wf = true := by
      have := (s.l.getD i 0).toNat_lt
      generalize (s.l.getD i 0).toNat = q at *
      simp [Lit.wf, IntKind.min, IntKind.max, IntKind.signed, IntKind.bits]
      omega
    simp only [hw, and_true, if_true]
  have hm : ∀ s : Sec, (List.range 128).mapM (fun i => Try.prog.keyLits 1 5 ((s.cs.toArray.toList.drop (i * Try.prog.cellsOf 5)).take (Try.prog.cellsOf 5))) = some ((List.range 128).map fun i => [Lit.int .u8 ((s.l.getD i 0).toNat : Int)]) := by
    intro s
    have gen : ∀ is : List Nat, (∀ i ∈ is, i ∈ List.range 128) → is.mapM (fun i => Try.prog.keyLits 1 5 ((s.cs.toArray.toList.drop (i * Try.prog.cellsOf 5)).take (Try.prog.cellsOf 5))) = some (is.map fun i => [Lit.int .u8 ((s.l.getD i 0).toNat : Int)]) := by
      intro is
      induction is with
      | nil => intro _; rfl
      | cons i is ih =>
        intro h
        rw [List.mapM_cons, hq s i (h i (by simp)), ih fun j hj => h j (by simp [hj])]
        rfl
    exact gen _ fun _ h => h
  obtain ⟨iu, hiu⟩ : ∃ i, Try.prog.info? 5 = some i := info_of_underlying Try.underlying5
  obtain ⟨r, hr, hiff⟩ := run_eqItems_plain (P := Try.prog) w 9998 (e := 5) (by simp [Program.plainKey, Try.underlying5]) s.cs.toArray t.cs.toArray _ _ _ (hm s) (hm t)
  unfold Op.equal Op.maxDepth
  rw [run_equalIn_array (P := Try.prog) w 9999 _ _ Try.underlying23 hiu, hr]
  suffices e0 : r = s.same t by rw [e0]
  have e1 : (r = true) ↔ (s.same t = true) := by
    rw [hiff, Sec.same_iff]
    constructor
    · intro h
      have hs : ∀ u : Sec, ((List.range 128).map fun i => [Lit.int .u8 ((u.l.getD i 0).toNat : Int)]).flatten = (List.range 128).map fun i => Lit.int .u8 ((u.l.getD i 0).toNat : Int) := by
        intro u
        generalize List.range 128 = is
        induction is with
        | nil => rfl
        | cons i is ih => simp only [List.map_cons, List.flatten_cons, ih]; rfl
      rw [hs, hs] at h
      refine Sec.eq (List.ext_getElem (by rw [s.h, t.h]) fun i hi hi' => ?_)
      have hi2 : i < 128 := by rw [s.h] at hi; exact hi
      have := congrArg (fun l => l[i]?) h
      simp only [List.getElem?_map, List.getElem?_range hi2, Option.map_some, Option.some.injEq, Lit.int.injEq, true_and, List.getD, List.getElem?_eq_getElem hi, List.getElem?_eq_getElem hi', Option.getD_some] at this
      exact UInt8.toNat_inj.1 (by omega)
    · intro h
      rw [h]
  cases r <;> cases h : s.same t <;> simp_all

/-! ### What a device is, and what each call does to it -/
structure St where
  st : List Sec
  nw : List Sec
  pend : List (Nat × Sec)
  ops : Int
  left : Int
  dead : Bool
structure Dev where
  g : Nat
  gs : Nat
  gn : Nat
def Dev.own (D : Dev) (pv : Value) (k : Nat) : Prop := k = D.g ∨ k = D.gs ∨ k = D.gn ∨ pv.ownBlock = some k
def St.count (s : St) : St := { s with ops := if s.ops < 4611686018427387903 then s.ops + 1 else s.ops }
def St.refuse (s : St) : St := if s.left = 0 then { s with dead := true } else if 0 < s.left then { s with left := s.left - 1 } else s
def hasF (n : Nat) (i : Int) : Bool := decide (0 ≤ i ∧ i < n)
def applyF (ps : List (Nat × Sec)) (l : List Sec) : List Sec := ps.foldl (fun l p => l.set p.1 p.2) l
def applyK (ks : List Bool) (ps : List ((Nat × Sec) × Nat)) (l : List Sec) : List Sec := ps.foldl (fun l p => if ks.getD p.2 false = true then l.set p.1.1 p.1.2 else l) l
def rotP (i : Nat) (x : Sec) (ps : List (Nat × Sec)) : List (Nat × Sec) := ps.map fun p => if p.1 = i then (p.1, x) else p
def St.write (n : Nat) (s : St) (i : Int) (x : Sec) : St × Int :=
  if hasF n i = true then
    if s.count.refuse.dead = true then (s.count.refuse, 42)
    else ({ s.count.refuse with nw := s.nw.set i.toNat x, pend := s.pend ++ [(i.toNat, x)] }, 0)
  else (s.count, 41)
def St.flush (s : St) : St × Int :=
  if s.count.refuse.dead = true then (s.count.refuse, 42) else ({ s.count.refuse with st := applyF s.pend s.st, pend := [] }, 0)
def St.crash (s : St) (ks : List Bool) : St :=
  { s with st := applyK ks s.pend.zipIdx s.st, nw := applyK ks s.pend.zipIdx s.st, pend := [], left := -1, dead := false }
def St.rot (n : Nat) (s : St) (i : Int) (x : Sec) : St × Int :=
  if hasF n i = true then ({ s with st := s.st.set i.toNat x, nw := s.nw.set i.toNat x, pend := rotP i.toNat x s.pend }, 0) else (s, 41)
def St.read (n : Nat) (s : St) (i : Int) : Sec × Int :=
  if hasF n i = true then if s.dead = true then (zsec, 42) else (s.nw.getD i.toNat zsec, 0) else (zsec, 41)
def St.stable (n : Nat) (s : St) (i : Int) : Sec := if hasF n i = true then s.st.getD i.toNat zsec else zsec

theorem refuse_st (s : St) : s.refuse.st = s.st ∧ s.refuse.nw = s.nw ∧ s.refuse.pend = s.pend ∧ s.refuse.ops = s.ops := by
  unfold St.refuse
  split
  · exact ⟨rfl, rfl, rfl, rfl⟩
  · split <;> exact ⟨rfl, rfl, rfl, rfl⟩
theorem applyF_len : ∀ (ps : List (Nat × Sec)) (l : List Sec), (applyF ps l).length = l.length
  | [], _ => rfl
  | p :: ps, l => by
    have := applyF_len ps (l.set p.1 p.2)
    rw [List.length_set] at this
    exact this
theorem applyF_snoc (ps : List (Nat × Sec)) (k : Nat) (h : k < ps.length) (l : List Sec) : applyF (ps.take (k + 1)) l = (applyF (ps.take k) l).set ps[k].1 ps[k].2 := by
  rw [List.take_succ_eq_append_getElem h]
  unfold applyF
  rw [List.foldl_append]
  rfl
theorem applyK_len (ks : List Bool) : ∀ (ps : List ((Nat × Sec) × Nat)) (l : List Sec), (applyK ks ps l).length = l.length
  | [], _ => rfl
  | p :: ps, l => by
    have := applyK_len ks ps (if ks.getD p.2 false = true then l.set p.1.1 p.1.2 else l)
    refine this.trans ?_
    split
    · rw [List.length_set]
    · rfl
theorem applyK_snoc (ks : List Bool) (ps : List (Nat × Sec)) (k : Nat) (h : k < ps.length) (l : List Sec) :
    applyK ks (ps.zipIdx.take (k + 1)) l = if ks.getD k false = true then (applyK ks (ps.zipIdx.take k) l).set ps[k].1 ps[k].2 else applyK ks (ps.zipIdx.take k) l := by
  rw [List.take_succ_eq_append_getElem (by simpa using h)]
  unfold applyK
  rw [List.foldl_append]
  simp only [List.foldl_cons, List.foldl_nil, List.getElem_zipIdx, Nat.zero_add]

/-- The device lies at D, its pending writes at pv. -/
structure At (w : World) (B n : Nat) (D : Dev) (pv : Value) (s : St) : Prop where
  dev : Blk w D.g 68 #[.slice (some ⟨D.gs, 0, none⟩) n n, .slice (some ⟨D.gn, 0, none⟩) n n, pv, .int .i64 s.ops, .int .i64 s.left, .bool s.dead]
  st : Blk w D.gs 23 (flat s.st).toArray
  nw : Blk w D.gn 23 (flat s.nw).toArray
  pend : w.ownsRow B 70 129 pv s.pend.length (flatW s.pend)
  ne : D.gs ≠ D.gn
  bg : B ≤ D.g ∧ B ≤ D.gs ∧ B ≤ D.gn
  ls : s.st.length = n
  ln : s.nw.length = n
  ok : ∀ p ∈ s.pend, p.1 < n
  hn : n ≤ 1024
  ops : 0 ≤ s.ops ∧ s.ops ≤ 4611686018427387903
  left : I64 s.left
section
variable {w w' : World} {B n : Nat} {D : Dev} {pv : Value} {s : St} {O : Nat → Prop}
theorem blk_ne {g g' : Nat} {t t' : TypeId} {cs cs' : Array Value} (h : Blk w g t cs) (h' : Blk w g' t' cs') (ht : t ≠ t') : g ≠ g' := by
  rintro rfl
  unfold Blk at h h'
  rw [h] at h'
  cases h'
  exact ht rfl
theorem own_blk {base e size m : Nat} {v : Value} {xs : List Value} (h : w.ownsRow base e size v m xs) {g : Nat} (hg : v.ownBlock = some g) : ∃ cs, Blk w g e cs := by
  rcases h.2 with ⟨rfl, _⟩ | ⟨g', cap, cur, rfl, _, hc, _⟩
  · cases hg
  · simp only [Value.ownBlock, Option.some.injEq] at hg
    subst hg
    exact ⟨cur, hc⟩
theorem At.ge (h : At w B n D pv s) (k : Nat) (hk : D.own pv k) : B ≤ k := by
  rcases hk with rfl | rfl | rfl | hk
  · exact h.bg.1
  · exact h.bg.2.1
  · exact h.bg.2.2
  · exact (h.pend.lt k hk).1
theorem At.lt (h : At w B n D pv s) (k : Nat) (hk : D.own pv k) : k < w.heap.size := by
  rcases hk with rfl | rfl | rfl | hk
  · exact h.dev.lt
  · exact h.st.lt
  · exact h.nw.lt
  · exact (h.pend.lt k hk).2
theorem At.chg (h : At w B n D pv s) (c : Chg w w' O) (hO : ∀ k, D.own pv k → ¬ O k) : At w' B n D pv s :=
  { h with
    dev := h.dev.chg c (hO _ (.inl rfl))
    st := h.st.chg c (hO _ (.inr (.inl rfl)))
    nw := h.nw.chg c (hO _ (.inr (.inr (.inl rfl))))
    pend := own_chg h.pend c fun _ hg => hO _ (.inr (.inr (.inr hg))) }
/-- A block of another type than the device's own is none of its own. -/
theorem At.far (h : At w B n D pv s) {g : Nat} {t : TypeId} {cs : Array Value} (hb : Blk w g t cs) (h1 : t ≠ 68) (h2 : t ≠ 70) (h3 : t = 23 → g ≠ D.gs ∧ g ≠ D.gn) : ¬ D.own pv g := by
  rintro (rfl | rfl | rfl | hk)
  · exact blk_ne hb h.dev h1 rfl
  · by_cases ht : t = 23
    · exact (h3 ht).1 rfl
    · exact blk_ne hb h.st ht rfl
  · by_cases ht : t = 23
    · exact (h3 ht).2 rfl
    · exact blk_ne hb h.nw ht rfl
  · obtain ⟨cs', hc⟩ := own_blk h.pend hk
    exact blk_ne hb hc h2 rfl
end
/-- From (w, pv) to (w', pv') only what the device owns has turned. -/
structure Goes (D : Dev) (w : World) (pv : Value) (w' : World) (pv' : Value) : Prop where
  chg : Chg w w' (D.own pv)
  row : ∀ k, pv'.ownBlock = some k → pv.ownBlock = some k ∨ w.heap.size ≤ k
theorem Goes.refl (D : Dev) (w : World) (pv : Value) : Goes D w pv w pv := ⟨Chg.refl _ _, fun _ h => .inl h⟩
theorem Goes.own {D : Dev} {w w' : World} {pv pv' : Value} (h : Goes D w pv w' pv') {k : Nat} (hk : k < w.heap.size) (hn : ¬ D.own pv k) : ¬ D.own pv' k := by
  rintro (h1 | h1 | h1 | h1)
  · exact hn (.inl h1)
  · exact hn (.inr (.inl h1))
  · exact hn (.inr (.inr (.inl h1)))
  · rcases h.row k h1 with h2 | h2
    · exact hn (.inr (.inr (.inr h2)))
    · omega
theorem Goes.trans {D : Dev} {w w' w'' : World} {pv pv' pv'' : Value} (h : Goes D w pv w' pv') (k : Goes D w' pv' w'' pv'') : Goes D w pv w'' pv'' :=
  ⟨h.chg.trans k.chg fun j hj ho => by
    by_cases hn : D.own pv j
    · exact hn
    · exact absurd ho (h.own hj hn), fun j hj => by
    rcases k.row j hj with h1 | h1
    · exact h.row j h1
    · exact .inr (Nat.le_trans h.chg.size h1)⟩
end Go.Proofs.Ytddhacmaogaocaa
