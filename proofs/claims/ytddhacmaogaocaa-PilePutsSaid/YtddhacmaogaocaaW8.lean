
/- Walks: a set's numbers, gone through by a range function. -/
import Derived.Test.YtddhacmaogaocaaW7
import Derived.RangeFuncNested
import Derived.RangeFuncBound
import Derived.RangeFuncCalls
import Derived.RangeFuncLeaves
import Derived.RangeFuncBox
import Derived.Shelf.Abstract
import Derived.Shelf.RegionOpen
import Derived.OwnWalkIn
import Derived.TacticsInMore
import Derived.LoopNIn
import Derived.LoopIn
set_option maxRecDepth 10000
namespace Go.Proofs.Ytddhacmaogaocaa
open Go.RowKit Go.Shelf
attribute [local go_sem] Oper.semAt_some

/-- The numbers of a list of spans, in its order. -/
def runF (s : Int) (k : Nat) : List Int := (List.range k).map fun (j : Nat) => s + j
def spF (l : List Sp) : List Int := l.flatMap fun p => runF p.1 p.2.toNat
theorem spF_app (a b : List Sp) : spF (a ++ b) = spF a ++ spF b := by simp [spF]
theorem runF_succ (s : Int) (k : Nat) : runF s (k + 1) = runF s k ++ [s + k] := by simp [runF, List.range_succ]
theorem spF_take {l : List Sp} {k : Nat} (h : k < l.length) : spF (l.take (k + 1)) = spF (l.take k) ++ runF l[k].1 l[k].2.toNat := by
  rw [List.take_succ_eq_append_getElem h, spF_app]; simp [spF]
theorem spF_pre {l : List Sp} {k : Nat} (h : k < l.length) {j : Nat} (hj : j ≤ l[k].2.toNat) : spF (l.take k) ++ runF l[k].1 j <+: spF l := by
  have h1 : spF l = spF (l.take (k + 1)) ++ spF (l.drop (k + 1)) := by rw [← spF_app, List.take_append_drop]
  rw [h1, spF_take h]
  have h2 : runF l[k].1 l[k].2.toNat = runF l[k].1 j ++ (runF l[k].1 l[k].2.toNat).drop j := by
    conv => lhs; rw [← List.take_append_drop j (runF l[k].1 l[k].2.toNat)]
    congr 1
    simp only [runF, ← List.map_take, List.take_range]
    rw [Nat.min_eq_left hj]
  rw [h2]
  exact ⟨_, by simp only [List.append_assoc]; rfl⟩

/-- Blocks of spans stay, and what lies below n0. -/
def KeepSp (n0 : Nat) (W W' : World) : Prop := Below n0 W W' ∧ ∀ g cs, Blk W g 92 cs → Blk W' g 92 cs
theorem grown_of_below {W W' : World} (hb : Below W.heap.size W W') : W.grownBy W' none := ⟨hb.os, hb.tape, hb.output, hb.size, fun i hi _ => hb.block i hi⟩

set_option maxRecDepth 100000 in
set_option maxHeartbeats 1000000 in
theorem nums1_in (n : Nat) (hn : 1 ≤ n) (l Bn n0 c : Nat) (A : Option Addr) (L : List Sp) (hr : rightF 0 L = true) (J Jx : List Int → World → Prop) (W : World)
    (hJ : AbidesFrom W.heap.size J)
    (hY : ∀ pre x W1, J pre W1 → pre.length < (spF L).length → YieldAt Fence.wide (n - 1) Try.prog l #[.int .i64 x] W1 fun e W' =>
      (e = .returned (.bool true) ∧ J (pre ++ [x]) W' ∧ KeepSp n0 W1 W') ∨ (e = .returned (.bool false) ∧ Jx (pre ++ [x]) W'))
    (hn0 : n0 ≤ W.heap.size) (hBn : W.cell? ⟨Bn, 0, none⟩ = some (.slice A L.length c)) (hBl : Bn < W.heap.size) (hs : Rd W n0 A (spc L)) (h0 : J [] W) :
    CallsIn Fence.wide n Try.prog 48 #[.func (.yield l) #[] #[], .pointer (some ⟨Bn, 0, none⟩)] W fun e W' => (∃ v, e = .returned v) ∧
      ((∃ ys, ys = spF L ∧ J ys W') ∨ (∃ pre, pre <+: spF L ∧ Jx pre W')) := by
  have hl : (L.length : Int) ≤ 4097 := by have := right_len (by omega) (by omega) hr; omega
  have hR : Calls Try.prog 49 #[.slice A L.length c] W fun e w' => e = .returned (.bool true) ∧ Below W.heap.size W w' := by
    have h := right_any A c L W (hs.mono hn0) (right_ok (by omega) hr) (by omega)
    rw [hr] at h; exact h
  have hmem := right_mem hr
  have HM := Lib.hid hmem
  have HR := Lib.hid hR
  have HJ := Lib.hid hJ
  have HY := Lib.hid hY
  clear hR hmem hJ hY hr
  refine callsIn_of_wp Try.func48 rfl trivial ?_ rfl
  simp only [Try.ntmps48, List.size_toArray, List.length_cons, List.length_nil, Nat.reduceAdd, Nat.reduceSub, Array.replicate_succ, Array.replicate_zero, List.push_toArray, List.append_toArray, List.nil_append, List.cons_append]
  gi_wp2_with fail
  refine ⟨trivial, (callsIn_wide.2 HR.out).mono ?_⟩
  rintro e w1 ⟨rfl, hb1⟩
  have hB1 : w1.cell? ⟨Bn, 0, none⟩ = some (.slice A L.length c) := (hb1.cell (p := ⟨Bn, 0, none⟩) hBl).trans hBn
  have hj1 : J [] w1 := HJ.out [] W w1 none h0 (grown_of_below hb1) (by simp)
  have hs1 : Rd w1 n0 A (spc L) := hs.below (hb1.mono hn0)
  have hsz1 := hb1.size
  clear h0 hs hb1 hBn
  gi_wp2_with fail
  gi_loopw [11] (fun i wr => ∃ (k : Nat), k ≤ L.length ∧ i = .int .i64 k ∧ J (spF (L.take k)) wr ∧ Below n0 w1 wr) (fun i _ => L.length - (intOf i).toNat)
  case atStart => exact ⟨0, by omega, rfl, hj1, Below.refl _ _⟩
  case round =>
    obtain ⟨k, hk, rfl, hj, hb⟩ := hrel
    have hsz := hb.size
    by_cases hlt : k < L.length
    · obtain ⟨b, off, rfl, hbB, hc1, hc2⟩ := sp_at hs1 k hlt
      obtain ⟨hc, hf⟩ := bcell hb
      obtain ⟨g0, g1, g2⟩ := HM.out _ (List.getElem_mem hlt)
      have hpre := fun j => spF_pre (l := L) hlt (j := j)
      have hnext := spF_take (l := L) hlt
      have HP := Lib.hid hpre
      have HN := Lib.hid hnext
      clear hpre hnext
      generalize L[k] = p at *
      obtain ⟨s, m⟩ := p
      simp only at hc1 hc2 g0 g1 g2
      have hb' : b < wr.heap.size := by omega
      gi_wp2_with fail
      have hj2 : J (spF (L.take k)) (wr.alloc (.cells #[.int .i64 s, .int .i64 m] 92)) := HJ.out _ wr _ none hj (World.grownBy_alloc wr _ none) (by simp)
      have hb2 : Below n0 w1 (wr.alloc (.cells #[.int .i64 s, .int .i64 m] 92)) := hb.alloc (by omega) _
      have hbl2 : Blk (wr.alloc (.cells #[.int .i64 s, .int .i64 m] 92)) wr.heap.size 92 #[.int .i64 s, .int .i64 m] := Blk.new _ _ _
      have hgs : w1.heap.size ≤ wr.heap.size := by omega
      generalize wr.heap.size = gs at *
      generalize wr.alloc (.cells #[.int .i64 s, .int .i64 m] 92) = wi at hj2 hb2 hbl2 ⊢
      clear hj hb hc hf
      gi_loopw [17] (fun i wr => ∃ (j : Nat), (j : Int) ≤ m ∧ i = .int .i64 j ∧ J (spF (L.take k) ++ runF s j) wr ∧ Blk wr gs 92 #[.int .i64 s, .int .i64 m] ∧ Below n0 w1 wr) (fun i _ => m.toNat - (intOf i).toNat)
      case atStart => exact ⟨0, by omega, rfl, by simpa [runF] using hj2, hbl2, hb2⟩
      case round =>
        clear hj2 hb2 hbl2
        obtain ⟨j, hjm, rfl, hj, hbl, hb⟩ := hrel
        have q0 := hbl.cell 0
        have q1 := hbl.cell 1
        simp only [List.getElem?_toArray, List.getElem?_cons_zero, List.getElem?_cons_succ] at q0 q1
        by_cases hjl : (j : Int) < m
        · have hlen : (spF (L.take k) ++ runF s j).length < (spF L).length := by
            have h := (HP.out (j + 1) (by omega)).length_le
            rw [runF_succ, ← List.append_assoc, List.length_append] at h
            simp only [List.length_singleton] at h
            omega
          obtain ⟨fn, tmps, assign, body, hy, hR⟩ := HY.out _ (s + j) wr hj hlen
          clear hlen
          gi_wp2_with fail
          refine hR.mono ?_
          rintro e W3 (⟨rfl, hJ3, hk3⟩ | ⟨rfl, hJx3⟩)
          · clear hy hR
            gi_wp2_with fail
            go_roundw
            case rel => exact ⟨j + 1, by omega, by go_num, by rw [runF_succ, ← List.append_assoc]; exact hJ3, hk3.2 _ _ hbl, hb.trans hk3.1⟩
            case measure => simp [intOf]; omega
          · clear hy hR
            gi_wp2_with fail
            refine bodyPost_ret (results_none rfl _ _ _) rfl ?_
            exact ⟨⟨_, rfl⟩, .inr ⟨_, by have h := HP.out (j + 1) (by omega); rw [runF_succ, ← List.append_assoc] at h; exact h, hJx3⟩⟩
        · have hjm' : j = m.toNat := by omega
          rw [hjm', ← HN.out] at hj
          clear hjm'
          gi_wp2_with fail
          go_roundw
          case rel => exact ⟨k + 1, by omega, by go_num, hj, hb⟩
          case measure => simp [intOf]; omega
    · rw [List.take_of_length_le (by omega)] at hj
      gi_wp2_with fail
      refine bodyPost_end (results_none rfl _ _ _) rfl ?_
      exact ⟨⟨_, rfl⟩, .inl ⟨_, rfl, hj⟩⟩

theorem numbers_any (A : Option Addr) (n c : Nat) (w : World) :
    Calls Try.prog 43 #[.slice A n c] w fun e w' => e = .returned (.func (.func 48) #[] #[.pointer (some ⟨w.heap.size, 0, none⟩)]) ∧ w' = w.alloc (.cells #[.slice A n c] 78) := by
  go_enter Try.func43, Try.ntmps43
  go_wp2_with fail
  go_ret
  exact ⟨rfl, rfl⟩

theorem nums_stops (n : Nat) (hn : 1 ≤ n) (Bn n0 c : Nat) (A : Option Addr) (L : List Sp) (hr : rightF 0 L = true) (w : World) (hBn : Bn < w.heap.size) (hn0 : n0 ≤ w.heap.size)
    (hc : w.cell? ⟨Bn, 0, none⟩ = some (.slice A L.length c)) (hs : Rd w n0 A (spc L)) :
    SeqStopsK Fence.wide n Try.prog 48 #[.pointer (some ⟨Bn, 0, none⟩)] (fun x : Int => #[Value.int .i64 x]) (KeepSp n0) (fun ys => ys = spF L) (fun pre => pre <+: spF L) (spF L).length w := fun l J Jx W hW hJ _ hY h0 =>
  nums1_in n hn l Bn n0 c A L hr J Jx W hJ hY (Nat.le_trans hn0 hW.size) ((hW.cell (p := ⟨Bn, 0, none⟩) hBn).trans hc) (Nat.lt_of_lt_of_le hBn hW.size) (hs.below (hW.mono hn0)) h0

theorem keepSp_t {n0 : Nat} {X Y Z : World} (h : KeepSp n0 X Y) (k : KeepSp n0 Y Z) : KeepSp n0 X Z := ⟨h.1.trans k.1, fun g cs hg => k.2 g cs (h.2 g cs hg)⟩
theorem keepSp_b {n0 : Nat} {w : World} (hn0 : n0 ≤ w.heap.size) : ∀ (W : World) (l : Nat) (o o' : Obj), w.heap.size ≤ l → W.heap[l]? = some o → o.isCells = false → o.isWalk = false → KeepSp n0 W (W.putObj l o') := by
  intro W l o o' hl ho hcells hwalk
  refine ⟨belowK_b (w := w) hn0 W l o o' hl ho hcells hwalk, fun g cs hg => ?_⟩
  have hne : g ≠ l := by
    rintro rfl
    unfold Blk at hg
    rw [hg] at ho
    injection ho with ho
    subst ho
    simp [Obj.isCells] at hcells
  exact (World.putObj_heap_other hne).trans hg
theorem keepSp_refl (n0 : Nat) (W : World) : KeepSp n0 W W := ⟨Below.refl _ _, fun _ _ h => h⟩
theorem keepSp_of {n0 : Nat} {W W' : World} (hb : Below n0 W W') (h : ∀ g, g < W.heap.size → (∃ cs, Blk W g 92 cs) → W'.heap[g]? = W.heap[g]?) : KeepSp n0 W W' :=
  ⟨hb, fun g cs hg => (h g hg.lt ⟨cs, hg⟩).trans hg⟩

theorem own_blk_ne {w : World} {g base e t size n : Nat} {v : Value} {xs : List Value} {cs : Array Value} (h : w.ownsRow base e size v n xs) (hg : Blk w g t cs) (hne : e ≠ t) : some g ≠ v.ownBlock := by
  rcases h.2 with ⟨rfl, _⟩ | ⟨g', cap, cur, rfl, _, hh, _⟩
  · simp [Value.ownBlock]
  · intro he
    have : g = g' := by simpa [Value.ownBlock] using he
    subst this
    unfold Blk at hg
    rw [hh] at hg
    injection hg with hg
    injection hg with _ ht
    exact hne ht
theorem blk_grown {w w' : World} {g t : Nat} {cs : Array Value} {row : Option Nat} (h : Blk w g t cs) (hb : w.grownBy w' row) (hg : some g ≠ row) : Blk w' g t cs := (hb.block g h.lt hg).trans h
theorem blk_alloc {w : World} {g t : Nat} {cs : Array Value} (h : Blk w g t cs) (o : Obj) : Blk (w.alloc o) g t cs := (Below.heap_alloc w o g h.lt).trans h

theorem boxed_kept_own {W W' : World} {row : Option Nat} {B : Nat} {t : TypeId} {v : Value} (h : Boxed W B t v) (hg : W.grownBy W' row) (hr : ∀ r, row = some r → ∃ o : Obj, W.heap[r]? = some o ∧ o.isCells = false) : Boxed W' B t v :=
  h.kept hg fun e => by
    obtain ⟨o, ho, hc⟩ := hr B e.symm
    unfold Boxed at h
    rw [h] at ho
    cases ho
    simp [Obj.isCells] at hc
def HasAt (n0 : Nat) (W : World) (x : Int) (b : Bool) : Prop := Boxed W n0 3 (.int .i64 x) ∧ Boxed W (n0 + 1) 4 (.bool b)
theorem HasAt.own {n0 : Nat} {W W' : World} {x : Int} {b : Bool} {row : Option Nat} (h : HasAt n0 W x b) (hg : W.grownBy W' row) (hr : ∀ r, row = some r → ∃ o : Obj, W.heap[r]? = some o ∧ o.isCells = false) : HasAt n0 W' x b :=
  ⟨boxed_kept_own h.1 hg hr, boxed_kept_own h.2 hg hr⟩

set_option maxRecDepth 100000 in
set_option maxHeartbeats 2000000 in
theorem has_run (A : Option Addr) (c : Nat) (l : List Sp) (y : Int) (w : World) (hs : Rd w w.heap.size A (spc l)) (hr : rightF 0 l = true) :
    Calls Try.prog 34 #[.slice A l.length c, .int .i64 y] w fun e w' => ∃ r : Bool, e = .returned (.bool r) ∧ ((r = false ∧ ∀ x ∈ spF l, x < y) ∨ ∃ p x, p ++ [x] <+: spF l ∧ (∀ z ∈ p, z < y) ∧ y ≤ x ∧ r = decide (x = y)) ∧ Below w.heap.size w w' := by
  refine (callsIn_wide (n := 4)).1 ?_
  refine callsIn_of_wp_marks Try.func34 rfl trivial ?_ rfl
  simp only [Try.ntmps34, List.size_toArray, List.length_cons, List.length_nil, Nat.reduceAdd, Nat.reduceSub, Array.replicate_succ, Array.replicate_zero, List.push_toArray, List.append_toArray, List.nil_append, List.cons_append]
  gi_wp2_with fail
  refine ⟨trivial, (callsIn_wide.2 (numbers_any A l.length c _)).mono ?_⟩
  rintro e w' ⟨rfl, rfl⟩
  gi_wp2_with fail
  have b0 := Boxed.new w 3 (.int .i64 y)
  have b1 := Boxed.new (w.alloc (.cells #[.int .i64 y] 3)) 4 (.bool false)
  have bN := Boxed.new ((w.alloc (.cells #[.int .i64 y] 3)).alloc (.cells #[.bool false] 4)) 78 (.slice A l.length c)
  simp only [World.size_alloc] at b1 bN
  have hB0 : Below w.heap.size w (((w.alloc (.cells #[.int .i64 y] 3)).alloc (.cells #[.bool false] 4)).alloc (.cells #[.slice A l.length c] 78)) := (((Below.refl _ w).alloc (Nat.le_refl _) _).alloc (by simp) _).alloc (by simp; omega) _
  refine wpIn_rangeFunc_ownG rfl (by omega) (gf := 48) (lb := #[.pointer (some ⟨w.heap.size + 1 + 1, 0, none⟩)]) rfl trivial (enters_of Try.func48 (by kernel_rfl) rfl)
    (nums_stops 3 (by omega) (w.heap.size + 1 + 1) w.heap.size c A l hr _ (by simp) (by simp; omega) bN.cell (hs.below hB0)) keepSp_t (keepSp_b (by simp; omega)) (Below.refl _ _) (fun _ => rfl)
    (fun pre W => ((∀ z ∈ pre, z < y) ∧ HasAt w.heap.size W y false) ∧ Below w.heap.size w W)
    (fun c pre W => (c = .ret ∧ ∃ p x, pre = p ++ [x] ∧ (∀ z ∈ p, z < y) ∧ y ≤ x ∧ HasAt w.heap.size W y (decide (x = y))) ∧ Below w.heap.size w W)
    (OwnFrom.and (Own.from (fun s A B row hs hg hr => ⟨hs.1, hs.2.own hg hr⟩) _) (ownFrom_below (Nat.le_refl _) (by simp; omega)))
    (fun c => OwnFrom.and (Own.from (fun s A B row hs hg hr => by obtain ⟨h1, p, x, h2, h3, h4, h5⟩ := hs; exact ⟨h1, p, x, h2, h3, h4, h5.own hg hr⟩) _) (ownFrom_below (Nat.le_refl _) (by simp; omega)))
    ⟨⟨by simp, (b0.alloc _).alloc _, b1.alloc _⟩, hB0⟩
    (fun x => { tmps := #[.slice A l.length c, .int .i64 y, undef, .pointer (some ⟨w.heap.size, 0, none⟩), .pointer (some ⟨w.heap.size + 1, 0, none⟩), .int .i64 x, .slice A l.length c, .func (.func 48) #[] #[.pointer (some ⟨w.heap.size + 1 + 1, 0, none⟩)], .int .i64 x, undef, undef, undef, undef, undef, undef], defers := [] }) ?assign ?body ?done ?stop
  case assign =>
    intro l x W K hK
    gi_wp2
    exact hK
  case body =>
    rintro l pre x W ⟨⟨hp, h0, h1⟩, hB⟩ hlt
    have q0 := h0.cell
    have q1 := h1.cell
    have f1 := h1.frozen
    have hsz := h1.lt
    have HP := Lib.hid hp
    clear hp hlt
    by_cases hxy : y ≤ x
    · by_cases he : x = y
      · have he1 : (x == y) = true := by rw [beq_iff_eq]; exact he
        have HE := Lib.hid he; clear he
        gi_wp2_with fail
        exact ⟨(KeepsOthers.setCell _ _ _).from _, ⟨rfl, pre, x, rfl, HP.out, hxy, (Below.heap_setCell W ⟨w.heap.size + 1, 0, none⟩ _ w.heap.size (by simp)).trans h0, by rw [decide_eq_true HE.out]; exact h1.set _⟩, hB.setCell (by simp) _⟩
      · have he1 : (x == y) = false := by rw [beq_eq_false_iff_ne]; exact he
        have HE := Lib.hid he; clear he
        gi_wp2_with fail
        exact ⟨(KeepsOthers.setCell _ _ _).from _, ⟨rfl, pre, x, rfl, HP.out, hxy, (Below.heap_setCell W ⟨w.heap.size + 1, 0, none⟩ _ w.heap.size (by simp)).trans h0, by rw [decide_eq_false HE.out]; exact h1.set _⟩, hB.setCell (by simp) _⟩
    · gi_wp2_with fail
      exact ⟨KeepsFrom.refl _ _, keepSp_refl _ _, ⟨fun z hz => (List.mem_append.1 hz).elim (HP.out z) (fun e => by simp at e; omega), h0, h1⟩, hB⟩
  case done =>
    rintro D ys W hD rfl ⟨⟨hp, h0, h1⟩, hB⟩ hK
    have q1 := h1.cell
    have f1 := h1.frozen
    gi_wp2
    have hK' := (KeepsOthers.setCell W ⟨w.heap.size + 1, 0, none⟩ (.bool false)).same D _ hK rfl
    refine ⟨by simp, .inl ⟨_, _, rfl, run_takeDeferred hK', ?_⟩⟩
    have hc5 := (boxed_kept_own (h1.set (.bool false)) (grownBy_putObj' _ D (.deferred none)) (fun r e => by cases e; exact ⟨_, hK', rfl⟩)).cell
    refine ⟨.bool false, ?_, false, rfl, .inl ⟨rfl, hp⟩, (hB.setCell (by simp) _).trans (belowK_b (w := w) (Nat.le_refl _) _ D _ _ (by simp at hD; omega) hK' rfl rfl)⟩
    simp [results, Try.f34, go_sem, hc5]
  case stop =>
    rintro D c pre W hD hpre ⟨⟨rfl, p, x, rfl, hp, hx, h0, h1⟩, hB⟩ hK
    have q1 := h1.cell
    gi_wp2
    refine ⟨by simp, .inl ⟨_, _, rfl, run_takeDeferred hK, ?_⟩⟩
    have hc5 := (boxed_kept_own h1 (grownBy_putObj' _ D (.deferred none)) (fun r e => by cases e; exact ⟨_, hK, rfl⟩)).cell
    refine ⟨.bool (decide (x = y)), ?_, _, rfl, .inr ⟨p, x, hpre, hp, hx, rfl⟩, hB.trans (belowK_b (w := w) (Nat.le_refl _) W D _ _ (by simp at hD; omega) hK rfl rfl)⟩
    simp [results, Try.f34, go_sem, hc5]

/-! The numbers of a set rise; they are what is in it. -/
theorem inc_ext : ∀ {l m : List Int}, l.Pairwise (· < ·) → m.Pairwise (· < ·) → (∀ x, x ∈ l ↔ x ∈ m) → l = m
  | [], [], _, _, _ => rfl
  | [], y :: m, _, _, h => absurd ((h y).2 (by simp)) (by simp)
  | x :: l, [], _, _, h => absurd ((h x).1 (by simp)) (by simp)
  | x :: l, y :: m, hl, hm, h => by
    rw [List.pairwise_cons] at hl hm
    have e : x = y := by
      have a := (h x).1 (by simp)
      have b := (h y).2 (by simp)
      rcases List.mem_cons.1 a with a | a
      · exact a
      · rcases List.mem_cons.1 b with b | b
        · exact b.symm
        · have := hl.1 y b; have := hm.1 x a; omega
    subst e
    congr 1
    refine inc_ext hl.2 hm.2 fun z => ?_
    constructor
    · intro hz
      have := hl.1 z hz
      rcases List.mem_cons.1 ((h z).1 (by simp [hz])) with e | e
      · omega
      · exact e
    · intro hz
      have := hm.1 z hz
      rcases List.mem_cons.1 ((h z).2 (by simp [hz])) with e | e
      · omega
      · exact e
theorem mem_runF {s x : Int} {k : Nat} : x ∈ runF s k ↔ s ≤ x ∧ x < s + k := by
  simp only [runF, List.mem_map, List.mem_range]
  constructor
  · rintro ⟨j, hj, rfl⟩; omega
  · rintro ⟨h1, h2⟩; exact ⟨(x - s).toNat, by omega, by omega⟩
theorem mem_spF {l : List Sp} {f x : Int} (hr : rightF f l = true) : x ∈ spF l ↔ memF l x = true := by
  rw [mem_iff]
  simp only [spF, List.mem_flatMap, mem_runF]
  constructor
  · rintro ⟨p, hp, h1, h2⟩
    have := right_mem hr p hp
    exact ⟨p, hp, by omega, by omega⟩
  · rintro ⟨p, hp, h1, h2⟩
    have := right_mem hr p hp
    exact ⟨p, hp, by omega, by omega⟩
theorem runF_inc (s : Int) (k : Nat) : (runF s k).Pairwise (· < ·) := by
  unfold runF
  rw [List.pairwise_map]
  exact List.pairwise_lt_range.imp fun h => by omega
theorem spF_inc : ∀ {l : List Sp} {f : Int}, rightF f l = true → (spF l).Pairwise (· < ·)
  | [], _, _ => List.Pairwise.nil
  | (s, n) :: r, f, h => by
    obtain ⟨h1, h2, h3, h4⟩ := right_cons h
    show (runF s n.toNat ++ spF r).Pairwise _
    rw [List.pairwise_append]
    refine ⟨runF_inc _ _, spF_inc h4, fun a ha b hb => ?_⟩
    rw [mem_runF] at ha
    have := mem_lo h4 ((mem_spF h4).1 hb)
    omega
theorem mem_numsTo {S : Int → Bool} {x : Int} : ∀ {k : Nat}, x ∈ numsTo S k ↔ 0 ≤ x ∧ x < k ∧ S x = true
  | 0 => by simp [numsTo]; omega
  | k + 1 => by
    simp only [numsTo]
    split
    · rename_i h
      rw [List.mem_append, mem_numsTo (k := k), List.mem_singleton]
      constructor
      · rintro (⟨a, b, c⟩ | rfl)
        · exact ⟨a, by omega, c⟩
        · exact ⟨by omega, by omega, h⟩
      · rintro ⟨a, b, c⟩
        by_cases e : x = k
        · exact .inr e
        · exact .inl ⟨a, by omega, c⟩
    · rename_i h
      rw [mem_numsTo (k := k)]
      constructor
      · rintro ⟨a, b, c⟩; exact ⟨a, by omega, c⟩
      · rintro ⟨a, b, c⟩
        refine ⟨a, ?_, c⟩
        by_cases e : x = k
        · subst e; exact absurd c h
        · omega
theorem numsTo_inc (S : Int → Bool) : ∀ k, (numsTo S k).Pairwise (· < ·)
  | 0 => List.Pairwise.nil
  | k + 1 => by
    simp only [numsTo]
    split
    · rw [List.pairwise_append]
      exact ⟨numsTo_inc S k, by simp, fun a ha b hb => by
        have := (mem_numsTo.1 ha).2.1
        rw [List.mem_singleton] at hb
        omega⟩
    · exact numsTo_inc S k
theorem spF_nums {l : List Sp} (hr : rightF 0 l = true) : spF l = numsTo (memF l) 4096 :=
  inc_ext (spF_inc hr) (numsTo_inc _ _) fun x => by
    rw [mem_spF hr, mem_numsTo]
    constructor
    · intro h; have := mem_lo hr h; exact ⟨by omega, by omega, h⟩
    · rintro ⟨_, _, h⟩; exact h
theorem spF_len {l : List Sp} (hr : rightF 0 l = true) : (spF l).length ≤ 4096 := by rw [spF_nums hr]; exact numsTo_len _ _

theorem has_any (A : Option Addr) (c : Nat) (l : List Sp) (y : Int) (w : World) (hs : Rd w w.heap.size A (spc l)) (hr : rightF 0 l = true) :
    Calls Try.prog 34 #[.slice A l.length c, .int .i64 y] w fun e w' => e = .returned (.bool (memF l y)) ∧ Below w.heap.size w w' := by
  refine (has_run A c l y w hs hr).mono ?_
  rintro e w' ⟨r, rfl, h, hb⟩
  refine ⟨ret_bool ?_, hb⟩
  rcases h with ⟨rfl, h⟩ | ⟨p, x, hp, h1, h2, rfl⟩
  · cases hm : memF l y
    · rfl
    · have := h y ((mem_spF hr).2 hm)
      omega
  · have hinc := spF_inc hr
    obtain ⟨t, ht⟩ := hp
    have hx : x ∈ spF l := by rw [← ht]; simp
    by_cases e : x = y
    · subst e
      rw [decide_eq_true rfl, (mem_spF hr).1 hx]
    · rw [decide_eq_false e]
      cases hm : memF l y
      · rfl
      · have hy := (mem_spF hr).2 hm
        rw [← ht, List.append_assoc, List.pairwise_append] at hinc
        rw [← ht] at hy
        simp only [List.append_assoc, List.mem_append, List.mem_cons, List.not_mem_nil, or_false] at hy
        rcases hy with hy | hy | hy
        · have := h1 y hy; omega
        · exact absurd hy.symm e
        · obtain ⟨_, h4, _⟩ := hinc
          rw [List.singleton_append, List.pairwise_cons] at h4
          have := h4.1 y hy
          omega
end Go.Proofs.Ytddhacmaogaocaa
