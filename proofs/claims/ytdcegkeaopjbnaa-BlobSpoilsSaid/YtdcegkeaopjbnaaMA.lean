/- The texts M1 M2 M3 M4. -/
import Derived.Test.YtdcegkeaopjbnaaAA
import Derived.Test.YtdcegkeaopjbnaaOA
import Derived.Test.YtdcegkeaopjbnaaOC
import Derived.Test.YtdcegkeaopjbnaaYA
import Derived.Deep.RegionHeld3
import Derived.RangeFuncNested
import Derived.RangeFuncBound
import Derived.RangeFuncCalls
import Derived.RangeFuncLeaves
import Derived.RangeFuncBox
import Derived.Shelf.Abstract
import Derived.Shelf.RegionOpen
import Derived.OwnWalkIn
import Derived.TacticsInMore
import Derived.LoopNIn
import Derived.LoopIn
set_option maxRecDepth 10000
namespace Go.Proofs.Ytdcegkeaopjbnaa

section
open Go.RowKit

theorem bhole_any (a b s : Int) (w : World) :
    Calls Try.prog 29 #[ptv a b s] w fun e w' => e = .returned (.bool (holeF a b s)) ∧ Below w.heap.size w w' := by
  have hq := fun w => run_eqP a b s 0 0 0 w
  go_enter Try.func29, Try.ntmps29
  go_wp2_with fail
  go_ret
  exact ⟨ret_bool rfl, (Below.refl _ _).alloc (by omega) _⟩
theorem up128 (k : Nat) (hk : k ≤ 65535) (w : World) :
    Calls Try.prog 40 #[.int .i64 (k : Int), .int .i64 128] w fun e w' => e = .returned (.int .i64 (((k + 127) / 128 : Nat) : Int)) ∧ Below w.heap.size w w' := by
  have hdv : ((k : Int) + 127).tdiv 128 = (((k + 127) / 128 : Nat) : Int) := by rw [Int.tdiv_eq_ediv_of_nonneg (by omega)]; omega
  have hki : (k : Int) ≤ 65535 := by omega
  go_enter Try.func40, Try.ntmps40
  go_wp2_with fail
  go_ret
  exact ⟨ret_int (by omega), Below.refl _ _⟩
theorem up8 (k : Nat) (hk : k ≤ 65535) (w : World) :
    Calls Try.prog 40 #[.int .i64 (k : Int), .int .i64 8] w fun e w' => e = .returned (.int .i64 (((k + 7) / 8 : Nat) : Int)) ∧ Below w.heap.size w w' := by
  have hdv : ((k : Int) + 7).tdiv 8 = (((k + 7) / 8 : Nat) : Int) := by rw [Int.tdiv_eq_ediv_of_nonneg (by omega)]; omega
  have hki : (k : Int) ≤ 65535 := by omega
  go_enter Try.func40, Try.ntmps40
  go_wp2_with fail
  go_ret
  exact ⟨ret_int (by omega), Below.refl _ _⟩
theorem ownI_one (w : World) (base : Nat) (hb : base ≤ w.heap.size) (q : Nat) : OwnI (w.alloc (.cells #[.int .i64 (q : Int)] 3)) base (.slice (some ⟨w.heap.size, 0, none⟩) 1 1) (natI [q]) := by
  have h := World.ownsRow_lit (base := base) (e := 3) (size := 1) w #[.int .i64 (q : Int)] 1 hb (by simp [maxLen]) rfl
  simpa [OwnI, ints, natI] using h
set_option maxHeartbeats 1000000 in
theorem levels_any (n : Int) (w : World) (hn : I64 n) : Calls Try.prog 25 #[.int .i64 n] w fun e w' => ∃ v, e = .returned v ∧ OwnI w' w.heap.size v (natI (levels n.toNat)) ∧ Below w.heap.size w w' := by
  by_cases h : 1 ≤ n ∧ n ≤ 65535
  · obtain ⟨k, rfl⟩ := Int.eq_ofNat_of_zero_le (show 0 ≤ n by omega)
    rw [Int.toNat_natCast]
    have hk1 : (1 : Int) ≤ (k : Int) := h.1
    have hk2 : (k : Int) ≤ 65535 := h.2
    have hk0 : ¬ (k : Int) < 1 := by omega
    have hk3 : ¬ (65535 : Int) < (k : Int) := by omega
    have HF := Lib.hid (lvS_first (n := k) (by omega))
    have HU := Lib.hid (fun w => up128 k (by omega) w)
    have hlq := HF.out.hi
    generalize (k + 127) / 128 = q0 at *
    clear h hn
    go_enter Try.func25, Try.ntmps25
    go_upto_region 4 with (go_at_call 40; (with_reducible refine Calls.mono (HU.out _) ?_); rintro e w1 ⟨rfl, hb1⟩; have HB := Lib.hid hb1; clear hb1)
    go_wp2_with fail
    have HO2 : Hid (OwnI (w1.alloc (.cells #[.int .i64 (q0 : Int)] 3)) w.heap.size (.slice (some ⟨w1.heap.size, 0, none⟩) 1 1) (natI [q0])) := Lib.hid (ownI_one w1 w.heap.size HB.out.size q0)
    have HB2 : Hid (Below w.heap.size w (w1.alloc (.cells #[.int .i64 (q0 : Int)] 3))) := Lib.hid (HB.out.alloc HB.out.size _)
    clear HU HB
    go_loopw [3, 4] (fun i v wr => ∃ (kk : Nat) (acc : List Nat), i = .int .i64 (kk : Int) ∧ LvS k kk acc ∧ acc.length + kk ≤ 600 ∧ OwnI wr w.heap.size v (natI acc) ∧ Below w.heap.size w wr) (fun i _ _ => (intOf i).toNat)
    case atStart => exact ⟨q0, [q0], rfl, HF.out, by show 1 + q0 ≤ 600; omega, HO2.out, HB2.out⟩
    case round =>
      clear HO2 HB2 HF
      obtain ⟨kk, acc, rfl, hlv, hac, hown, hb⟩ := hrel
      by_cases h1 : 1 < kk
      · have h1i : (1 : Int) < (kk : Int) := by omega
        have hk5 : (kk : Int) ≤ 512 := by have := hlv.hi; omega
        have HU := Lib.hid (fun w => up8 kk (by omega) w)
        have HN := Lib.hid (lvS_next hlv h1 (by omega))
        have HM : Hid ((kk + 7) / 8 < kk) := Lib.hid (by omega)
        have HA := Lib.hid hac
        have HO := Lib.hid hown
        have HB := Lib.hid hb
        clear hlv hac hown hb h1
        generalize (kk + 7) / 8 = q1 at *
        go_upto_region 7 with (go_at_call 40; (with_reducible refine Calls.mono (HU.out _) ?_); rintro e w3 ⟨rfl, hb3⟩; have HO3 : Hid (OwnI w3 w.heap.size _ (natI acc)) := Lib.hid (own_far HO.out hb3); have HB3 := Lib.hid (HB.out.trans (hb3.mono HB.out.size)); clear hb3 HO HB)
        have hsz := HB3.out.size
        go_wp2_with (at_builtin; refine app_int rfl 19 21 rfl w.heap.size _ (natI acc) rfl HO3.out (q1 : Int) rfl hsz (by rw [natI_len]; have := HA.out; omega) ?_; intro v2 w2 hown hgr)
        go_roundw
        case rel => exact ⟨q1, acc ++ [q1], rfl, HN.out, by rw [List.length_append]; show _ + 1 + q1 ≤ 600; have := HA.out; have := HM.out; omega, by rw [natI_app]; exact hown, below_own (HB3.out.alloc hsz _) (World.ownsRow.alloc HO3.out _) (Nat.le_refl _) (by simp; omega) hgr⟩
        case measure => have := HM.out; simp [intOf]; omega
      · have h1i : ¬ (1 : Int) < (kk : Int) := by omega
        have HE := Lib.hid (lvS_last hlv h1)
        have HO := Lib.hid hown
        have HB := Lib.hid hb
        clear hlv hac hown hb h1
        go_wp2_with fail
        go_ret
        exact ⟨_, rfl, by rw [HE.out]; exact HO.out, HB.out⟩
  · have hlv : levels n.toNat = [] := levels_no (by omega)
    rw [hlv]
    have HO : Hid (OwnI w w.heap.size (.slice none 0 0) (natI [])) := Lib.hid (World.ownsRow_nil _ _ _ _)
    by_cases h1 : n < 1
    · clear h hn hlv
      go_enter Try.func25, Try.ntmps25
      go_wp2_with fail
      go_ret
      exact ⟨_, rfl, HO.out, Below.refl _ _⟩
    · have h2 : 65535 < n := by omega
      clear h hn hlv
      go_enter Try.func25, Try.ntmps25
      go_wp2_with fail
      go_ret
      exact ⟨_, rfl, HO.out, Below.refl _ _⟩
set_option maxHeartbeats 1000000 in
theorem need_any (n : Int) (w : World) (hn : I64 n) : Calls Try.prog 11 #[.int .i64 n] w fun e w' => e = .returned (.int .i64 (needF n.toNat : Int)) ∧ Below w.heap.size w w' := by
  have HLV := Lib.hid (levels_any n w hn)
  have hsm := levels_small n.toNat
  have HN : Hid (needF n.toNat = (levels n.toNat).sum) := rfl
  generalize needF n.toNat = nd at *
  generalize levels n.toNat = lv at *
  go_enter Try.func11, Try.ntmps11
  go_wp2_with (go_at_call 25; (with_reducible refine Calls.mono HLV.out ?_); rintro e w1 ⟨v, rfl, hown, hb1⟩; obtain ⟨A, c, hv, hr, _⟩ := own_rd hown; rw [natI_len] at hv; subst hv; have HR := Lib.hid hr; have HB := Lib.hid hb1; clear hown hr hb1 HLV)
  have hl5 : (lv.length : Int) ≤ 5 := by omega
  go_loopw [3, 9] (fun s i wr => ∃ (j : Nat), j ≤ lv.length ∧ i = .int .i64 (j : Int) ∧ s = .int .i64 ((lv.take j).sum : Int) ∧ Below w1.heap.size w1 wr) (fun _ i _ => lv.length - (intOf i).toNat)
  case atStart => exact ⟨0, Nat.zero_le _, rfl, rfl, Below.refl _ _⟩
  case round =>
    obtain ⟨j, hj, rfl, rfl, hb⟩ := hrel
    by_cases hlt : j < lv.length
    · have hji : (j : Int) < lv.length := by omega
      obtain ⟨b, off, rfl, hbl, hcell⟩ := HR.out (by rw [ints_len, natI_len]; omega)
      have hc := (hb.cell (p := ⟨b, off + j, none⟩) hbl).trans (hcell j _ (ints_natI_at hlt))
      have hs1 := sum_take_le lv j
      have hs2 := sum_take_le lv (j + 1)
      have HS := Lib.hid (List.take_succ_eq_append_getElem hlt)
      rw [HS.out, List.sum_append] at hs2
      generalize lv[j] = x at *
      obtain ⟨s, hs⟩ : ∃ s, s = (lv.take j).sum := ⟨_, rfl⟩
      have hs3 : s + x ≤ 585 := by simp only [List.sum_cons, List.sum_nil] at hs2; omega
      have hs4 : (s : Int) + (x : Int) ≤ 585 := by omega
      have hs5 : (0 : Int) ≤ (s : Int) + (x : Int) := by omega
      rw [← hs]
      have HJ := Lib.hid hlt
      have HB2 := Lib.hid hb
      have HS3 : Hid ((lv.take (j + 1)).sum = s + x) := Lib.hid (by rw [HS.out, List.sum_append, ← hs]; simp)
      clear hb hs hs1 hs2 hs3 HS hlt hj hcell
      go_wp2_with fail
      go_roundw
      case rel => exact ⟨j + 1, HJ.out, by go_num, by rw [HS3.out]; go_num, HB2.out⟩
      case measure => have := HJ.out; simp [intOf]; omega
    · obtain rfl : j = lv.length := by omega
      rw [List.take_of_length_le (Nat.le_refl _)] at *
      have HB2 := Lib.hid hb
      clear hb hlt hj
      go_wp2_with fail
      go_ret
      exact ⟨by rw [HN.out]; rfl, HB.out.trans (HB2.out.mono HB.out.size)⟩
end
section
open Go.RowKit Go.Shelf

def calmOps (ops : Array Oper) : Bool := ops.toList.all fun o => match o.op with | .defer _ => false | _ => true
theorem calm_at {ops : Array Oper} (h : calmOps ops = true) {i : Nat} {o : Oper} (ho : ops[i]? = some o) : ∀ c, o.op ≠ .defer c := fun c e => by
  have hm : o ∈ ops.toList := by
    rw [← Array.getElem?_toList] at ho
    exact List.mem_of_getElem? ho
  have := List.all_eq_true.1 h o hm
  rw [e] at this
  cases this
theorem wpOpsIn_of {P : Program} {ops : Array Oper} {Q : Exit → Act → World → Prop} {l n : Nat} (hd : calmOps ops = true) (hL : ¬ LetsOut Q) :
    ∀ (is : List Nat) (a : Act) (w : World), wpOps P ops Q is a w → wpOpsIn (Fence.wide.inRound l) n P ops Q is a w := by
  intro is
  induction is with
  | nil => exact fun _ _ h => h
  | cons i rest ih =>
    intro a w h
    simp only [wpOps] at h
    simp only [wpOpsIn]
    cases ho : ops[i]? with
    | none =>
      simp only [ho] at h
      exact ih _ _ h
    | some o =>
      simp only [ho] at h ⊢
      by_cases hw : Region.wanted o (yielded ops a.tmps) = true
      · simp only [hw, if_true] at h ⊢
        have h := h.resolve_right fun hx => hL hx.2
        unfold Oper.wp at h
        unfold Oper.wpIn
        refine ⟨fun _ _ => trivial, ?_⟩
        rw [show Oper.semAt (Fence.wide.inRound l).round a.eval o = execOp a.eval o from Oper.semAt_some l a.eval o (calm_at hd ho)]
        generalize (execOp a.eval o).run P w = r at *
        cases r with
        | ok x w' =>
          cases x <;> simp only [Oper.upon] at h <;> simp only [Oper.uponIn]
          case value => exact ih _ _ h
          case skip => exact ih _ _ h
          case defer => exact ih _ _ h
          case enter f args =>
            refine ⟨fun hx => absurd hx (by simp [Fence.inRound, Fence.wide]), ?_⟩
            refine CallsIn.inRound l ((callsIn_wide (n := n - 1)).2 (h.mono ?_))
            intro e w2 he
            cases e with
            | returned v => exact ih _ _ he
            | panicked c => exact he
            | outgrown => exact he
          case row row args =>
            refine ⟨fun hx => absurd hx (by simp [Fence.inRound, Fence.wide]), ?_⟩
            intro c cs _
            obtain ⟨v, w2, hr, hs⟩ := h c cs
            exact ⟨v, w2, ih _ _ hr, (stepsIn_wide (P := P)).2 hs⟩
        | halt x w' =>
          cases x <;> simp only [Oper.upon] at h <;> simp only [Oper.uponIn]
          exact h
      · simp only [hw, if_false, Bool.false_eq_true] at h ⊢
        exact ⟨fun _ _ => trivial, ih _ _ h⟩
/-- A drawn region. -/
theorem wpIn_held {P : Program} {ops : Array Oper} {Q : Exit → Act → World → Prop} {l n id : Nat} {a : Act} {w : World} (S : World → Prop) (hm : P.follows .mixedOrders = true) (hd : calmOps ops = true) (hL : ¬ LetsOut Q) (hS : S w.drew)
    (h : S w.drew → wpAnyH P .any ops Q S ops.size (Array.replicate ops.size false) a w.drew) : (Code.region id ops true).wpIn (Fence.wide.inRound l) n P Q a w :=
  wpIn_region_draw fun t => by
    simp only [Region.schedule, hm, Bool.true_or, if_true]
    exact wpOpsIn_of hd hL _ _ _ (wpAny_sound ops.size t _ a _ (wpAny_of_held _ _ _ _ (h hS)))
/-- A region in its order. -/
theorem wpIn_plain {P : Program} {ops : List Oper} {Q : Exit → Act → World → Prop} {l n id : Nat} {a : Act} {w : World} (hd : calmOps ops.toArray = true) (hL : ¬ LetsOut Q)
    (h : wpList P ops.toArray Q ops a w) : (Code.region id ops.toArray false).wpIn (Fence.wide.inRound l) n P Q a w :=
  wpIn_region (wpOpsIn_of hd hL _ _ _ (by
    rw [List.range_eq_range', ← Array.length_toList, wpOps_eq_wpList ops.toArray.toList 0 (by simp)]
    exact h))
/-- What is no cells, from B on, stays as it is where only cells turn. -/
theorem KeepsFrom.of_chg {B : Nat} {W W' : World} {X : Nat → Prop} (c : Chg W W' X) (h : ∀ k, X k → ∀ o, W.heap[k]? = some o → o.isCells = true) : KeepsFrom B W W' :=
  ⟨c.size, fun k o _ ho hc => by
    have hk : k < W.heap.size := (Array.getElem?_eq_some_iff.1 ho).1
    rw [c.block k hk fun hx => by rw [h k hx o ho] at hc; cases hc]
    exact ho⟩
theorem KeepsFrom.of_step {B : Nat} {W W' : World} {O O' : Nat → Prop} (c : Step W W' O O') (h : ∀ k, O k → ∀ o, W.heap[k]? = some o → o.isCells = true) : KeepsFrom B W W' := KeepsFrom.of_chg c.chg h
theorem blk_cells {W : World} {g : Nat} {t : TypeId} {cs : Array Value} (h : Blk W g t cs) : ∀ o, W.heap[g]? = some o → o.isCells = true := fun o ho => by
  unfold Blk at h
  rw [h] at ho
  cases ho
  rfl
theorem own_cells {W : World} {base e size n : Nat} {v : Value} {xs : List Value} (h : W.ownsRow base e size v n xs) {g : Nat} (hg : v.ownBlock = some g) : ∀ o, W.heap[g]? = some o → o.isCells = true := fun o ho => by
  rcases h.2 with ⟨rfl, _⟩ | ⟨g', cap, cur, rfl, _, hh, _⟩
  · cases hg
  · have : g' = g := by simpa [Value.ownBlock] using hg
    subst this
    rw [hh] at ho
    cases ho
    rfl
/-- A pile lies in cells. -/
theorem PileAt.cells {w : World} {O : Nat → Prop} {g : Nat} {P : Pw} (h : PileAt w O g P) (k : Nat) (hk : O k) : ∀ o, w.heap[k]? = some o → o.isCells = true := by
  obtain ⟨B, D, pv, gm, s, hp, hO⟩ := h.ex
  rcases (hO k).1 hk with rfl | rfl | h1
  · exact blk_cells hp.pb
  · exact blk_cells hp.map.blk
  · rcases h1 with rfl | rfl | rfl | h1
    · exact blk_cells hp.dev.dev
    · exact blk_cells hp.dev.st
    · exact blk_cells hp.dev.nw
    · exact own_cells hp.dev.pend h1
end
section
open Go.RowKit Go.Shelf
attribute [local go_sem] Oper.semAt_some

/-- The x-th part of a slice of len elements (of s cells each), m to a part. -/
def cutV (A : Option Addr) (len m s x : Nat) : Value := .slice (A.map (·.add (m * x * s))) (min m (len - m * x)) (min m (len - m * x))
def Kp2 (b1 b2 : Nat) (W W' : World) : Prop := W'.heap[b1]? = W.heap[b1]? ∧ W'.heap[b2]? = W.heap[b2]?
theorem kp2_t {b1 b2 : Nat} {X Y Z : World} (h : Kp2 b1 b2 X Y) (k : Kp2 b1 b2 Y Z) : Kp2 b1 b2 X Z := ⟨k.1.trans h.1, k.2.trans h.2⟩
theorem kp2_b {w : World} {b1 b2 : Nat} (h1 : b1 < w.heap.size) (h2 : b2 < w.heap.size) : ∀ (W : World) (l : Nat) (o o' : Obj), w.heap.size ≤ l → W.heap[l]? = some o → o.isCells = false → o.isWalk = false → Kp2 b1 b2 W (W.putObj l o') :=
  fun W l o o' hl _ _ _ => ⟨World.putObj_heap_other (by omega), World.putObj_heap_other (by omega)⟩
theorem grown_of_below2 {W W' : World} (hb : Below W.heap.size W W') : W.grownBy W' none := ⟨hb.os, hb.tape, hb.output, hb.size, fun i hi _ => hb.block i hi⟩

theorem chunkB_any (A : Option Addr) (n c : Nat) (w : World) :
    Calls Try.prog 36 #[.slice A n c, .int .i64 128] w fun e w' => e = .returned (.func (.func 47) #[] #[.pointer (some ⟨w.heap.size, 0, none⟩), .pointer (some ⟨w.heap.size + 1, 0, none⟩)]) ∧ w' = (w.alloc (.cells #[.slice A n c] 34)).alloc (.cells #[.int .i64 128] 3) := by
  go_enter Try.func36, Try.ntmps36
  go_wp2_with fail
  go_ret
  exact ⟨by simp, rfl⟩
theorem range_pre {k N : Nat} (h : k < N) : List.range (k + 1) <+: List.range N := by
  refine ⟨(List.range N).drop (k + 1), ?_⟩
  conv => rhs; rw [← List.take_append_drop (k + 1) (List.range N)]
  rw [List.take_range, Nat.min_eq_left (by omega)]
set_option maxRecDepth 100000 in
set_option maxHeartbeats 1000000 in
theorem chunkB1_in (n : Nat) (hn : 1 ≤ n) (l b1 b2 len c : Nat) (A : Option Addr) (hlen : len ≤ 65535) (hc : len ≤ c) (J Jx : List Nat → World → Prop) (W : World)
    (hJ : AbidesFrom W.heap.size J)
    (hY : ∀ pre x W1, J pre W1 → pre.length < (len + 127) / 128 → YieldAt Fence.wide (n - 1) Try.prog l #[cutV A len 128 1 x] W1 fun e W' =>
      (e = .returned (.bool true) ∧ J (pre ++ [x]) W' ∧ Kp2 b1 b2 W1 W') ∨ (e = .returned (.bool false) ∧ Jx (pre ++ [x]) W'))
    (h1 : Blk W b1 34 #[.slice A len c]) (h2 : Blk W b2 3 #[.int .i64 128]) (h0 : J [] W) :
    CallsIn Fence.wide n Try.prog 47 #[.func (.yield l) #[] #[], .pointer (some ⟨b1, 0, none⟩), .pointer (some ⟨b2, 0, none⟩)] W fun e W' => (∃ v, e = .returned v) ∧
      ((∃ ys, ys = List.range ((len + 127) / 128) ∧ J ys W') ∨ (∃ pre, pre <+: List.range ((len + 127) / 128) ∧ Jx pre W')) := by
  have HJ := Lib.hid hJ
  have HY := Lib.hid hY
  clear hJ hY
  refine callsIn_of_wp Try.func47 rfl trivial ?_ rfl
  simp only [Try.ntmps47, List.size_toArray, List.length_cons, List.length_nil, Nat.reduceAdd, Nat.reduceSub, Array.replicate_succ, Array.replicate_zero, List.push_toArray, List.append_toArray, List.nil_append, List.cons_append]
  gi_wp2_with fail
  gi_loopw [4] (fun i wr => ∃ (k j : Nat), j = 128 * k ∧ i = .int .i64 (j : Int) ∧ k ≤ (len + 127) / 128 ∧ J (List.range k) wr ∧ Blk wr b1 34 #[.slice A len c] ∧ Blk wr b2 3 #[.int .i64 128]) (fun i _ => len + 128 - (intOf i).toNat)
  case atStart => exact ⟨0, 0, rfl, rfl, Nat.zero_le _, h0, h1, h2⟩
  case round =>
    clear h0 h1 h2
    obtain ⟨k, j, hj, rfl, hk, hJk, hb1, hb2⟩ := hrel
    have c1 := hb1.cell 0
    have c2 := hb2.cell 0
    simp only [List.getElem?_toArray, List.getElem?_cons_zero] at c1 c2
    by_cases hlt : j < len
    · have hji : (j : Int) < (len : Int) := by omega
      obtain ⟨e, he⟩ : ∃ e, e = min 128 (len - j) := ⟨_, rfl⟩
      have hjl : j ≤ len := by omega
      have hcj : (j : Int) ≤ (c : Int) := by omega
      have hcj2 : ¬ c = j := by omega
      have hlt0 : (List.range k).length < (len + 127) / 128 := by rw [List.length_range]; omega
      have hcut : cutV A len 128 1 k = .slice (A.map (fun x => x.add j)) e e := by unfold cutV; rw [Nat.mul_one, ← hj, ← he]
      have HJd : J (List.range k) wr.drew := HJ.out _ _ _ none hJk (grown_of_below2 (Below.refl _ _).drew) (by simp)
      obtain ⟨fn, tmps, assign, body, hy, hR⟩ := HY.out _ k wr.drew HJd hlt0
      rw [hcut] at hy
      have HR : Hid (RoundIn Fence.wide _ _ _ _ _ _ _ _ _) := Lib.hid hR
      have hbd1 := hb1.below (Below.refl _ _).drew hb1.lt
      have hbd2 := hb2.below (Below.refl _ _).drew hb2.lt
      have HK := Lib.hid (And.intro hj (And.intro (show k < (len + 127) / 128 by omega) (And.intro hbd1 hbd2)))
      have he1 : 1 ≤ e ∧ e ≤ 128 ∧ j + e ≤ len := by omega
      have hje : (j : Int) + (e : Int) ≤ (c : Int) := by omega
      have hje2 : ¬ j + e = j := by omega
      have hw1 : (0 : Int) ≤ (j : Int) + (e : Int) := by omega
      have hw2 : (j : Int) + (e : Int) ≤ 65535 := by omega
      have HE2 := Lib.hid he1
      clear hJk hk hj hcut hlt0 HJd hR hbd1 hbd2 he1 hb1 hb2
      gi_wp2_with fail
      refine wpIn_wide.2 ?_
      rcases Nat.lt_or_ge (len - j) 128 with hd1 | hd1
      · have hd2 : ((len - j : Nat) : Int) < 128 := by omega
        obtain rfl : e = len - j := by omega
        clear he
        go_region_held3 (fun w' => w'.cell? ⟨b1, 0, none⟩ = some (.slice A len c) ∧ w'.cell? ⟨b2, 0, none⟩ = some (.int .i64 128)) (go_keep) (fail)
        gi_wp2_with fail
        refine HR.out.mono ?_
        clear HR hy
        rintro ee W3 (⟨rfl, hJ3, hk3⟩ | ⟨rfl, hJx3⟩)
        · have hq1 : Blk W3 b1 34 #[.slice A len c] := hk3.1.trans HK.out.2.2.1
          have hq2 : Blk W3 b2 3 #[.int .i64 128] := hk3.2.trans HK.out.2.2.2
          have c3 := hq1.cell 0
          have c4 := hq2.cell 0
          simp only [List.getElem?_toArray, List.getElem?_cons_zero] at c3 c4
          have HQ := Lib.hid (And.intro hJ3 (And.intro hq1 hq2))
          clear hJ3 hk3 hq1 hq2 c1 c2
          gi_wp2_with fail
          go_roundw
          case rel => exact ⟨k + 1, j + 128, by have := HK.out.1; omega, by go_num, by have := HK.out.2.1; omega, by rw [List.range_succ]; exact HQ.out.1, HQ.out.2.1, HQ.out.2.2⟩
          case measure => simp [intOf]; omega
        · clear c1 c2
          gi_wp2_with fail
          refine bodyPost_ret (results_none rfl _ _ _) rfl ?_
          refine ⟨⟨_, rfl⟩, .inr ⟨_, ?_, hJx3⟩⟩
          rw [← List.range_succ]
          exact range_pre HK.out.2.1
      · have hd2 : ¬ ((len - j : Nat) : Int) < 128 := by omega
        have hd3 : ¬ len - j < 128 := by omega
        have H128 : Hid ((128 : Int) = (e : Int)) := Lib.hid (by omega)
        clear he
        go_region_held3 (fun w' => w'.cell? ⟨b1, 0, none⟩ = some (.slice A len c) ∧ w'.cell? ⟨b2, 0, none⟩ = some (.int .i64 128)) (go_keep) (fail)
        rw [H128.out]
        gi_wp2_with fail
        refine HR.out.mono ?_
        clear HR hy
        rintro ee W3 (⟨rfl, hJ3, hk3⟩ | ⟨rfl, hJx3⟩)
        · have hq1 : Blk W3 b1 34 #[.slice A len c] := hk3.1.trans HK.out.2.2.1
          have hq2 : Blk W3 b2 3 #[.int .i64 128] := hk3.2.trans HK.out.2.2.2
          have c3 := hq1.cell 0
          have c4 := hq2.cell 0
          simp only [List.getElem?_toArray, List.getElem?_cons_zero] at c3 c4
          have HQ := Lib.hid (And.intro hJ3 (And.intro hq1 hq2))
          clear hJ3 hk3 hq1 hq2 c1 c2
          gi_wp2_with fail
          go_roundw
          case rel => exact ⟨k + 1, j + 128, by have := HK.out.1; omega, by go_num, by have := HK.out.2.1; omega, by rw [List.range_succ]; exact HQ.out.1, HQ.out.2.1, HQ.out.2.2⟩
          case measure => simp [intOf]; omega
        · clear c1 c2
          gi_wp2_with fail
          refine bodyPost_ret (results_none rfl _ _ _) rfl ?_
          refine ⟨⟨_, rfl⟩, .inr ⟨_, ?_, hJx3⟩⟩
          rw [← List.range_succ]
          exact range_pre HK.out.2.1
    · have hji : ¬ (j : Int) < (len : Int) := by omega
      have hkk : k = (len + 127) / 128 := by omega
      rw [hkk] at hJk
      have HJ2 := Lib.hid hJk
      clear hJk hkk hk hj
      gi_wp2_with fail
      refine bodyPost_end (results_none rfl _ _ _) rfl ?_
      exact ⟨⟨_, rfl⟩, .inl HJ2.out⟩
end
section
open Go.RowKit Go.Shelf
attribute [local go_sem] Oper.semAt_some

theorem chunkP_any (A : Option Addr) (n c : Nat) (w : World) :
    Calls Try.prog 38 #[.slice A n c, .int .i64 8] w fun e w' => e = .returned (.func (.func 51) #[] #[.pointer (some ⟨w.heap.size, 0, none⟩), .pointer (some ⟨w.heap.size + 1, 0, none⟩)]) ∧ w' = (w.alloc (.cells #[.slice A n c] 40)).alloc (.cells #[.int .i64 8] 3) := by
  go_enter Try.func38, Try.ntmps38
  go_wp2_with fail
  go_ret
  exact ⟨by simp, rfl⟩
set_option maxRecDepth 100000 in
set_option maxHeartbeats 1000000 in
theorem chunkP1_in (n : Nat) (hn : 1 ≤ n) (l b1 b2 len c : Nat) (A : Option Addr) (hlen : len ≤ 600) (hc : len ≤ c) (J Jx : List Nat → World → Prop) (W : World)
    (hJ : AbidesFrom W.heap.size J)
    (hY : ∀ pre x W1, J pre W1 → pre.length < (len + 7) / 8 → YieldAt Fence.wide (n - 1) Try.prog l #[cutV A len 8 3 x] W1 fun e W' =>
      (e = .returned (.bool true) ∧ J (pre ++ [x]) W' ∧ Kp2 b1 b2 W1 W') ∨ (e = .returned (.bool false) ∧ Jx (pre ++ [x]) W'))
    (h1 : Blk W b1 40 #[.slice A len c]) (h2 : Blk W b2 3 #[.int .i64 8]) (h0 : J [] W) :
    CallsIn Fence.wide n Try.prog 51 #[.func (.yield l) #[] #[], .pointer (some ⟨b1, 0, none⟩), .pointer (some ⟨b2, 0, none⟩)] W fun e W' => (∃ v, e = .returned v) ∧
      ((∃ ys, ys = List.range ((len + 7) / 8) ∧ J ys W') ∨ (∃ pre, pre <+: List.range ((len + 7) / 8) ∧ Jx pre W')) := by
  have HJ := Lib.hid hJ
  have HY := Lib.hid hY
  clear hJ hY
  refine callsIn_of_wp Try.func51 rfl trivial ?_ rfl
  simp only [Try.ntmps51, List.size_toArray, List.length_cons, List.length_nil, Nat.reduceAdd, Nat.reduceSub, Array.replicate_succ, Array.replicate_zero, List.push_toArray, List.append_toArray, List.nil_append, List.cons_append]
  gi_wp2_with fail
  gi_loopw [4] (fun i wr => ∃ (k j : Nat), j = 8 * k ∧ i = .int .i64 (j : Int) ∧ k ≤ (len + 7) / 8 ∧ J (List.range k) wr ∧ Blk wr b1 40 #[.slice A len c] ∧ Blk wr b2 3 #[.int .i64 8]) (fun i _ => len + 8 - (intOf i).toNat)
  case atStart => exact ⟨0, 0, rfl, rfl, Nat.zero_le _, h0, h1, h2⟩
  case round =>
    clear h0 h1 h2
    obtain ⟨k, j, hj, rfl, hk, hJk, hb1, hb2⟩ := hrel
    have c1 := hb1.cell 0
    have c2 := hb2.cell 0
    simp only [List.getElem?_toArray, List.getElem?_cons_zero] at c1 c2
    by_cases hlt : j < len
    · have hji : (j : Int) < (len : Int) := by omega
      obtain ⟨e, he⟩ : ∃ e, e = min 8 (len - j) := ⟨_, rfl⟩
      have hjl : j ≤ len := by omega
      have hcj : (j : Int) ≤ (c : Int) := by omega
      have hcj2 : ¬ c = j := by omega
      have hlt0 : (List.range k).length < (len + 7) / 8 := by rw [List.length_range]; omega
      have hcut : cutV A len 8 3 k = .slice (A.map (fun x => x.add (j * 3))) e e := by unfold cutV; rw [← hj, ← he]
      have HJd : J (List.range k) wr.drew := HJ.out _ _ _ none hJk (grown_of_below2 (Below.refl _ _).drew) (by simp)
      obtain ⟨fn, tmps, assign, body, hy, hR⟩ := HY.out _ k wr.drew HJd hlt0
      rw [hcut] at hy
      have HR : Hid (RoundIn Fence.wide _ _ _ _ _ _ _ _ _) := Lib.hid hR
      have hbd1 := hb1.below (Below.refl _ _).drew hb1.lt
      have hbd2 := hb2.below (Below.refl _ _).drew hb2.lt
      have HK := Lib.hid (And.intro hj (And.intro (show k < (len + 7) / 8 by omega) (And.intro hbd1 hbd2)))
      have he1 : 1 ≤ e ∧ e ≤ 8 ∧ j + e ≤ len := by omega
      have hje : (j : Int) + (e : Int) ≤ (c : Int) := by omega
      have hje2 : ¬ j + e = j := by omega
      have hw1 : (0 : Int) ≤ (j : Int) + (e : Int) := by omega
      have hw2 : (j : Int) + (e : Int) ≤ 65535 := by omega
      have HE2 := Lib.hid he1
      clear hJk hk hj hcut hlt0 HJd hR hbd1 hbd2 he1 hb1 hb2
      gi_wp2_with fail
      refine wpIn_wide.2 ?_
      rcases Nat.lt_or_ge (len - j) 8 with hd1 | hd1
      · have hd2 : ((len - j : Nat) : Int) < 8 := by omega
        obtain rfl : e = len - j := by omega
        clear he
        go_region_held3 (fun w' => w'.cell? ⟨b1, 0, none⟩ = some (.slice A len c) ∧ w'.cell? ⟨b2, 0, none⟩ = some (.int .i64 8)) (go_keep) (fail)
        gi_wp2_with fail
        refine HR.out.mono ?_
        clear HR hy
        rintro ee W3 (⟨rfl, hJ3, hk3⟩ | ⟨rfl, hJx3⟩)
        · have hq1 : Blk W3 b1 40 #[.slice A len c] := hk3.1.trans HK.out.2.2.1
          have hq2 : Blk W3 b2 3 #[.int .i64 8] := hk3.2.trans HK.out.2.2.2
          have c3 := hq1.cell 0
          have c4 := hq2.cell 0
          simp only [List.getElem?_toArray, List.getElem?_cons_zero] at c3 c4
          have HQ := Lib.hid (And.intro hJ3 (And.intro hq1 hq2))
          clear hJ3 hk3 hq1 hq2 c1 c2
          gi_wp2_with fail
          go_roundw
          case rel => exact ⟨k + 1, j + 8, by have := HK.out.1; omega, by go_num, by have := HK.out.2.1; omega, by rw [List.range_succ]; exact HQ.out.1, HQ.out.2.1, HQ.out.2.2⟩
          case measure => simp [intOf]; omega
        · clear c1 c2
          gi_wp2_with fail
          refine bodyPost_ret (results_none rfl _ _ _) rfl ?_
          refine ⟨⟨_, rfl⟩, .inr ⟨_, ?_, hJx3⟩⟩
          rw [← List.range_succ]
          exact range_pre HK.out.2.1
      · have hd2 : ¬ ((len - j : Nat) : Int) < 8 := by omega
        have hd3 : ¬ len - j < 8 := by omega
        have H128 : Hid ((8 : Int) = (e : Int)) := Lib.hid (by omega)
        clear he
        go_region_held3 (fun w' => w'.cell? ⟨b1, 0, none⟩ = some (.slice A len c) ∧ w'.cell? ⟨b2, 0, none⟩ = some (.int .i64 8)) (go_keep) (fail)
        rw [H128.out]
        gi_wp2_with fail
        refine HR.out.mono ?_
        clear HR hy
        rintro ee W3 (⟨rfl, hJ3, hk3⟩ | ⟨rfl, hJx3⟩)
        · have hq1 : Blk W3 b1 40 #[.slice A len c] := hk3.1.trans HK.out.2.2.1
          have hq2 : Blk W3 b2 3 #[.int .i64 8] := hk3.2.trans HK.out.2.2.2
          have c3 := hq1.cell 0
          have c4 := hq2.cell 0
          simp only [List.getElem?_toArray, List.getElem?_cons_zero] at c3 c4
          have HQ := Lib.hid (And.intro hJ3 (And.intro hq1 hq2))
          clear hJ3 hk3 hq1 hq2 c1 c2
          gi_wp2_with fail
          go_roundw
          case rel => exact ⟨k + 1, j + 8, by have := HK.out.1; omega, by go_num, by have := HK.out.2.1; omega, by rw [List.range_succ]; exact HQ.out.1, HQ.out.2.1, HQ.out.2.2⟩
          case measure => simp [intOf]; omega
        · clear c1 c2
          gi_wp2_with fail
          refine bodyPost_ret (results_none rfl _ _ _) rfl ?_
          refine ⟨⟨_, rfl⟩, .inr ⟨_, ?_, hJx3⟩⟩
          rw [← List.range_succ]
          exact range_pre HK.out.2.1
    · have hji : ¬ (j : Int) < (len : Int) := by omega
      have hkk : k = (len + 7) / 8 := by omega
      rw [hkk] at hJk
      have HJ2 := Lib.hid hJk
      clear hJk hkk hk hj
      gi_wp2_with fail
      refine bodyPost_end (results_none rfl _ _ _) rfl ?_
      exact ⟨⟨_, rfl⟩, .inl HJ2.out⟩
end
end Go.Proofs.Ytdcegkeaopjbnaa
