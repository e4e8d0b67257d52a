/- Spoils: the mathematics of a ring that is spoilt, the opener of four ubers, the walk. -/
import Derived.Test.YtegcknloemgndaaUT
set_option maxRecDepth 10000
namespace Go.Proofs.Ytegcknloemgndaa
open Go.RowKit
/-! ### Of a ring that is spoilt -/

/-- A device that is written to, whatever is pending, its power there. -/
structure Calm (n : Nat) (s : St) : Prop where
  dead : s.dead = false
  left : s.left < 0
  len : s.nw.length = n
def putU (n : Nat) (s : St) (k : Nat) (u : Ub) : St := if rightU u = true then (s.write n k (secU u)).1 else s
theorem put_calm {n : Nat} {s : St} (h : Calm n s) {k : Nat} (u : Ub) (hk : k < n) : Calm n (putU n s k u) ∧ (putU n s k u).pend.length ≤ s.pend.length + 1 ∧ (rightU u = true → (s.write n k (secU u)).2 = 0) := by
  have hh : hasF n (k : Int) = true := by unfold hasF; rw [decide_eq_true_iff]; omega
  have e := calm_write (n := n) h.left h.dead k (secU u) hh
  unfold putU
  rw [e]
  by_cases hr : rightU u = true
  · rw [if_pos hr]
    refine ⟨⟨h.dead, h.left, ?_⟩, ?_, fun _ => rfl⟩
    · show (s.nw.set _ _).length = n
      rw [List.length_set, h.len]
    · show (s.pend ++ [_]).length ≤ _
      simp
  · rw [if_neg hr]
    exact ⟨h, Nat.le_succ _, fun h2 => absurd h2 hr⟩
/-- The device behind the first k of the law's writes. -/
def spoilF (n : Nat) (us : List Ub) : Nat → St
  | 0 => newSt n
  | k + 1 => putU n (spoilF n us k) k (us.getD k zub)
theorem spoil_calm (n : Nat) (us : List Ub) : ∀ k, k ≤ n → Calm n (spoilF n us k) ∧ (spoilF n us k).pend.length ≤ k
  | 0, _ => ⟨⟨rfl, (by show (-1 : Int) < 0; omega), List.length_replicate ..⟩, Nat.le_refl _⟩
  | k + 1, hk => by
    obtain ⟨h1, h2⟩ := spoil_calm n us k (by omega)
    obtain ⟨h3, h4, _⟩ := put_calm h1 (us.getD k zub) (show k < n by omega)
    exact ⟨h3, by show (putU n (spoilF n us k) k (us.getD k zub)).pend.length ≤ k + 1; omega⟩
theorem calm_counts {n : Nat} {s : St} (h : Calm n s) (k : Nat) : Calm n (s.counts k) := by
  obtain ⟨h1, h2, _, h4, _⟩ := counts_like s k
  exact ⟨h1.trans h.dead, by rw [h4]; exact h.left, by rw [h2]; exact h.len⟩
theorem calm_rot {n : Nat} {s : St} (h : Calm n s) {k : Nat} (x : Sec) (hk : k < n) : (s.rot n k x).2 = 0 ∧ Calm n (s.rot n k x).1 ∧ (s.rot n k x).1.nw = s.nw.set k x := by
  have hh : hasF n (k : Int) = true := by unfold hasF; rw [decide_eq_true_iff]; omega
  rw [do_rot k x hh]
  refine ⟨rfl, ⟨h.dead, h.left, ?_⟩, rfl⟩
  show (s.nw.set _ _).length = n
  rw [List.length_set, h.len]
theorem rot_slot {n : Nat} {s : St} (h : Calm n s) {k i : Nat} (x : Sec) (hk : k < n) (hi : i < n) : slotF n (s.rot n k x).1 i = if k = i then tellF x i else slotF n s i := by
  obtain ⟨_, h2, h3⟩ := calm_rot h x hk
  rw [slot_tell h2.dead hi, slot_tell h.dead hi, h3, getD_set _ _ _ _ (by rw [h.len]; exact hi)]
  split <;> rfl
/-- What others told they tell. -/
theorem rot_others {n : Nat} {s : St} (h : Calm n s) {k : Nat} (x : Sec) (hn : 4 ≤ n) (hk : k < n) {u : Ub} (hu : u ∈ listF n s) (hne : slotU u ≠ k) : u ∈ listF n (s.rot n k x).1 := by
  rw [list_mem] at hu ⊢
  rw [rot_slot h x hk (by have := slotU_lt u; omega), if_neg (Ne.symm hne)]
  exact hu
/-- What is told of the one that is spoilt. -/
theorem rot_own {n : Nat} {s : St} (h : Calm n s) {k : Nat} (x : Sec) (hk : k < n) (hb : readB x = true) (hs : slotU (readV x) = k) : readV x ∈ listF n (s.rot n k x).1 := by
  rw [list_mem, hs, rot_slot h x hk hk, if_pos rfl]
  unfold tellF
  exact if_pos ⟨hb, hs⟩
theorem zub_wrong : rightU zub = false := rightU_f fun h => by have := h.1.1; exact absurd this (by decide)
theorem list_right {n : Nat} {s : St} {u : Ub} (h : u ∈ listF n s) : rightU u = true := slot_right (list_mem.1 h)
theorem none_there {n : Nat} {s : St} {x : Sec} (hb : readB x = false) : readV x ∉ listF n s := by
  have : readV x = zub := by unfold readV; rw [hb]; rfl
  rw [this]
  intro h
  have := list_right h
  rw [zub_wrong] at this
  cases this
/-- Is one of these this one? -/
def anyU (l : List Ub) (u : Ub) : Bool := l.any fun v => u.same v
theorem any_iff {l : List Ub} {u : Ub} : anyU l u = true ↔ u ∈ l := by
  unfold anyU
  rw [List.any_eq_true]
  constructor
  · rintro ⟨v, hv, h⟩
    rw [Ub.same_iff.1 h]
    exact hv
  · intro h
    exact ⟨u, h, Ub.same_self u⟩
theorem same_comm (u v : Ub) : u.same v = v.same u := by
  rcases h : v.same u with _ | _
  · rcases h2 : u.same v with _ | _
    · rfl
    · rw [Ub.same_iff.1 h2, Ub.same_self] at h
      cases h
  · rw [Ub.same_iff.1 h, Ub.same_self]
theorem any_snoc (l : List Ub) (u : Ub) (k : Nat) (hk : k < l.length) : anyU (l.take (k + 1)) u = (anyU (l.take k) u || u.same l[k]) := by
  unfold anyU
  rw [List.take_succ_eq_append_getElem hk, List.any_append]
  simp
/-! ### Arguments opened: four ubers in an array -/
section
open Go.ChangeShapes Go.WideShapes Go.ChangeAt Go.RowKit Go.Deep

theorem cells_four : Try.prog.cellsOf 68 = 28 := by kernel_rfl
section
variable {H : Type} {enc : TypeId × Value → H} {W : World} {r : Reach} {b0 : Nat} {v : Value} {d : DataW H} {p : List MemPlace}
theorem open_fourc {fuel : Nat} {cs : List Value} {x : DataW H × List MemPlace} (h : DataW.trod enc Try.prog W 0 (fun _ => true) true fuel 68 cs = some x) : ∃ l : List Ub, l.length = 4 ∧ cs = flatU l := by
  obtain ⟨xs, m, _, _, hl, hn, hx⟩ := DataW.trod_array Try.underlying68 h
  rw [cells_four] at hl
  have each : ∀ i, i < 4 → ∃ u : Ub, (cs.drop (i * 7)).take 7 = u.cs := fun i hi => by
    have h1 := hx i hi
    rw [cells_ub] at h1
    exact open_ubc (h1.trans (List.getElem?_eq_getElem (by omega)))
  obtain ⟨l, hll, hl2⟩ := list_of 4 each
  refine ⟨l, hll, List.ext_getElem? fun k => ?_⟩
  by_cases hk : k < 28
  · have h1 : k = k / 7 * 7 + k % 7 := by omega
    have h2 : k / 7 < l.length := by omega
    have h3 : k % 7 < 7 := by omega
    have h4 := hl2 (k / 7) h2
    generalize k / 7 = q at *
    generalize k % 7 = t at *
    subst h1
    rw [flatU_at l q h2 t h3, ← h4, List.getElem?_take, if_pos h3, List.getElem?_drop]
  · rw [List.getElem?_eq_none (by omega), List.getElem?_eq_none (by rw [flatU_len]; omega)]
theorem open_four (hv : Value.okWide Try.prog W r b0 68 v) (h : DataW.Trod enc Try.prog W 0 (fun _ => true) true 68 v d p) : ∃ l : List Ub, l.length = 4 ∧ v = .agg (flatU l).toArray := by
  obtain ⟨cs, rfl⟩ := okWide_arr' Try.underlying68 hv
  obtain ⟨fuel, hf⟩ := h
  obtain ⟨l, hl, hc⟩ := open_fourc hf
  refine ⟨l, hl, ?_⟩
  have : cs.toList = flatU l := hc
  rw [← this]
end
end
/-! ### The walk -/

theorem ex_index {o : Oper} {a : Act} {w : World} {T : TypeId} (x y : Operand) (ho : o.op = .index T x y) (vx vy r : Value) (hx : a.eval x = vx) (hy : a.eval y = vy) (h : (Instr.index T vx vy).run Try.prog w = .ok r w) : (execOp a.eval o).run Try.prog w = .ok (.value r) w := by
  unfold execOp
  subst hx hy
  simp only [ho, h, Sem.run_bind, Sem.run_pure, Result.andThen_ok]
theorem idx_four {l : List Ub} (hl : l.length = 4) {k : Nat} (hk : k < 4) (w : World) : (Instr.index 68 (.agg (flatU l).toArray) (.int .i64 (k : Int))).run Try.prog w = .ok (.agg (l.getD k zub).cs.toArray) w := by
  rcases l with _ | ⟨a, _ | ⟨b, _ | ⟨c, _ | ⟨d, _ | ⟨e, t⟩⟩⟩⟩⟩ <;> simp at hl
  rcases k with _ | _ | _ | _ | k
  · kernel_rfl
  · kernel_rfl
  · kernel_rfl
  · kernel_rfl
  · omega
theorem sizeFour (l : List Ub) (hl : l.length = 4) : (Try.prog.info? 68).map (·.size) = some (flatU l).length := by
  rw [flatU_len, hl]
  kernel_rfl
theorem ld_four {ops : Array Oper} {rest : List Oper} {o : Oper} {a : Act} {w : World} {Q : Exit → Act → World → Prop} (hgd : o.guard = none) (x : Operand) (ho : o.op = .load 68 x)
    (b : Nat) (l : List Ub) (hl : l.length = 4) (hx : a.eval x = .pointer (some ⟨b, 0, none⟩)) (hr : w.rangeAt b 0 (flatU l))
    (h : wpList Try.prog ops Q rest (a.put o.dst (.agg (flatU l).toArray)) w) : wpList Try.prog ops Q (o :: rest) a w :=
  wpList_load_mid hgd _ x ho b 0 hx (flatU l) _ hr Try.underlying68 rfl (sizeFour l hl) h
/-- What stands while the law goes. -/
structure SMid (W wr : World) (B : Nat) (D : Dev) (pv : Value) (st : St) (x : Sec) (g : Nat) : Prop where
  at_ : At wr B 4 D pv st
  sec : Kp wr D pv g 34 x.cs.toArray
  below : Below W.heap.size W wr
  lo : W.heap.size ≤ B
section
variable {W wr wr' : World} {B : Nat} {D : Dev} {pv pv' : Value} {st st' : St} {x : Sec} {g : Nat}
theorem SMid.goes (h : SMid W wr B D pv st x g) (hA : At wr' B 4 D pv' st') (hG : Goes D wr pv wr' pv') : SMid W wr' B D pv' st' x g :=
  ⟨hA, h.sec.goes hG, h.below.trans (hG.chg.below (fun k hk => Nat.le_trans h.lo (h.at_.ge k hk)) h.below.size), h.lo⟩
theorem SMid.fresh (h : SMid W wr B D pv st x g) (hb : Below wr.heap.size wr wr') : SMid W wr' B D pv st x g := h.goes (h.at_.of_below hb) (Goes.of_below D pv hb)
end
theorem two_fs (w : World) (cs : Array Value) (t : TypeId) (s : Sec) : Blk ((w.alloc (.cells cs t)).alloc (.cells s.cs.toArray 34)) w.heap.size t cs ∧ Blk ((w.alloc (.cells cs t)).alloc (.cells s.cs.toArray 34)) (w.heap.size + 1) 34 s.cs.toArray := by
  have h2 := Blk.new (w.alloc (.cells cs t)) 34 s.cs.toArray
  rw [show (w.alloc (.cells cs t)).heap.size = w.heap.size + 1 by simp] at h2
  exact ⟨(Blk.new w t cs).below ((Below.refl (w.alloc (.cells cs t)).heap.size _).alloc (Nat.le_refl _) _) (by simp), h2⟩
/-- What stands in the law's later loops: two lists besides. -/
structure SLoop (W wr : World) (B : Nat) (D : Dev) (pv : Value) (st : St) (x : Sec) (g : Nat) (Aw An : Option Addr) (was now : List Ub) : Prop where
  mid : SMid W wr B D pv st x g
  was_ : RdN wr D pv Aw (flatU was)
  now_ : RdN wr D pv An (flatU now)
theorem SLoop.fresh {W wr wr' : World} {B : Nat} {D : Dev} {pv : Value} {st : St} {x : Sec} {g : Nat} {Aw An : Option Addr} {was now : List Ub} (h : SLoop W wr B D pv st x g Aw An was now) (hb : Below wr.heap.size wr wr') : SLoop W wr' B D pv st x g Aw An was now :=
  ⟨h.mid.fresh hb, h.was_.goes (Goes.of_below D pv hb), h.now_.goes (Goes.of_below D pv hb)⟩
theorem SLoop.kp {W wr wr' : World} {B : Nat} {D : Dev} {pv : Value} {st : St} {x : Sec} {g : Nat} {Aw An : Option Addr} {was now : List Ub} (h : SLoop W wr B D pv st x g Aw An was now) {u : Ub} (hw : wr' = (wr.alloc (.cells zub.cs.toArray 27)).setCells wr.heap.size 0 u.cs) : SLoop W wr' B D pv st x g Aw An was now ∧ Kp wr' D pv wr.heap.size 27 u.cs.toArray :=
  ⟨h.fresh (new_ub hw).2, (new_ub hw).1, h.mid.at_.new_far⟩
theorem take_all {l : List Ub} {q : Nat} (h : q ≤ l.length) (hn : ¬ q < l.length) : l.take q = l := List.take_of_length_le (by omega)
/-- The law's first loop: what is written. -/
theorem spoils_out (w : World) (l : List Ub) (_hl : l.length = 4) (at_ : Int) (s : Sec) (ha : at_ < 0 ∨ 3 < at_) :
    Calls Try.prog 7 #[.agg (flatU l).toArray, .int .i64 at_, .agg s.cs.toArray] w fun e w' => e = .returned (.bool true) ∧ Below w.heap.size w w' := by
  have HAL := Lib.hid alive_any
  have HB0 : Hid (Below w.heap.size w ((w.alloc (.cells (flatU l).toArray 68)).alloc (.cells s.cs.toArray 34))) := ((Below.refl w.heap.size w).alloc (Nat.le_refl _) _).alloc (by simp) _
  rcases ha with h1 | h1
  · go_enter Try.func7, Try.ntmps7
    go_wp2_with (go_at_call 11; with_reducible refine Calls.mono (HAL.out _) ?_; rintro e w1 ⟨rfl, hb1⟩; have HB1 := Lib.hid (HB0.out.trans (hb1.mono HB0.out.size)); clear hb1)
    go_ret
    exact ⟨rfl, HB1.out⟩
  · have h2 : ¬ at_ < 0 := by omega
    go_enter Try.func7, Try.ntmps7
    go_wp2_with (go_at_call 11; with_reducible refine Calls.mono (HAL.out _) ?_; rintro e w1 ⟨rfl, hb1⟩; have HB1 := Lib.hid (HB0.out.trans (hb1.mono HB0.out.size)); clear hb1)
    go_ret
    exact ⟨rfl, HB1.out⟩
set_option maxHeartbeats 2000000 in
theorem spoils_in (w : World) (l : List Ub) (hl : l.length = 4) (a : Nat) (ha : a < 4) (s : Sec) :
    Calls Try.prog 7 #[.agg (flatU l).toArray, .int .i64 (a : Int), .agg s.cs.toArray] w fun e w' => e = .returned (.bool true) ∧ Below w.heap.size w w' := by
  have hz : ∀ w, Sem.run Try.prog (zeroValue 27) w = .ok (.agg zub.cs.toArray) w := zeroUb
  have hzs : ∀ w, Sem.run Try.prog (zeroValue 34) w = .ok (.agg zsec.cs.toArray) w := zeroSec
  have HAL := Lib.hid alive_any
  have HNE := Lib.hid (fun w => new_any 4 w)
  rw [many4] at HNE
  have HB0 : Hid (Below w.heap.size w ((w.alloc (.cells (flatU l).toArray 68)).alloc (.cells s.cs.toArray 34))) := ((Below.refl w.heap.size w).alloc (Nat.le_refl _) _).alloc (by simp) _
  have HT0 := Lib.hid (two_fs w (flatU l).toArray 68 s)
  have hai : (a : Int) < 4 := by omega
  have HAI := Lib.hid ha
  have HL := Lib.hid hl
  clear ha hl
  go_enter Try.func7, Try.ntmps7
  go_wp2_with (first
    | (go_at_call 11; with_reducible refine Calls.mono (HAL.out _) ?_; rintro e w1 ⟨rfl, hb1⟩
       have HB1 := Lib.hid (HB0.out.trans (hb1.mono HB0.out.size))
       have HF1 := Lib.hid (HT0.out.1.below hb1 HT0.out.1.lt)
       have HS1 := Lib.hid (HT0.out.2.below hb1 HT0.out.2.lt)
       clear hb1)
    | (go_at_call 10; refine (HNE.out _).mono ?_; rintro e w2 ⟨D, rfl, hA2, hb2⟩
       have HF2 := Lib.hid (HF1.out.below hb2 HF1.out.lt)
       have HM2 : Hid (SMid w w2 w1.heap.size D (.slice none 0 0) (spoilF 4 l 0) s (w.heap.size + 1)) := ⟨hA2, ⟨HS1.out.below hb2 HS1.out.lt, fun hk => (by have := hA2.ge _ hk; have := HS1.out.lt; omega)⟩, HB1.out.trans (hb2.mono HB1.out.size), HB1.out.size⟩
       clear hA2 hb2)
    | (with_reducible refine ld_four rfl _ rfl w.heap.size l HL.out rfl (HF2.out.range 0 _ fun j v hv => by rw [Nat.zero_add, List.getElem?_toArray]; exact hv) ?_))
  generalize w1.heap.size = B at *
  clear HF1 HS1 HB1 HF2 HAL HNE HT0 HB0
  go_loopw [34] (fun i wr => ∃ (k : Nat) (pv : Value), k ≤ 4 ∧ i = .int .i64 k ∧ SMid w wr B D pv (spoilF 4 l k) s (w.heap.size + 1)) (fun i _ => 4 - (intOf i).toNat)
  case atStart => exact ⟨0, _, by omega, rfl, HM2.out⟩
  case round =>
    clear HM2
    obtain ⟨k, pv, hk, rfl, hM⟩ := hrel
    have HM := Lib.hid hM
    clear hM
    by_cases hlt : k < 4
    · have hki : (k : Int) < 4 := by omega
      have HIX := Lib.hid (idx_four HL.out hlt)
      have HK := Lib.hid hlt
      have HC := Lib.hid (spoil_calm 4 l k (by omega))
      have HNX : Hid (spoilF 4 l (k + 1) = putU 4 (spoilF 4 l k) k (l.getD k zub)) := rfl
      clear hk hlt
      generalize l.getD k zub = u at *
      have HY := Lib.hid (ubytes_any u)
      rcases hr : rightU u with _ | _
      · rw [bytesS_f hr, bytesC_f hr] at HY
        have HPU : Hid (putU 4 (spoilF 4 l k) k u = spoilF 4 l k) := if_neg (by rw [hr]; simp)
        clear hr
        go_wp2_with (first
          | (refine wpList_val (by rfl) (.agg u.cs.toArray) (ex_index (.tmp 33) (.tmp 34) rfl (.agg (flatU l).toArray) (.int .i64 (k : Int)) _ rfl rfl (HIX.out _)) ?_)
          | (with_reducible refine st_ub rfl _ _ rfl wr.heap.size 0 u rfl rfl (Blk.ubHas (u := zub) (Blk.new wr _ _)) ?_; intro w1' hw1
             have HU1 := Lib.hid (new_ub hw1.out).1
             have HM1 := Lib.hid (HM.out.fresh (new_ub hw1.out).2))
          | (with_reducible refine ld_ub rfl _ rfl wr.heap.size 0 u rfl HU1.out.ubIs ?_)
          | (go_at_call 12; with_reducible refine Calls.mono (HY.out _) ?_; rintro e w3 ⟨rfl, hb3⟩; have HM3 := Lib.hid (HM1.out.fresh hb3); clear hb3)
          | (with_reducible refine st_sec rfl _ _ rfl w3.heap.size 0 zsec rfl rfl (Blk.secHas (s := zsec) (Blk.new w3 _ _)) ?_; intro w4 hw4
             have HM4 := Lib.hid (HM3.out.fresh (new_sec hw4.out).2)))
        go_roundw
        case rel => exact ⟨k + 1, pv, HK.out, by go_num, by rw [HNX.out, HPU.out]; exact HM4.out⟩
        case measure => have := HK.out; simp [intOf]; omega
      · rw [bytesS_t hr, bytesC_t hr] at HY
        have HPU : Hid (putU 4 (spoilF 4 l k) k u = ((spoilF 4 l k).write 4 k (secU u)).1) := if_pos hr
        clear hr
        generalize secU u = x at *
        go_wp2_with (first
          | (refine wpList_val (by rfl) (.agg u.cs.toArray) (ex_index (.tmp 33) (.tmp 34) rfl (.agg (flatU l).toArray) (.int .i64 (k : Int)) _ rfl rfl (HIX.out _)) ?_)
          | (with_reducible refine st_ub rfl _ _ rfl wr.heap.size 0 u rfl rfl (Blk.ubHas (u := zub) (Blk.new wr _ _)) ?_; intro w1' hw1
             have HU1 := Lib.hid (new_ub hw1.out).1
             have HM1 := Lib.hid (HM.out.fresh (new_ub hw1.out).2))
          | (with_reducible refine ld_ub rfl _ rfl wr.heap.size 0 u rfl HU1.out.ubIs ?_)
          | (go_at_call 12; with_reducible refine Calls.mono (HY.out _) ?_; rintro e w3 ⟨rfl, hb3⟩; have HM3 := Lib.hid (HM1.out.fresh hb3); clear hb3)
          | (with_reducible refine st_sec rfl _ _ rfl w3.heap.size 0 x rfl rfl (Blk.secHas (s := zsec) (Blk.new w3 _ _)) ?_; intro w4 hw4
             have HX4 := Lib.hid (new_sec hw4.out).1
             have HM4 := Lib.hid (HM3.out.fresh (new_sec hw4.out).2))
          | (with_reducible refine ld_sec rfl _ rfl w3.heap.size 0 x rfl HX4.out.secIs ?_)
          | (go_at_call 31; refine (write_any HM4.out.at_ (k : Int) x (by have := HC.out.2; have := HK.out; omega)).mono ?_; rintro e w5 ⟨pv5, rfl, hA5, hG5⟩
             have HM5 := Lib.hid (HM4.out.goes hA5 hG5)
             clear hA5 hG5))
        go_roundw
        case rel => exact ⟨k + 1, pv5, HK.out, by go_num, by rw [HNX.out, HPU.out]; exact HM5.out⟩
        case measure => have := HK.out; simp [intOf]; omega
    · obtain rfl : k = 4 := by omega
      clear hk hlt
      obtain ⟨hC1, hC2⟩ := spoil_calm 4 l 4 (Nat.le_refl _)
      have hpl : (spoilF 4 l 4).pend.length ≤ 1000000 := by omega
      generalize spoilF 4 l 4 = st at *
      have hk1 := calm_counts hC1 4
      obtain ⟨hr0, hr1, hr2⟩ := calm_rot hk1 s HAI.out
      have hro : ∀ u ∈ listF 4 st, slotU u ≠ a → u ∈ listF 4 ((st.counts 4).rot 4 a s).1 := fun u hu hne => rot_others hk1 s (Nat.le_refl _) HAI.out (by rw [list_counts]; exact hu) hne
      have hri : readB s = true → slotU (readV s) = a → readV s ∈ listF 4 ((st.counts 4).rot 4 a s).1 := fun hb hs => rot_own hk1 s HAI.out hb hs
      have hrn : readB s = false → readV s ∉ listF 4 ((st.counts 4).rot 4 a s).1 := fun hb => none_there hb
      have HL1 : Hid (∀ (W : World) (pv : Value), At W B 4 D pv st → Calls Try.prog 25 #[.pointer (some ⟨D.g, 0, none⟩)] W fun e w' => ∃ A c, e = .returned (.slice A (listF 4 st).length c) ∧ RdN w' D pv A (flatU (listF 4 st)) ∧ At w' B 4 D pv (st.counts 4) ∧ Goes D W pv w' pv) := fun W pv h => list_any h
      have HRO : Hid (∀ (W : World) (pv : Value), At W B 4 D pv (st.counts 4) → Calls Try.prog 32 #[.pointer (some ⟨D.g, 0, none⟩), .int .i64 (a : Int), .agg s.cs.toArray] W fun e w' => e = .returned (.int .i64 0) ∧ At w' B 4 D pv ((st.counts 4).rot 4 a s).1 ∧ Goes D W pv w' pv) := fun W pv h => by
        have h1 := rot_any h (by rw [(counts_like st 4).2.2.1]; exact hpl) (a : Int) s
        rw [hr0] at h1
        exact h1
      have HL2 : Hid (∀ (W : World) (pv : Value), At W B 4 D pv ((st.counts 4).rot 4 a s).1 → Calls Try.prog 25 #[.pointer (some ⟨D.g, 0, none⟩)] W fun e w' => ∃ A c, e = .returned (.slice A (listF 4 ((st.counts 4).rot 4 a s).1).length c) ∧ RdN w' D pv A (flatU (listF 4 ((st.counts 4).rot 4 a s).1)) ∧ At w' B 4 D pv (((st.counts 4).rot 4 a s).1.counts 4) ∧ Goes D W pv w' pv) := fun W pv h => list_any h
      have HRD := Lib.hid (fun w => uread_any (s := s) (w := w))
      have HW4 := Lib.hid (list_len 4 st)
      have HN4 := Lib.hid (list_len 4 ((st.counts 4).rot 4 a s).1)
      clear hC1 hC2 hpl hk1 hr0 hr1 hr2
      have HRo := Lib.hid hro
      have HRi := Lib.hid hri
      have HRn := Lib.hid hrn
      clear hro hri hrn
      generalize listF 4 ((st.counts 4).rot 4 a s).1 = now at *
      generalize ((st.counts 4).rot 4 a s).1.counts 4 = st3 at *
      generalize ((st.counts 4).rot 4 a s).1 = st2 at *
      generalize listF 4 st = was at *
      generalize st.counts 4 = st1 at *
      generalize readV s = rv at *
      generalize readB s = rb at *
      go_wp2_with (first
        | (go_at_call 25; with_reducible refine Calls.mono (HL1.out _ _ HM.out.at_) ?_; rintro e w1' ⟨A1, c1, rfl, hR1, hA1, hG1⟩
           have HR1 := Lib.hid hR1
           have HM1 := Lib.hid (HM.out.goes hA1 hG1)
           clear hR1 hA1 hG1 HM)
        | (with_reducible refine ld_sec rfl _ rfl (w.heap.size + 1) 0 s rfl HM1.out.sec.1.secIs ?_)
        | (go_at_call 32; with_reducible refine Calls.mono (HRO.out _ _ HM1.out.at_) ?_; rintro e w2' ⟨rfl, hA2, hG2⟩
           have HR2 := Lib.hid (HR1.out.goes hG2)
           have HM2 := Lib.hid (HM1.out.goes hA2 hG2)
           clear hA2 hG2 HM1 HR1)
        | (go_at_call 25; with_reducible refine Calls.mono (HL2.out _ _ HM2.out.at_) ?_; rintro e w3' ⟨A3, c3, rfl, hR3, hA3, hG3⟩
           have HS3 : Hid (SLoop w w3' B D pv st3 s (w.heap.size + 1) A1 A3 was now) := ⟨HM2.out.goes hA3 hG3, HR2.out.goes hG3, hR3⟩
           clear hR3 hA3 hG3 HM2 HR2))
      clear HL1 HRO HL2 HL
      generalize w.heap.size + 1 = g5 at *
      go_loopw [61] (fun i wr => ∃ (j : Nat), j ≤ was.length ∧ i = .int .i64 j ∧ SLoop w wr B D pv st3 s g5 A1 A3 was now) (fun i _ => was.length - (intOf i).toNat)
      case atStart => exact ⟨0, by omega, rfl, HS3.out⟩
      case round =>
        clear HS3
        obtain ⟨j, hj, rfl, hS⟩ := hrel
        have HS := Lib.hid hS
        clear hS
        by_cases hlt : j < was.length
        · have hji : (j : Int) < was.length := by omega
          have hj4 : (j : Int) < 4 := by have := HW4.out; omega
          have HJ := Lib.hid hlt
          obtain ⟨b, off, rfl, hr⟩ := HS.out.was_.ub j hlt
          have HU := Lib.hid hr
          have HRO := Lib.hid (HRo.out was[j] (List.getElem_mem hlt))
          generalize was[j] = u at *
          clear hr hj hlt
          go_wp2_with (first
            | (with_reducible refine ld_ub rfl _ rfl b (off + j * 7) u rfl HU.out ?_)
            | (with_reducible refine st_ub rfl _ _ rfl wr.heap.size 0 u rfl rfl (Blk.ubHas (u := zub) (Blk.new wr _ _)) ?_; intro w4' hw4
               have HS4 := Lib.hid (HS.out.kp hw4.out).1
               have HK4 := Lib.hid (HS.out.kp hw4.out).2))
          clear HU HS hw4
          generalize wr.heap.size = g15 at *
          obtain ⟨wo, hwo⟩ : ∃ wo : World, wo = wr := ⟨_, rfl⟩
          clear hwo
          go_loopw [16, 67] (fun o i wr => ∃ (q : Nat), q ≤ now.length ∧ i = .int .i64 q ∧ o = .bool (anyU (now.take q) u) ∧ SLoop w wr B D pv st3 s g5 (some ⟨b, off, none⟩) A3 was now ∧ Kp wr D pv g15 27 u.cs.toArray) (fun _ i _ => now.length - (intOf i).toNat)
          case atStart => exact ⟨0, by omega, rfl, rfl, HS4.out, HK4.out⟩
          case round =>
            clear HS4 HK4
            obtain ⟨q, hq, rfl, rfl, hS5, hK5⟩ := hrel
            have HS5 := Lib.hid hS5
            have HK5 := Lib.hid hK5
            clear hS5 hK5
            by_cases hlt : q < now.length
            · have hqi : (q : Int) < now.length := by omega
              have hq4 : (q : Int) < 4 := by have := HN4.out; omega
              have HQ := Lib.hid hlt
              obtain ⟨b', off', rfl, hr⟩ := HS5.out.now_.ub q hlt
              have HV := Lib.hid hr
              have HSN := Lib.hid (any_snoc now u q hlt)
              generalize now[q] = v at *
              clear hr hq hlt
              rcases hany : anyU (now.take q) u with _ | _
              · rw [hany] at HSN
                clear hany
                go_wp2_with (first
                  | (with_reducible refine ld_ub rfl _ rfl b' (off' + q * 7) v rfl HV.out ?_)
                  | (with_reducible refine st_ub rfl _ _ rfl wr.heap.size 0 v rfl rfl (Blk.ubHas (u := zub) (Blk.new wr _ _)) ?_; intro w5' hw5
                     have HS6 := Lib.hid (HS5.out.kp hw5.out).1
                     have HV6 := Lib.hid (HS5.out.kp hw5.out).2
                     have HK6 := Lib.hid (HK5.out.below (new_ub hw5.out).2))
                  | (refine wpList_val (by rfl) (.agg u.cs.toArray) (ex_ldU (.tmp 15) rfl g15 0 u rfl HK6.out.1.ubIs) ?_)
                  | (refine wpList_val (by rfl) (.agg v.cs.toArray) (ex_ldU (.tmp 18) rfl wr.heap.size 0 v rfl HV6.out.1.ubIs) ?_)
                  | (refine wpList_val (by rfl) (.bool (u.same v)) (ex_eqU (.tmp 73) (.tmp 74) rfl u v rfl rfl) ?_))
                go_roundw
                case rel => exact ⟨q + 1, HQ.out, by go_num, by rw [HSN.out, Bool.false_or], HS6.out, HK6.out⟩
                case measure => have := HQ.out; simp [intOf]; omega
              · rw [hany] at HSN
                clear hany
                go_wp2_with (first
                  | (with_reducible refine ld_ub rfl _ rfl b' (off' + q * 7) v rfl HV.out ?_)
                  | (with_reducible refine st_ub rfl _ _ rfl wr.heap.size 0 v rfl rfl (Blk.ubHas (u := zub) (Blk.new wr _ _)) ?_; intro w5' hw5
                     have HS6 := Lib.hid (HS5.out.kp hw5.out).1
                     have HK6 := Lib.hid (HK5.out.below (new_ub hw5.out).2)))
                go_roundw
                case rel => exact ⟨q + 1, HQ.out, by go_num, by rw [HSN.out, Bool.true_or], HS6.out, HK6.out⟩
                case measure => have := HQ.out; simp [intOf]; omega
            · have HTA := Lib.hid (take_all hq hlt)
              obtain rfl : q = now.length := by omega
              rw [HTA.out]
              clear hq hlt HTA
              rcases hany : anyU now u with _ | _
              · have hsl : slotU u = a := by
                  rcases Nat.decEq (slotU u) a with h | h
                  · rw [any_iff.2 (HRO.out h)] at hany
                    cases hany
                  · exact h
                have hw : IntKind.i64.wrap ((u.txg : Int) % 4) = (u.txg : Int) % 4 := by rw [IntKind.wrap_i64]; omega
                have hne : ((u.txg : Int) % 4 != (a : Int)) = false := by
                  have : (u.txg : Int) % 4 = (a : Int) := by unfold slotU at hsl; omega
                  rw [this]
                  simp
                have c0 := HK5.out.1.ubF.1
                clear hsl hany
                go_wp2_with fail
                go_roundw
                case rel => exact ⟨j + 1, HJ.out, by go_num, HS5.out⟩
                case measure => have := HJ.out; simp [intOf]; omega
              · clear hany
                go_wp2_with fail
                go_roundw
                case rel => exact ⟨j + 1, HJ.out, by go_num, HS5.out⟩
                case measure => have := HJ.out; simp [intOf]; omega
        · obtain rfl : j = was.length := by omega
          clear hj hlt
          go_wp2_with (first
            | (with_reducible refine ld_sec rfl _ rfl g5 0 s rfl HS.out.mid.sec.1.secIs ?_)
            | (go_at_call 14; with_reducible refine Calls.mono (HRD.out _) ?_; rintro e w4' ⟨rfl, hb4⟩
               have HS4 := Lib.hid (HS.out.fresh hb4)
               clear hb4)
            | (with_reducible refine st_ub rfl _ _ rfl w4'.heap.size 0 rv rfl rfl (Blk.ubHas (u := zub) (Blk.new w4' _ _)) ?_; intro w5' hw5
               have HS5 := Lib.hid (HS4.out.kp hw5.out).1
               have HK5 := Lib.hid (HS4.out.kp hw5.out).2))
          clear HS4 HS hw5
          generalize w4'.heap.size = g19 at *
          go_loopw [21, 96] (fun o i wr => ∃ (q : Nat), q ≤ now.length ∧ i = .int .i64 q ∧ o = .bool (anyU (now.take q) rv) ∧ SLoop w wr B D pv st3 s g5 A1 A3 was now ∧ Kp wr D pv g19 27 rv.cs.toArray) (fun _ i _ => now.length - (intOf i).toNat)
          case atStart => exact ⟨0, by omega, rfl, rfl, HS5.out, HK5.out⟩
          case round =>
            clear HS5 HK5
            obtain ⟨q, hq, rfl, rfl, hS6, hK6⟩ := hrel
            have HS6 := Lib.hid hS6
            have HK6 := Lib.hid hK6
            clear hS6 hK6
            by_cases hlt : q < now.length
            · have hqi : (q : Int) < now.length := by omega
              have hq4 : (q : Int) < 4 := by have := HN4.out; omega
              have HQ := Lib.hid hlt
              obtain ⟨b', off', rfl, hr⟩ := HS6.out.now_.ub q hlt
              have HV := Lib.hid hr
              have HSN := Lib.hid (any_snoc now rv q hlt)
              generalize now[q] = v at *
              clear hr hq hlt
              rcases hany : anyU (now.take q) rv with _ | _
              · rw [hany, same_comm rv v] at HSN
                clear hany
                go_wp2_with (first
                  | (with_reducible refine ld_ub rfl _ rfl b' (off' + q * 7) v rfl HV.out ?_)
                  | (with_reducible refine st_ub rfl _ _ rfl wr.heap.size 0 v rfl rfl (Blk.ubHas (u := zub) (Blk.new wr _ _)) ?_; intro w6' hw6
                     have HS7 := Lib.hid (HS6.out.kp hw6.out).1
                     have HV7 := Lib.hid (HS6.out.kp hw6.out).2
                     have HK7 := Lib.hid (HK6.out.below (new_ub hw6.out).2))
                  | (refine wpList_val (by rfl) (.agg rv.cs.toArray) (ex_ldU (.tmp 19) rfl g19 0 rv rfl HK7.out.1.ubIs) ?_)
                  | (refine wpList_val (by rfl) (.agg v.cs.toArray) (ex_ldU (.tmp 23) rfl wr.heap.size 0 v rfl HV7.out.1.ubIs) ?_)
                  | (refine wpList_val (by rfl) (.bool (v.same rv)) (ex_eqU (.tmp 102) (.tmp 103) rfl v rv rfl rfl) ?_))
                go_roundw
                case rel => exact ⟨q + 1, HQ.out, by go_num, by rw [HSN.out, Bool.false_or], HS7.out, HK7.out⟩
                case measure => have := HQ.out; simp [intOf]; omega
              · rw [hany] at HSN
                clear hany
                go_wp2_with (first
                  | (with_reducible refine ld_ub rfl _ rfl b' (off' + q * 7) v rfl HV.out ?_)
                  | (with_reducible refine st_ub rfl _ _ rfl wr.heap.size 0 v rfl rfl (Blk.ubHas (u := zub) (Blk.new wr _ _)) ?_; intro w6' hw6
                     have HS7 := Lib.hid (HS6.out.kp hw6.out).1
                     have HK7 := Lib.hid (HK6.out.below (new_ub hw6.out).2)))
                go_roundw
                case rel => exact ⟨q + 1, HQ.out, by go_num, by rw [HSN.out, Bool.true_or], HS7.out, HK7.out⟩
                case measure => have := HQ.out; simp [intOf]; omega
            · have HTA := Lib.hid (take_all hq hlt)
              obtain rfl : q = now.length := by omega
              rw [HTA.out]
              clear hq hlt HTA
              have HBE := Lib.hid HS6.out.mid.below
              have hw : IntKind.i64.wrap ((rv.txg : Int) % 4) = (rv.txg : Int) % 4 := by rw [IntKind.wrap_i64]; omega
              have c0 := HK6.out.1.ubF.1
              rcases rb with _ | _
              · rcases hany : anyU now rv with _ | _
                · clear hany
                  go_wp2_with fail
                  go_ret
                  exact ⟨rfl, HBE.out⟩
                · exact absurd (any_iff.1 hany) (HRn.out rfl)
              · rcases Nat.decEq (slotU rv) a with h | h
                · have hne : ((rv.txg : Int) % 4 == (a : Int)) = false := by
                    rw [beq_eq_false_iff_ne]
                    unfold slotU at h
                    omega
                  have hne2 : ((rv.txg : Int) % 4 != (a : Int)) = true := by rw [bne, hne]; rfl
                  clear h
                  rcases hany : anyU now rv with _ | _
                  · clear hany
                    go_wp2_with fail
                    go_ret
                    exact ⟨rfl, HBE.out⟩
                  · clear hany
                    go_wp2_with fail
                    go_ret
                    exact ⟨rfl, HBE.out⟩
                · have hne : ((rv.txg : Int) % 4 == (a : Int)) = true := by
                    have : (rv.txg : Int) % 4 = (a : Int) := by unfold slotU at h; omega
                    rw [this]
                    simp
                  have hany := any_iff.2 (HRi.out rfl h)
                  rw [hany]
                  clear h hany
                  go_wp2_with fail
                  go_ret
                  exact ⟨rfl, HBE.out⟩
theorem spoils_any (w : World) (l : List Ub) (hl : l.length = 4) (at_ : Int) (s : Sec) :
    Calls Try.prog 7 #[.agg (flatU l).toArray, .int .i64 at_, .agg s.cs.toArray] w fun e w' => e = .returned (.bool true) ∧ Below w.heap.size w w' := by
  by_cases h : at_ < 0 ∨ 3 < at_
  · exact spoils_out w l hl at_ s h
  · obtain ⟨a, rfl⟩ : ∃ a : Nat, at_ = (a : Int) := ⟨at_.toNat, by omega⟩
    exact spoils_in w l hl a (by omega) s
end Go.Proofs.Ytegcknloemgndaa
