/- The reference's Diff. -/
import Derived.Test.YtklccgmhllpjkaaJ3
import Derived.Test.YtklccgmhllpjkaaZ2
set_option maxRecDepth 10000
namespace Go.Proofs.Ytklccgmhllpjkaa
open Go.RowKit

/-! ### A row of moves that grows -/
theorem build_free (s n : Int) (w : World) : (Instr.build 54 #[(1, .agg #[.int .i64 s, .int .i64 n])]).run Try.prog w = .ok (.agg (Mv.cs ⟨false, s, n⟩).toArray) w := by
  refine run_build w _ _ _ ?_
  kernel_rfl
theorem build_take (s n : Int) (w : World) : (Instr.build 54 #[(0, .bool true), (1, .agg #[.int .i64 s, .int .i64 n])]).run Try.prog w = .ok (.agg (Mv.cs ⟨true, s, n⟩).toArray) w := by
  refine run_build w _ _ _ ?_
  kernel_rfl
theorem ex_free {o : Oper} {a : Act} {w : World} (x : Operand) (ho : o.op = .build 54 #[(1, x)]) (s n : Int) (hx : a.eval x = .agg #[.int .i64 s, .int .i64 n]) :
    (execOp a.eval o).run Try.prog w = .ok (.value (.agg (Mv.cs ⟨false, s, n⟩).toArray)) w := by
  unfold execOp
  simp only [ho, List.map_toArray, List.map_cons, List.map_nil, hx, build_free, Sem.run_bind, Sem.run_pure, Result.andThen_ok]
theorem ex_bslM {o : Oper} {a : Act} {w : World} (y : Operand) (ho : o.op = .buildSlice 27 1 #[(0, y)]) (p : Mv) (hy : a.eval y = .agg p.cs.toArray) :
    (execOp a.eval o).run Try.prog w = .ok (.value (.slice (some ⟨w.heap.size, 0, none⟩) 1 1)) (w.alloc (.cells p.cs.toArray 54)) := by
  have hb := run_bsl1 Try.underlying27 infoMv (by omega) (by omega) p.cs p.cs_len (.agg p.cs.toArray) rfl w
  unfold execOp
  simp only [ho, List.map_toArray, List.map_cons, List.map_nil, hy, hb, Sem.run_bind, Sem.run_pure, Result.andThen_ok]
def OwnM (w : World) (base : Nat) (v : Value) (l : List Mv) : Prop := w.ownsRow base 54 3 v l.length (mvs l)
theorem app_mv {ops : Array Oper} {rest : List Oper} {o : Oper} {a : Act} {w : World} {Q : Exit → Act → World → Prop} (hgd : o.guard = none) (s x : Nat)
    (ho : o.op = .call { callee := .builtin .append, args := #[.tmp s, .tmp x], argTypes := #[27, 27] })
    (base : Nat) (v : Value) (l : List Mv) (hs : a.eval (.tmp s) = v) (hown : OwnM w base v l) (u : Mv)
    (hx : a.eval (.tmp x) = .slice (some ⟨w.heap.size, 0, none⟩) 1 1) (hbase : base ≤ w.heap.size) (hn : l.length ≤ 1000000)
    (h : ∀ v' w', OwnM w' base v' (l ++ [u]) → (w.alloc (.cells u.cs.toArray 54)).grownBy w' v.ownBlock → (∀ k, v'.ownBlock = some k → v.ownBlock = some k ∨ w.heap.size ≤ k) → wpList Try.prog ops Q rest (a.put o.dst v') w') :
    wpList Try.prog ops Q (o :: rest) a (w.alloc (.cells u.cs.toArray 54)) := by
  obtain ⟨i0, hi0, hz0, hz2, hz3⟩ := info_parts infoMv
  have hcs : (Value.agg zmv.cs.toArray).cells.size = 3 := rfl
  refine wpList_append_lies _ hgd (.tmp s) (.tmp x) _ ho base 54 i0 _ 3 24 Try.underlying27 hi0 hz0 hz2 hz3 hcs (by omega) v l.length (mvs l) hs (World.ownsRow.alloc hown _)
    ⟨w.heap.size, 0, none⟩ 1 1 u.cs hx rfl (fun j v hv => by
      rw [Addr.add_mid]
      have := (Blk.new w 54 u.cs.toArray).mvIs (m := u) j v hv
      exact this) u.one (by omega) (by simp only [maxLen]; omega) (by omega) (by simp; omega) (w.heap.size + 1) (by simp) ?_
  intro g cap w' h1 h2 h3 _
  refine h _ w' ?_ h2 ?_
  · show w'.ownsRow base 54 3 _ (l ++ [u]).length (mvs (l ++ [u]))
    rw [mvs_snoc, List.length_append]
    exact h1
  · intro k hk
    rcases h3 with h3 | h3
    · left; rw [h3, ← hk]; rfl
    · right
      have : g = k := by simpa [Value.ownBlock] using hk
      omega
/-- What stands while a row of moves grows. -/
structure MInv (w wr : World) (base : Nat) (v : Value) (l : List Mv) : Prop where
  own : OwnM wr base v l
  below : Below base w wr
  le : base ≤ wr.heap.size
theorem MInv.alloc {w wr : World} {base : Nat} {v : Value} {l : List Mv} (h : MInv w wr base v l) (o : Obj) : MInv w (wr.alloc o) base v l :=
  ⟨World.ownsRow.alloc h.own o, h.below.alloc h.le o, by simp; have := h.le; omega⟩
theorem MInv.fresh {w wr wr' : World} {base : Nat} {v : Value} {l : List Mv} (h : MInv w wr base v l) (hb : Below wr.heap.size wr wr') : MInv w wr' base v l :=
  ⟨own_far h.own hb, h.below.trans (hb.mono h.le), Nat.le_trans h.le hb.size⟩
theorem MInv.app {w wr w' : World} {base : Nat} {v v' : Value} {l : List Mv} {u : Mv} (h : MInv w wr base v l) (ho : OwnM w' base v' (l ++ [u])) (hg : (wr.alloc (.cells u.cs.toArray 54)).grownBy w' v.ownBlock) :
    MInv w w' base v' (l ++ [u]) :=
  have h' := h.alloc (.cells u.cs.toArray 54)
  ⟨ho, below_own h'.below h'.own (Nat.le_refl _) h'.le hg, Nat.le_trans h'.le hg.size⟩
def GivesM (l : List Mv) (w : World) (e : Ending) (w' : World) : Prop := ∃ A c, e = .returned (.slice A l.length c) ∧ Rd w' w'.heap.size A (mvs l) ∧ l.length ≤ c ∧ Below w.heap.size w w'
theorem MInv.gives {w w' : World} {v : Value} {l : List Mv} {e : Ending} (h : MInv w w' w.heap.size v l) (he : e = .returned v) : GivesM l w e w' := by
  obtain ⟨A, c, rfl, h1, h2⟩ := own_rd h.own
  exact ⟨A, c, he, h1, h2, h.below⟩

/-- A row of spans, all its blocks between two marks. -/
def Low (w : World) (N : Nat) (A : Option Addr) (L : List Sp) : Prop := ∀ k (hk : k < L.length), ∃ b off, A = some ⟨b, off, none⟩ ∧ N ≤ b ∧ b < w.heap.size ∧ w.cell? ⟨b, off + k * 2, none⟩ = some (.int .i64 L[k].1) ∧ w.cell? ⟨b, off + k * 2 + 1, none⟩ = some (.int .i64 L[k].2)
theorem low_of {w : World} {N : Nat} {v : Value} {L : List Sp} (h : OwnR w N v L.reverse) : ∃ A c, v = .slice A L.length c ∧ Low w N A L := by
  obtain ⟨A, c, e, h1, _⟩ := own_slice h
  refine ⟨A, c, e, fun k hk => ?_⟩
  obtain ⟨g, cap, e', hN, hl, _⟩ := own_form h (by simp; omega)
  rw [e] at e'
  obtain ⟨b, off, rfl, h3, h4, h5⟩ := sp_at h1 k hk
  simp only [Value.slice.injEq, Option.some.injEq, Addr.mk.injEq] at e'
  exact ⟨b, off, rfl, by omega, h3, h4, h5⟩
/-- What stands while a row of moves grows beside a row that is read: the row that is read lies between N and the world w3's end. -/
structure MOut (w w3 wr : World) (base N : Nat) (v : Value) (l : List Mv) : Prop where
  inv : MInv w wr base v l
  chg : Chg w3 wr (· < N)
  apart : ∀ k, v.ownBlock = some k → k < N ∨ w3.heap.size ≤ k
theorem MOut.start {w w2 w3 : World} {base : Nat} {v : Value} {l : List Mv} (h : MInv w w2 base v l) (hb : Below w2.heap.size w2 w3) : MOut w w3 w3 base w2.heap.size v l :=
  ⟨h.fresh hb, Chg.refl _ _, fun k hk => .inl (h.own.lt k hk).2⟩
theorem MOut.fresh {w w3 wr wr' : World} {base N : Nat} {v : Value} {l : List Mv} (h : MOut w w3 wr base N v l) (hb : Below wr.heap.size wr wr') : MOut w w3 wr' base N v l :=
  ⟨h.inv.fresh hb, h.chg.trans (Chg.of_below hb) fun _ _ hk => hk, h.apart⟩
theorem MOut.app {w w3 wr w' : World} {base N : Nat} {v v' : Value} {l : List Mv} {u : Mv} (h : MOut w w3 wr base N v l) (ho : OwnM w' base v' (l ++ [u])) (hg : (wr.alloc (.cells u.cs.toArray 54)).grownBy w' v.ownBlock)
    (hl : ∀ k, v'.ownBlock = some k → v.ownBlock = some k ∨ wr.heap.size ≤ k) : MOut w w3 w' base N v' (l ++ [u]) :=
  ⟨h.inv.app ho hg, (h.chg.alloc _).grown hg fun k hk => h.apart k hk, fun k hk => (hl k hk).elim (h.apart k) fun hk => .inr (Nat.le_trans h.chg.size hk)⟩
theorem MOut.cell {w w3 wr : World} {base N : Nat} {v : Value} {l : List Mv} (h : MOut w w3 wr base N v l) {b : Nat} (h1 : N ≤ b) (h2 : b < w3.heap.size) (o : Nat) : wr.cell? ⟨b, o, none⟩ = w3.cell? ⟨b, o, none⟩ :=
  h.chg.cell h2 (Nat.not_lt.2 h1) o

/-! ### The moves between two sets -/
def spM (t : Bool) (L : List Sp) : List Mv := L.map fun p => ⟨t, p.1, p.2⟩
theorem spM_len (t : Bool) (L : List Sp) : (spM t L).length = L.length := List.length_map _
theorem spM_take (t : Bool) (L : List Sp) (k : Nat) (hk : k < L.length) : spM t (L.take (k + 1)) = spM t (L.take k) ++ [⟨t, L[k].1, L[k].2⟩] := by
  unfold spM
  rw [List.take_succ_eq_append_getElem hk, List.map_append]
  rfl
def diffS (S T : Int → Bool) : List Mv := spM false (canon (mixF 1 S T)) ++ spM true (canon (mixF 1 T S))
def diffF (l m : List Sp) : List Mv := if rightF 0 l = true ∧ rightF 0 m = true then diffS (memF l) (memF m) else []
theorem canon_len (S : Int → Bool) : (canon S).length ≤ 4097 := by have := len_le (canon_right S); omega
theorem mixl_any (A A' : Option Addr) (c c' : Nat) (l m : List Sp) (w : World) (hs : Rd w w.heap.size A (spc l)) (hr : rightF 0 l = true) (hs' : Rd w w.heap.size A' (spc m)) (hr' : rightF 0 m = true) :
    Calls Try.prog 33 #[.slice A l.length c, .slice A' m.length c', .int .i64 1] w fun e w' => ∃ B d, e = .returned (.slice B (canon (mixF 1 (memF l) (memF m))).length d) ∧ Low w' w.heap.size B (canon (mixF 1 (memF l) (memF m))) ∧ Below w.heap.size w w' :=
  (mix_any A A' c c' l m 1 w hs hr hs' hr' (.inr (.inl rfl))).mono fun _ _ ⟨_, he, ho, hb⟩ => by
    obtain ⟨B, d, rfl, hL⟩ := low_of ho
    exact ⟨B, d, he, hL, hb⟩
theorem nil_MInv (w : World) : MInv w (w.alloc (.cells #[] 54)) w.heap.size (.slice (some ⟨w.heap.size, 0, none⟩) 0 0) [] :=
  ⟨own_empty w 54 3, (Below.refl _ _).alloc (Nat.le_refl _) _, by simp⟩
set_option maxHeartbeats 4000000 in
theorem jdiff_any (A A' : Option Addr) (c c' : Nat) (l m : List Sp) (w : World) (hs : Rd w w.heap.size A (spc l)) (hok : SpOk l) (hl : l.length ≤ 4503599627370496)
    (ht : Rd w w.heap.size A' (spc m)) (hok' : SpOk m) (hm : m.length ≤ 4503599627370496) :
    Calls Try.prog 17 #[.slice A l.length c, .slice A' m.length c'] w (GivesM (diffF l m) w) := by
  have HN := Lib.hid (nil_MInv w)
  have HR := Lib.hid (fun W (hW : Below w.heap.size w W) => rright_any A c l W ((hs.below hW).mono hW.size) hok hl)
  have HR' := Lib.hid (fun W (hW : Below w.heap.size w W) => rright_any A' c' m W ((ht.below hW).mono hW.size) hok' hm)
  cases hr : rightF 0 l with
  | false =>
    rw [hr] at HR
    have HE : Hid (diffF l m = []) := if_neg (by rw [hr]; simp)
    clear hs ht hok hok' hl hm hr
    go_enter Try.func17, Try.ntmps17
    go_wp2_with (go_at_call 22; (with_reducible refine Calls.mono (HR.out _ HN.out.below) ?_); rintro e w1 ⟨rfl, hb1⟩; have HN1 := Lib.hid (HN.out.fresh hb1); clear hb1)
    go_ret
    rw [HE.out]
    exact HN1.out.gives rfl
  | true =>
    cases hr' : rightF 0 m with
    | false =>
      rw [hr] at HR
      rw [hr'] at HR'
      have HE : Hid (diffF l m = []) := if_neg (by rw [hr']; simp)
      clear hs ht hok hok' hl hm hr hr'
      go_enter Try.func17, Try.ntmps17
      go_wp2_with (first
        | (go_at_call 22; (with_reducible refine Calls.mono (HR.out _ HN.out.below) ?_); rintro e w1 ⟨rfl, hb1⟩; have HN1 := Lib.hid (HN.out.fresh hb1); clear hb1 HR)
        | (go_at_call 22; (with_reducible refine Calls.mono (HR'.out _ HN1.out.below) ?_); rintro e w2 ⟨rfl, hb2⟩; have HN2 := Lib.hid (HN1.out.fresh hb2); clear hb2 HR'))
      go_ret
      rw [HE.out]
      exact HN2.out.gives rfl
    | true =>
      rw [hr] at HR
      rw [hr'] at HR'
      have HE : Hid (diffF l m = diffS (memF l) (memF m)) := if_pos ⟨hr, hr'⟩
      have HX := Lib.hid (fun W (hW : Below w.heap.size w W) => mixl_any A A' c c' l m W ((hs.below hW).mono hW.size) hr ((ht.below hW).mono hW.size) hr')
      have HX' := Lib.hid (fun W (hW : Below w.heap.size w W) => mixl_any A' A c' c m l W ((ht.below hW).mono hW.size) hr' ((hs.below hW).mono hW.size) hr)
      rw [HE.out]
      clear HE hs ht hok hok' hl hm hr hr'
      unfold diffS
      have HL1 := Lib.hid (canon_len (mixF 1 (memF l) (memF m)))
      have HL2 := Lib.hid (canon_len (mixF 1 (memF m) (memF l)))
      generalize canon (mixF 1 (memF l) (memF m)) = L1 at *
      generalize canon (mixF 1 (memF m) (memF l)) = L2 at *
      go_enter Try.func17, Try.ntmps17
      go_wp2_with (first
        | (go_at_call 22; (with_reducible refine Calls.mono (HR.out _ HN.out.below) ?_); rintro e w1 ⟨rfl, hb1⟩; have HN1 := Lib.hid (HN.out.fresh hb1); clear hb1 HR)
        | (go_at_call 22; (with_reducible refine Calls.mono (HR'.out _ HN1.out.below) ?_); rintro e w2 ⟨rfl, hb2⟩; have HN2 := Lib.hid (HN1.out.fresh hb2); clear hb2 HR')
        | (go_at_call 33; (with_reducible refine Calls.mono (HX.out _ HN2.out.below) ?_); rintro e w3 ⟨B1, d1, rfl, hrd1, hb3⟩; have HN3 := Lib.hid (MOut.start HN2.out hb3); have HD1 := Lib.hid hrd1; clear hb3 hrd1 HX))
      clear HN HN1 HN2
      generalize hbase : w.heap.size = base at *
      have HB := Lib.hid hbase
      clear hbase
      generalize (Value.slice (some ⟨base, 0, none⟩) 0 0) = v0 at *
      generalize w2.heap.size = N at *
      have hL1 : (L1.length : Int) ≤ 4097 := by have := HL1.out; omega
      go_loopw [24, 5] (fun i v wr => ∃ (k : Nat), k ≤ L1.length ∧ i = .int .i64 k ∧ MOut w w3 wr base N v (spM false (L1.take k))) (fun i _ _ => L1.length - (intOf i).toNat)
      case atStart => exact ⟨0, Nat.zero_le _, rfl, HN3.out⟩
      case round =>
        clear HN3
        obtain ⟨k, hk, rfl, hI⟩ := hrel
        have HI := Lib.hid hI
        clear hI
        by_cases hlt : k < L1.length
        · have hki : (k : Int) < L1.length := by omega
          obtain ⟨b, off, rfl, hN, hbB, hc1, hc2⟩ := HD1.out k hlt
          rw [← HI.out.cell hN hbB] at hc1 hc2
          have HT := Lib.hid (spM_take false L1 k hlt)
          have HK := Lib.hid hlt
          have HTL := Lib.hid (show (spM false (L1.take k)).length ≤ 1000000 by rw [spM_len, List.length_take]; have := HL1.out; omega)
          generalize L1[k].1 = s at *
          generalize L1[k].2 = n at *
          clear hN hbB hlt hk
          go_upto_region 7 with fail
          have HI6 := Lib.hid (HI.out.fresh ((Below.refl _ _).alloc (Nat.le_refl _) (.cells #[.int .i64 s, .int .i64 n] 52)))
          have d1 : (wr.alloc (.cells #[.int .i64 s, .int .i64 n] 52)).cell? ⟨wr.heap.size, 0, none⟩ = some (.int .i64 s) := (Blk.new wr _ _).cell 0
          have d2 : (wr.alloc (.cells #[.int .i64 s, .int .i64 n] 52)).cell? ⟨wr.heap.size, 1, none⟩ = some (.int .i64 n) := (Blk.new wr _ _).cell 1
          clear hc1 hc2 HI
          generalize wr.alloc (.cells #[.int .i64 s, .int .i64 n] 52) = w6 at *
          generalize wr.heap.size = g6 at *
          go_wp2_with (first
            | (refine wpList_val (by rfl) (.agg (Mv.cs ⟨false, s, n⟩).toArray) (ex_free (.tmp 29) rfl s n rfl) ?_)
            | (refine wpList_val (by rfl) (.slice (some ⟨w6.heap.size, 0, none⟩) 1 1) (ex_bslM (.tmp 30) rfl ⟨false, s, n⟩ rfl) ?_)
            | (at_builtin; refine app_mv rfl 28 31 rfl base _ _ rfl HI6.out.inv.own ⟨false, s, n⟩ rfl HI6.out.inv.le HTL.out ?_; intro v' w7 ho7 hg7 hl7; have HI7 := Lib.hid (HI6.out.app ho7 hg7 hl7)))
          go_roundw
          case rel => exact ⟨k + 1, HK.out, by go_num, by rw [HT.out]; exact HI7.out⟩
          case measure => have := HK.out; simp [intOf]; omega
        · obtain rfl : k = L1.length := by omega
          rw [List.take_of_length_le (Nat.le_refl _)] at HI
          have HI := Lib.hid HI.out.inv
          have HS1 := Lib.hid (show (spM false L1).length ≤ 4097 by rw [spM_len]; exact HL1.out)
          clear HD1 hk hlt
          generalize spM false L1 = M1 at *
          have HXB := Lib.hid (HX'.out wr (HB.out ▸ HI.out.below))
          clear HX'
          go_wp2_with (go_at_call 33; (with_reducible refine Calls.mono HXB.out ?_); rintro e w4 ⟨B2, d2, rfl, hrd2, hb4⟩; have HN4 := Lib.hid (MOut.start HI.out hb4); have HD2 := Lib.hid hrd2; clear hb4 hrd2 HXB)
          clear HI
          generalize wr.heap.size = N4 at *
          have hL2 : (L2.length : Int) ≤ 4097 := by have := HL2.out; omega
          obtain ⟨wo, hwo⟩ : ∃ wo : World, wo = wr := ⟨_, rfl⟩
          clear hwo
          go_loopw [38, 5] (fun i v wr => ∃ (k : Nat), k ≤ L2.length ∧ i = .int .i64 k ∧ MOut w w4 wr base N4 v (M1 ++ spM true (L2.take k))) (fun i _ _ => L2.length - (intOf i).toNat)
          case atStart => exact ⟨0, Nat.zero_le _, rfl, by rw [List.take_zero]; simpa [spM] using HN4.out⟩
          case round =>
            clear HN4
            obtain ⟨k, hk, rfl, hI⟩ := hrel
            have HI := Lib.hid hI
            clear hI
            by_cases hlt : k < L2.length
            · have hki : (k : Int) < L2.length := by omega
              obtain ⟨b, off, rfl, hN, hbB, hc1, hc2⟩ := HD2.out k hlt
              rw [← HI.out.cell hN hbB] at hc1 hc2
              have HT := Lib.hid (spM_take true L2 k hlt)
              have HK := Lib.hid hlt
              have HTL := Lib.hid (show (M1 ++ spM true (L2.take k)).length ≤ 1000000 by rw [List.length_append, spM_len, List.length_take]; have := HL2.out; have := HS1.out; omega)
              generalize L2[k].1 = s at *
              generalize L2[k].2 = n at *
              clear hN hbB hlt hk
              go_upto_region 12 with fail
              have HI6 := Lib.hid (HI.out.fresh ((Below.refl _ _).alloc (Nat.le_refl _) (.cells #[.int .i64 s, .int .i64 n] 52)))
              have d1 : (wr.alloc (.cells #[.int .i64 s, .int .i64 n] 52)).cell? ⟨wr.heap.size, 0, none⟩ = some (.int .i64 s) := (Blk.new wr _ _).cell 0
              have d2 : (wr.alloc (.cells #[.int .i64 s, .int .i64 n] 52)).cell? ⟨wr.heap.size, 1, none⟩ = some (.int .i64 n) := (Blk.new wr _ _).cell 1
              clear hc1 hc2 HI
              generalize wr.alloc (.cells #[.int .i64 s, .int .i64 n] 52) = w6 at *
              generalize wr.heap.size = g6 at *
              go_wp2_with (first
                | (refine wpList_val (by rfl) (.agg (Mv.cs ⟨true, s, n⟩).toArray) (ex_build01 (.const (.bool true)) (.tmp 43) rfl (.bool true) (.agg #[.int .i64 s, .int .i64 n]) _ rfl rfl (build_take s n _)) ?_)
                | (refine wpList_val (by rfl) (.slice (some ⟨w6.heap.size, 0, none⟩) 1 1) (ex_bslM (.tmp 44) rfl ⟨true, s, n⟩ rfl) ?_)
                | (at_builtin; refine app_mv rfl 42 45 rfl base _ _ rfl HI6.out.inv.own ⟨true, s, n⟩ rfl HI6.out.inv.le HTL.out ?_; intro v' w7 ho7 hg7 hl7; have HI7 := Lib.hid (HI6.out.app ho7 hg7 hl7)))
              go_roundw
              case rel => exact ⟨k + 1, HK.out, by go_num, by rw [HT.out, ← List.append_assoc]; exact HI7.out⟩
              case measure => have := HK.out; simp [intOf]; omega
            · obtain rfl : k = L2.length := by omega
              rw [List.take_of_length_le (Nat.le_refl _)] at HI
              have HI := Lib.hid HI.out.inv
              have HB := HB.out
              subst HB
              clear HD2 hk hlt
              generalize M1 ++ spM true L2 = M2 at *
              go_wp2_with fail
              go_ret
              exact HI.out.gives rfl
end Go.Proofs.Ytklccgmhllpjkaa
