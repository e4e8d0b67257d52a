/- Walks: what a sector says. -/
import Derived.Test.YtegcknloemgndaaU4
import Derived.StillTailTactics
set_option maxRecDepth 10000
namespace Go.Proofs.Ytegcknloemgndaa
open Go.RowKit

section
variable (u : Ub)
theorem ubytes_any (w : World) : Calls Try.prog 12 #[.agg u.cs.toArray] w fun e w' => e = .returned (.tuple #[.agg (bytesS u).cs.toArray, .int .i64 (bytesC u)]) ∧ Below w.heap.size w w' := by
  rcases h : rightU u with _ | _
  · rw [bytesS_f h, bytesC_f h]; exact ubytes_no u h w
  · rw [bytesS_t h, bytesC_t h]; exact ubytes_yes u h w
end
theorem rdA_lt (l : List UInt8) : I64 (rdA l) := by
  unfold rdA I64
  split
  · rename_i h
    have : l.length = 16 := by simp only [okF, Bool.and_eq_true, decide_eq_true_eq] at h; exact h.1
    have := at_lt this
    omega
  · omega
theorem rdB_lt (l : List UInt8) : 0 ≤ rdB l ∧ rdB l < 18446744073709551616 := by
  unfold rdB
  split
  · rename_i h
    have : l.length = 16 := by simp only [okF, Bool.and_eq_true, decide_eq_true_eq] at h; exact h.1
    have := born_lt this
    omega
  · omega
theorem rdS_lt (l : List UInt8) : 0 ≤ rdS l ∧ rdS l < 4294967296 := by
  unfold rdS
  split
  · rename_i h
    have : l.length = 16 := by simp only [okF, Bool.and_eq_true, decide_eq_true_eq] at h; exact h.1
    have := sum_lt this
    omega
  · omega
theorem num4_lt (l : List UInt8) : numF (l.take 4) < 4294967296 := by
  have h := numF_lt (l.take 4)
  have h2 : (l.take 4).length ≤ 4 := List.length_take_le _ _
  have h3 := Nat.pow_le_pow_right (n := 256) (by omega) h2
  omega
theorem num8_lt (l : List UInt8) : numF (l.take 8) < 18446744073709551616 := numF_lt8 (List.length_take_le _ _)
/-- The bytes of a sector's table. -/
def tabL (s : Sec) : List UInt8 := (s.l.drop 20).take 16
theorem tab_len (s : Sec) : (tabL s).length = 16 := by simp [tabL, s.h]
def lenN (s : Sec) : Nat := numF ((s.l.drop 36).take 4)
def secN (s : Sec) : Nat := numF ((s.l.drop 40).take 4)
def txgN (s : Sec) : Nat := numF ((s.l.drop 4).take 8)
def stmN (s : Sec) : Nat := numF ((s.l.drop 12).take 8)
def partsU (s : Sec) : Ub := ⟨txgN s, stmN s, rdA (tabL s), (rdB (tabL s)).toNat, (rdS (tabL s)).toNat, (lenN s : Int), (secN s : Int),
  ⟨num8_lt _, num8_lt _, by have := rdB_lt (tabL s); omega, by have := rdS_lt (tabL s); omega⟩, rdA_lt _, by have := num4_lt (s.l.drop 36); unfold I64 lenN; omega, by have := num4_lt (s.l.drop 40); unfold I64 secN; omega⟩
theorem stamps_get (s : Sec) : getF [((8 : Nat) : Int), ((8 : Nat) : Int)] ((s.l.drop 4).take 16) = some [txgN s, stmN s] := by
  rw [get2 (by omega) (by simp [s.h]), List.take_take, List.drop_take, List.drop_drop]
  rfl
theorem sizes_get (s : Sec) : getF [((4 : Nat) : Int), ((4 : Nat) : Int)] ((s.l.drop 36).take 8) = some [lenN s, secN s] := by
  rw [get2 (by omega) (by simp [s.h]), List.take_take, List.drop_take, List.drop_drop]
  rfl
theorem Sec.rd {w : World} {g : Nat} {t : TypeId} {s : Sec} (h : Blk w g t s.cs.toArray) (k n : Nat) : Rd w w.heap.size (some ⟨g, k, none⟩) (bys ((s.l.drop k).take n)) := Blk.rdB (L := s.l) h k n
theorem parts_two (w : World) (s : Sec) : Blk ((w.alloc (.cells s.cs.toArray 34)).alloc (.cells zub.cs.toArray 27)) w.heap.size 34 s.cs.toArray ∧
    Blk ((w.alloc (.cells s.cs.toArray 34)).alloc (.cells zub.cs.toArray 27)) (w.heap.size + 1) 27 zub.cs.toArray := by
  have h2 := Blk.new (w.alloc (.cells s.cs.toArray 34)) 27 zub.cs.toArray
  rw [show (w.alloc (.cells s.cs.toArray 34)).heap.size = w.heap.size + 1 by simp] at h2
  exact ⟨(Blk.new w _ _).below ((Below.refl (w.alloc (.cells s.cs.toArray 34)).heap.size _).alloc (Nat.le_refl _) _) (by simp), h2⟩
/-- Two blocks of the call's own, a sector's and an uber's, and all that lay there. -/
structure BaseS (w w' : World) (s : Sec) (u : Ub) : Prop where
  sec : Blk w' w.heap.size 34 s.cs.toArray
  ub : Blk w' (w.heap.size + 1) 27 u.cs.toArray
  below : Below w.heap.size w w'
  size : w.heap.size + 2 ≤ w'.heap.size
theorem BaseS.next {w w' w'' : World} {s : Sec} {u : Ub} (h : BaseS w w' s u) (hb : Below w'.heap.size w' w'') : BaseS w w'' s u :=
  ⟨h.sec.below hb h.sec.lt, h.ub.below hb h.ub.lt, h.below.trans (hb.mono h.below.size), Nat.le_trans h.size hb.size⟩
theorem baseS_new (w : World) (s : Sec) : BaseS w ((w.alloc (.cells s.cs.toArray 34)).alloc (.cells zub.cs.toArray 27)) s zub :=
  ⟨(parts_two w s).1, (parts_two w s).2, ((Below.refl w.heap.size w).alloc (Nat.le_refl _) _).alloc (by simp) _, by simp⟩
theorem rd_newd (w : World) (cs : Array Value) (t : TypeId) : Rd (w.alloc (.cells cs t)).drew (w.alloc (.cells cs t)).drew.heap.size (some ⟨w.heap.size, 0, none⟩) cs.toList := (rd_new w cs t).below (Below.refl _ _).drew
theorem un2_at {w : World} {B : Nat} {A : Option Addr} {n b : Nat} (h : Rd w B A (uns [n, b])) : ∃ g off, A = some ⟨g, off, none⟩ ∧ g < B ∧
    w.cell? ⟨g, off, none⟩ = some (.int .u64 n) ∧ w.cell? ⟨g, off + 1, none⟩ = some (.int .u64 b) := by
  obtain ⟨g, off, e, hl, hc⟩ := h (by simp [uns])
  exact ⟨g, off, e, hl, hc 0 _ rfl, hc 1 _ rfl⟩
theorem build_parts (s : Sec) (w : World) : (Instr.build 27 #[(0, .int .u64 (txgN s : Int)), (1, .int .u64 (stmN s : Int)), (2, ptv (rdA (tabL s)) (rdB (tabL s)) (rdS (tabL s))), (3, .int .i64 (lenN s : Int)), (4, .int .i64 (secN s : Int))]).run Try.prog w = .ok (.agg (partsU s).cs.toArray) w := by
  have h := buildU (partsU s) w
  have e1 : (((partsU s).birth : Nat) : Int) = rdB (tabL s) := Int.toNat_of_nonneg (rdB_lt _).1
  have e2 : (((partsU s).sum : Nat) : Int) = rdS (tabL s) := Int.toNat_of_nonneg (rdS_lt _).1
  rw [e1, e2] at h
  exact h
theorem ex_build5 {o : Oper} {a : Act} {w : World} {T : TypeId} (x0 x1 x2 x3 x4 : Operand) (ho : o.op = .build T #[(0, x0), (1, x1), (2, x2), (3, x3), (4, x4)]) (v0 v1 v2 v3 v4 r : Value) (h0 : a.eval x0 = v0) (h1 : a.eval x1 = v1) (h2 : a.eval x2 = v2) (h3 : a.eval x3 = v3) (h4 : a.eval x4 = v4)
    (hb : (Instr.build T #[(0, v0), (1, v1), (2, v2), (3, v3), (4, v4)]).run Try.prog w = .ok r w) : (execOp a.eval o).run Try.prog w = .ok (.value r) w := by
  unfold execOp
  subst h0 h1 h2 h3 h4
  simp only [ho, List.map_toArray, List.map_cons, List.map_nil, hb, Sem.run_bind, Sem.run_pure, Result.andThen_ok]
theorem still_val {P : Program} {ops : Array Oper} {rest : List Oper} {o : Oper} {a : Act} {w : World} {Q : Act → Prop} (hgd : o.guard = none) (v : Value) (hrun : (execOp a.eval o).run P w = .ok (.value v) w)
    (h : wpStill P ops w Q rest (a.put o.dst v)) : wpStill P ops w Q (o :: rest) a := by
  refine wpStill_step fun K hK => ?_
  have hw : Region.wanted o (yielded ops a.tmps) = true := by simp [Region.wanted, hgd]
  rw [if_pos hw]
  unfold Oper.still
  rw [hrun]
  exact ⟨rfl, hK _ h⟩
set_option maxHeartbeats 2000000 in
theorem parts_any (s : Sec) (w : World) : Calls Try.prog 42 #[.agg s.cs.toArray] w fun e w' => e = .returned (.agg (partsU s).cs.toArray) ∧ Below w.heap.size w w' := by
  have hz : ∀ w, Sem.run Try.prog (zeroValue 27) w = .ok (.agg zub.cs.toArray) w := zeroUb
  have HG1 := Lib.hid (get_ok (stamps_get s) (k := 2) rfl (n := 2) rfl (m := 16) (by simp [s.h]) (by simp))
  have HG2 := Lib.hid (get_ok (sizes_get s) (k := 2) rfl (n := 2) rfl (m := 8) (by simp [s.h]) (by simp))
  have HQ := Lib.hid (fun A c hc w => pread_any A c (tabL s) hc w)
  rw [tab_len] at HQ
  have HW1 := Lib.hid stw_any
  have HW2 := Lib.hid szw_any
  have HB1 := Lib.hid (baseS_new w s)
  go_enter Try.func42, Try.ntmps42
  go_wp2_with fail
  generalize (w.alloc (.cells s.cs.toArray 34)).alloc (.cells zub.cs.toArray 27) = w1 at *
  have HR1 := Lib.hid (fun (W : World) (hW : Below w1.heap.size w1 W) => Sec.rd (HB1.out.next hW).sec 4 16)
  go_region_held3 (fun _ => True)
    (first | trivial | go_keep)
    (first
      | (go_at_call 35; refine (HW1.out _).mono ?_; rintro e w2 ⟨rfl, rfl⟩)
      | (go_at_call 66; refine (HG1.out _ _ _ _ (by omega) _ (by first | exact rd_new _ _ _ | exact rd_newd _ _ _) (HR1.out _ (by first | exact (Below.refl _ _).alloc (Nat.le_refl _) _ | exact ((Below.refl _ _).alloc (Nat.le_refl _) _).drew))).mono ?_; rintro e w3 ⟨A3, k3, rfl, hA3, hb3⟩))
  all_goals
    have hb13 : Below w1.heap.size w1 w3 := Below.trans (by first | exact (Below.refl _ _).alloc (Nat.le_refl _) _ | exact ((Below.refl _ _).alloc (Nat.le_refl _) _).drew) (hb3.mono (by simp))
    have HB3 := Lib.hid (HB1.out.next hb13)
    have HA3 := Lib.hid hA3
    clear HB1 HR1 HG1 HW1 hb13 hb3 hA3
    go_wp2_with (go_at_call 67; refine (HQ.out _ _ (by omega) _ (Sec.rd HB3.out.sec 20 16)).mono ?_; rintro e w4 ⟨rfl, hb4⟩)
    have HP5 := Lib.hid (Blk.new w4 25 (pcs (rdA (tabL s)) (rdB (tabL s)) (rdS (tabL s))))
    have hb35 : Below w3.heap.size w3 (w4.alloc (pto (rdA (tabL s)) (rdB (tabL s)) (rdS (tabL s)))) := hb4.alloc hb4.size _
    have HB5 := Lib.hid (HB3.out.next hb35)
    have HA5 := Lib.hid ((HA3.out.below hb35).mono hb35.size)
    have hsz : w4.heap.size < (w4.alloc (pto (rdA (tabL s)) (rdB (tabL s)) (rdS (tabL s)))).heap.size := by simp
    have HSZ := Lib.hid hsz
    clear HB3 HA3 HQ hb35 hb4 hsz
    generalize w4.heap.size = g5 at *
    generalize w4.alloc (pto (rdA (tabL s)) (rdB (tabL s)) (rdS (tabL s))) = w5 at *
    have HR5 := Lib.hid (fun (W : World) (hW : Below w5.heap.size w5 W) => Sec.rd (HB5.out.next hW).sec 36 8)
    go_wp2_with fail
    go_region_held3 (fun _ => True)
      (first | trivial | go_keep)
      (first
        | (go_at_call 37; refine (HW2.out _).mono ?_; rintro e w2 ⟨rfl, rfl⟩)
        | (go_at_call 66; refine (HG2.out _ _ _ _ (by omega) _ (by first | exact rd_new _ _ _ | exact rd_newd _ _ _) (HR5.out _ (by first | exact (Below.refl _ _).alloc (Nat.le_refl _) _ | exact ((Below.refl _ _).alloc (Nat.le_refl _) _).drew))).mono ?_; rintro e w6 ⟨A6, k6, rfl, hA6, hb6⟩))
    all_goals
      have hb56 : Below w5.heap.size w5 w6 := Below.trans (by first | exact (Below.refl _ _).alloc (Nat.le_refl _) _ | exact ((Below.refl _ _).alloc (Nat.le_refl _) _).drew) (hb6.mono (by simp))
      have HB6 := Lib.hid (HB5.out.next hb56)
      have HA6 := Lib.hid hA6
      have HA3 := Lib.hid ((HA5.out.below hb56).mono hb56.size)
      have HP6 := Lib.hid (HP5.out.below hb56 HSZ.out)
      clear HB5 HR5 HG2 HW2 hb56 hb6 hA6 HA5 HP5
      go_wp2_with fail
      refine wp_region_still_tail 16 (by kernel_rfl) (by kernel_rfl) ?_
      simp only [List.take_succ_cons, List.take_zero, List.drop_succ_cons, List.drop_zero]
      change wpStill _ _ w6.drew _ _ _
      have HB7 := Lib.hid (HB6.out.next (Below.refl w6.heap.size w6).drew)
      have HA7 := Lib.hid (HA6.out.below (Below.refl w6.heap.size w6).drew)
      have HC7 := Lib.hid (HA3.out.below (Below.refl w6.heap.size w6).drew)
      have HP7 : Hid (Blk w6.drew g5 25 (pcs (rdA (tabL s)) (rdB (tabL s)) (rdS (tabL s)))) := HP6.out
      clear HB6 HA6 HA3 HP6
      change wpStill _ _ _ (fun a' => wpList _ _ _ _ a' w6.drew) _ _
      generalize w6.drew = w7 at *
      obtain ⟨g3, o3, rfl, _, a0, a1⟩ := un2_at HC7.out
      obtain ⟨g6, o6, rfl, _, b0, b1⟩ := un2_at HA7.out
      have p0 := HP7.out.cell 0
      have p1 := HP7.out.cell 1
      have p2 := HP7.out.cell 2
      have hbu := build_parts s
      have hw1 : IntKind.i64.wrap (lenN s : Int) = (lenN s : Int) := by have := num4_lt (s.l.drop 36); rw [IntKind.wrap_i64]; unfold lenN; omega
      have hw2 : IntKind.i64.wrap (secN s : Int) = (secN s : Int) := by have := num4_lt (s.l.drop 40); rw [IntKind.wrap_i64]; unfold secN; omega
      clear HC7 HA7 HP7
      generalize txgN s = n1 at *
      generalize stmN s = n2 at *
      generalize lenN s = n3 at *
      generalize secN s = n4 at *
      generalize rdA (tabL s) = q1 at *
      generalize rdB (tabL s) = q2 at *
      generalize rdS (tabL s) = q3 at *
      iterate 15 still_step
      refine still_val rfl (.agg (partsU s).cs.toArray) (ex_build5 (.tmp 28) (.tmp 31) (.tmp 32) (.tmp 36) (.tmp 40) rfl (.int .u64 (n1 : Int)) (.int .u64 (n2 : Int)) (ptv q1 q2 q3) (.int .i64 (n3 : Int)) (.int .i64 (n4 : Int)) _ rfl rfl rfl rfl rfl (hbu _)) ?_
      refine wpStill_nil ?_
      refine st_ub rfl (.tmp 2) (.tmp 41) rfl (w.heap.size + 1) 0 (partsU s) rfl rfl HB7.out.ub.ubHas ?_
      intro w8 hw8
      clear hbu a0 a1 b0 b1 p0 p1 p2 hz HSZ
      simp [Act.put]
      go_wp2_with fail
      have hb2 : Blk w8 (w.heap.size + 1) 27 (partsU s).cs.toArray := by rw [hw8.out]; exact HB7.out.ub.ubAll _
      exact bodyPost_ret (results_cell_row rfl _ _ _ _ _ _ _ rfl hb2 Try.underlying27 rfl (sizeUb'' (partsU s))) rfl ⟨rfl, by rw [hw8.out]; exact Below.setCells _ (by omega) _ _ HB7.out.below⟩
end Go.Proofs.Ytegcknloemgndaa
