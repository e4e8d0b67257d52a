/- The texts O10 O11 O12 O13 O14 O15. -/
import Derived.Test.YtdcegkeaopjbnaaOA
import Derived.Test.YtdcegkeaopjbnaaNA
import Derived.Test.YtdcegkeaopjbnaaGA
import Derived.Test.YtdcegkeaopjbnaaBA
import Derived.Deep.Cut
set_option maxRecDepth 10000
namespace Go.Proofs.Ytdcegkeaopjbnaa

section
open Go.RowKit

/-- A pile's cells. -/
def pileCs (dg gm st ba : Nat) : Array Value := #[.pointer (some ⟨dg, 0, none⟩), .pointer (some ⟨gm, 0, none⟩), .int .u64 (st : Int), .int .u64 (ba : Int)]
/-- The block g is a pile over the device D and the map gm. -/
structure PAt (w : World) (B : Nat) (g : Nat) (D : Dev) (pv : Value) (gm : Nat) (s : St) (P : Pw) : Prop where
  pb : Blk w g 62 (pileCs D.g gm P.st P.ba)
  dev : At w B P.nw.length D pv s
  map : MapAt w (fun k => k = gm) gm P.m
  nw : s.nw = P.nw
  left : s.left = -1
  dead : s.dead = false
  pend : s.pend.length ≤ P.N
  bg : B ≤ g ∧ B ≤ gm
  tot : P.m.tot ≤ P.nw.length
  st : P.st < 18446744073709551616
  ba : P.ba < 18446744073709551616
def pown (D : Dev) (pv : Value) (g gm k : Nat) : Prop := k = g ∨ k = gm ∨ D.own pv k
structure PileAt (w : World) (O : Nat → Prop) (g : Nat) (P : Pw) : Prop where
  ex : ∃ B D pv gm s, PAt w B g D pv gm s P ∧ ∀ k, O k ↔ pown D pv g gm k
section
variable {w w' : World} {O O2 : Nat → Prop} {B g gm : Nat} {D : Dev} {pv pv' : Value} {s s' : St} {P : Pw}
theorem PAt.ne_gm (h : PAt w B g D pv gm s P) : g ≠ gm := blk_ne h.pb h.map.blk (by decide)
theorem PAt.g_dev (h : PAt w B g D pv gm s P) : ¬ D.own pv g := h.dev.far h.pb (by decide) (by decide) (fun e => absurd e (by decide))
theorem PAt.gm_dev (h : PAt w B g D pv gm s P) : ¬ D.own pv gm := h.dev.far h.map.blk (by decide) (by decide) (fun e => absurd e (by decide))
theorem PAt.lt (h : PAt w B g D pv gm s P) (k : Nat) (hk : pown D pv g gm k) : k < w.heap.size := by
  rcases hk with rfl | rfl | hk
  · exact h.pb.lt
  · exact h.map.blk.lt
  · exact h.dev.lt k hk
theorem PAt.stay (h : PAt w B g D pv gm s P) (c : Chg w w' O2) (hO : ∀ k, pown D pv g gm k → ¬ O2 k) : PAt w' B g D pv gm s P :=
  { h with
    pb := h.pb.chg c (hO g (.inl rfl))
    dev := h.dev.chg c fun k hk => hO k (.inr (.inr hk))
    map := h.map.stay c fun k hk => hO k (.inr (.inl hk)) }
theorem PAt.far (h : PAt w B g D pv gm s P) (hb : Below w.heap.size w w') : PAt w' B g D pv gm s P := h.stay (Chg.of_below (O := fun _ => False) hb) fun _ _ => id
/-- The map turns. -/
theorem PAt.onMap {m' : Mp} (h : PAt w B g D pv gm s P) (k : MapAt w' (fun k => k = gm) gm m') (c : Step w w' (fun k => k = gm) (fun k => k = gm)) (ht : m'.tot = P.m.tot) : PAt w' B g D pv gm s { P with m := m' } :=
  { h with
    pb := h.pb.chg c.chg h.ne_gm
    dev := h.dev.chg c.chg fun k hk e => h.gm_dev (e ▸ hk)
    map := k
    tot := by show m'.tot ≤ _; rw [ht]; exact h.tot }
/-- The device turns. -/
theorem PAt.onDev {nw' : List Sec} {N' : Nat} (h : PAt w B g D pv gm s P) (k : At w' B P.nw.length D pv' s') (c : Goes D w pv w' pv') (hl : nw'.length = P.nw.length) (h1 : s'.nw = nw') (h2 : s'.left = -1) (h3 : s'.dead = false) (h4 : s'.pend.length ≤ N') :
    PAt w' B g D pv' gm s' ⟨nw', P.m, P.st, P.ba, N'⟩ where
  pb := h.pb.chg c.chg h.g_dev
  dev := by show At w' B nw'.length D pv' s'; rw [hl]; exact k
  map := h.map.stay c.chg fun k hk e => by subst hk; exact h.gm_dev e
  nw := h1
  left := h2
  dead := h3
  pend := h4
  bg := h.bg
  tot := by show P.m.tot ≤ nw'.length; rw [hl]; exact h.tot
  st := h.st
  ba := h.ba
/-- What a call on a pile turns. -/
theorem pstep_map (hO : ∀ k, O k ↔ pown D pv g gm k) (c : Step w w' (fun k => k = gm) (fun k => k = gm)) : Step w w' O O :=
  ⟨c.chg.mono fun k _ hk => (hO k).2 (.inr (.inl hk)), fun _ hk => .inl hk⟩
theorem pstep_dev (hO : ∀ k, O k ↔ pown D pv g gm k) (c : Goes D w pv w' pv') : Step w w' O (pown D pv' g gm) :=
  ⟨c.chg.mono fun k _ hk => (hO k).2 (.inr (.inr hk)), fun k hk => by
    rcases hk with hk | hk | hk
    · exact .inl ((hO k).2 (.inl hk))
    · exact .inl ((hO k).2 (.inr (.inl hk)))
    · by_cases hs : k < w.heap.size
      · by_cases hd : D.own pv k
        · exact .inl ((hO k).2 (.inr (.inr hd)))
        · exact absurd hk (c.own hs hd)
      · exact .inr (by omega)⟩
theorem Step.trans {w'' : World} {O' O'' : Nat → Prop} (h : Step w w' O O') (k : Step w' w'' O' O'') : Step w w'' O O'' :=
  ⟨h.chg.trans k.chg fun j hj ho => (h.new j ho).elim id fun hs => by omega, fun j hj => (k.new j hj).elim (h.new j) fun hs => .inr (Nat.le_trans h.chg.size hs)⟩
theorem step_below (hb : Below w.heap.size w w') : Step w w' O O := ⟨Chg.of_below hb, fun _ hk => .inl hk⟩
end
end
section
open Go.RowKit

section
variable {w : World} {O : Nat → Prop} {B g gm : Nat} {D : Dev} {pv : Value} {s : St} {P : Pw}
/-- The pile's own block turns. -/
theorem PAt.onPb {w' : World} {st ba : Nat} (h : PAt w B g D pv gm s P) (c : Chg w w' (fun k => k = g)) (hb : Blk w' g 62 (pileCs D.g gm st ba)) (h1 : st < 18446744073709551616) (h2 : ba < 18446744073709551616) : PAt w' B g D pv gm s ⟨P.nw, P.m, st, ba, P.N⟩ :=
  { h with
    pb := hb
    dev := h.dev.chg c fun k hk e => h.g_dev (e ▸ hk)
    map := h.map.stay c fun k hk e => by subst hk; exact h.ne_gm e.symm
    st := h1
    ba := h2 }
theorem pileNew_any (dg gm st ba : Nat) (w : World) : Calls Try.prog 22 #[.pointer (some ⟨dg, 0, none⟩), .pointer (some ⟨gm, 0, none⟩), .int .u64 (st : Int), .int .u64 (ba : Int)] w
    fun e w' => ∃ g, e = .returned (.pointer (some ⟨g, 0, none⟩)) ∧ w.heap.size ≤ g ∧ Blk w' g 62 (pileCs dg gm st ba) ∧ Below w.heap.size w w' := by
  go_enter Try.func22, Try.ntmps22
  go_wp2_with fail
  go_ret
  exact ⟨w.heap.size, rfl, Nat.le_refl _, Blk.new w _ _, (Below.refl _ _).alloc (Nat.le_refl _) _⟩
theorem dev0_any (h : PAt w B g D pv gm s P) : Calls Try.prog 16 #[.pointer (some ⟨g, 0, none⟩)] w fun e w' => e = .returned (.pointer (some ⟨D.g, 0, none⟩)) ∧ Below w.heap.size w w' := by
  have hc : w.cell? ⟨g, 0, none⟩ = some (.pointer (some ⟨D.g, 0, none⟩)) := h.pb.cell 0
  go_enter Try.func16, Try.ntmps16
  go_wp2_with fail
  go_ret
  exact ⟨rfl, Below.refl _ _⟩
theorem map0_any (h : PAt w B g D pv gm s P) : Calls Try.prog 13 #[.pointer (some ⟨g, 0, none⟩)] w fun e w' => e = .returned (.pointer (some ⟨gm, 0, none⟩)) ∧ Below w.heap.size w w' := by
  have hc : w.cell? ⟨g, 1, none⟩ = some (.pointer (some ⟨gm, 0, none⟩)) := h.pb.cell 1
  go_enter Try.func13, Try.ntmps13
  go_wp2_with fail
  go_ret
  exact ⟨rfl, Below.refl _ _⟩
theorem phole_any (a b s : Int) (w : World) :
    Calls Try.prog 34 #[ptv a b s] w fun e w' => e = .returned (.bool (holeF a b s)) ∧ Below w.heap.size w w' := by
  have hq := fun w => run_eqP a b s 0 0 0 w
  go_enter Try.func34, Try.ntmps34
  go_wp2_with fail
  go_ret
  exact ⟨ret_bool rfl, (Below.refl _ _).alloc (by omega) _⟩
end
end
section
open Go.RowKit

theorem holeF_iff {a b s : Int} : holeF a b s = true ↔ ((a, b, s) : PtrV) = hole0 := by
  unfold holeF hole0
  simp [and_assoc]
theorem turnM_tot (m : Mp) (i : Int) (x y : Nat) : (turnM m i x y).tot = m.tot := by
  unfold turnM
  cases h : m.turn i x y with
  | none => rfl
  | some m' =>
    unfold Mp.turn at h
    split at h
    · cases h
      rfl
    · cases h
section
end
end
section
open Go.RowKit

theorem taken_mem {m : Mp} (ht : m.tot ≤ 1024) (i : Int) : memF (canon (stS m 1)) i = stS m 1 i := by
  rw [canon_mem]
  rcases h : stS m 1 i with _ | _
  · rw [Bool.and_false]
  · have h2 := stS_iff.1 h
    rw [Mp.is_iff] at h2
    rw [Bool.and_true, decide_eq_true_iff]
    omega
theorem spl_block {l : List UInt8} (h : l.length ≤ 128) : spl zsec.l 0 l = (blockS l).l := by
  unfold spl blockS zsec
  simp only [Nat.zero_add, List.drop_replicate, List.take_append, List.take_replicate]
  rw [List.take_of_length_le h, show min (128 - l.length) 128 = 128 - l.length by omega]
  simp
theorem block_nil : blockS [] = zsec := by kernel_rfl
/-- copy of a text into a sector of zeros. -/
theorem cp_block {ops : Array Oper} {rest : List Oper} {o : Oper} {a : Act} {w : World} {Q : Exit → Act → World → Prop} (hgd : o.guard = none) (x y : Operand)
    (ho : o.op = .call { callee := .builtin .copy, args := #[x, y], argTypes := #[34, 34] }) (g c c' B n : Nat) (A : Option Addr) (t : TypeId) (l : List UInt8)
    (hx : a.eval x = .slice (some ⟨g, 0, none⟩) 128 c) (hy : a.eval y = .slice A n c') (hB : Blk w g t zsec.cs.toArray) (hr : Rd w B A (bys l)) (hn : l.length = n) (hl : n ≤ 128)
    (h : ∀ w', Hid (Blk w' g t (blockS l).cs.toArray ∧ Chg w w' (· = g)) → wpList Try.prog ops Q rest (a.put o.dst (goInt n)) w') : wpList Try.prog ops Q (o :: rest) a w := by
  rcases Nat.eq_zero_or_pos n with h0 | h0
  · subst h0
    obtain rfl : l = [] := List.length_eq_zero_iff.1 hn
    have hrun := run_copy_none (P := Try.prog) w 34 34 o.type 5 (some ⟨g, 0, none⟩) A 128 c 0 c' Try.underlying34 infoB1 rfl
    refine wpList_plain hgd fun _ hK => ?_
    unfold Oper.wp execOp
    simp only [ho, resolve, invoke, builtin, Sem.run_bind, Sem.run_pure, Result.andThen_ok, List.map_toArray, List.map_cons, List.map_nil, hx, hy, hrun]
    exact hK _ _ (h _ ⟨by rw [block_nil]; exact hB, Chg.refl _ _⟩)
  · exact cp_bys hgd x y ho g 0 128 c n c' B A t zsec.l l (blockS l).l (spl_block (by omega)) hx hy hB hr hn h0 hl (by rw [zsec.h]; omega) h
section
variable {w : World} {O : Nat → Prop} {B g gm : Nat} {D : Dev} {pv : Value} {s : St} {P : Pw}
theorem write_good (n : Nat) (s : St) (i : Int) (x : Sec) (hl : s.left = -1) (hd : s.dead = false) (hh : hasF n i = true) :
    (s.write n i x).2 = 0 ∧ (s.write n i x).1.nw = s.nw.set i.toNat x ∧ (s.write n i x).1.left = -1 ∧ (s.write n i x).1.dead = false ∧ (s.write n i x).1.pend.length = s.pend.length + 1 := by
  have hr : s.count.refuse = s.count := by
    unfold St.refuse
    rw [if_neg (by show ¬ s.left = 0; omega), if_neg (by show ¬ 0 < s.left; omega)]
  have hd' : ¬ s.count.dead = true := by show ¬ s.dead = true; rw [hd]; decide
  unfold St.write
  rw [if_pos hh, hr, if_neg hd']
  exact ⟨rfl, rfl, hl, hd, by simp⟩
set_option maxHeartbeats 1000000 in
theorem putAt_any (h : PAt w B g D pv gm s P) (hO : ∀ k, O k ↔ pown D pv g gm k) (i : Int) (hi : I64 i) (A : Option Addr) (c : Nat) (l : List UInt8) (hr : RdA w O A (bys l)) (hl : l.length ≤ 140737488355328) (hN : P.N ≤ 1000000) :
    Calls Try.prog 37 #[.pointer (some ⟨g, 0, none⟩), .int .i64 i, .slice A l.length c] w
    fun e w' => ∃ pv' s', e = .returned (.tuple #[ptq (putAtQ P i l), .int .i64 (putAtC P i l)]) ∧ PAt w' B g D pv' gm s' (putAtP P i l) ∧ Step w w' O (pown D pv' g gm) := by
  have hb1 : Below w.heap.size w (w.alloc (.cells (pcs 0 0 0) 25)) := (Below.refl _ _).alloc (Nat.le_refl _) _
  have hbl := Blk.new w 25 (pcs 0 0 0)
  have hlt := h.pb.lt
  have hgm := h.map.blk.lt
  have hc1 : w.cell? ⟨g, 1, none⟩ = some (.pointer (some ⟨gm, 0, none⟩)) := h.pb.cell 1
  have HP := Lib.hid h
  have hsO : ∀ {w'}, Below w.heap.size w w' → Step w w' O (pown D pv g gm) := fun b => ⟨Chg.of_below b, fun k hk => .inl ((hO k).2 hk)⟩
  by_cases h128 : 128 < l.length
  · have hC : putAtC P i l = 92 := if_pos h128
    have hQ := putAt_no (P := P) (i := i) (l := l) (by rw [hC]; decide)
    rw [hQ.1, hQ.2, hC]
    have h128i : (128 : Int) < l.length := by omega
    have HH := Lib.hid (And.intro hbl hb1)
    clear hbl hb1 hQ hC hr h hc1
    go_enter Try.func37, Try.ntmps37
    go_wp2_with (refine st_ptr rfl (.tmp 6) (.tmp 14) rfl w.heap.size 25 _ 0 0 0 rfl rfl HH.out.1 rfl ?_; intro w4 hB4 hk4)
    have hb4 := hk4 _ _ HH.out.2 (Nat.le_refl _)
    exact bodyPost_ret (ret_ptr rfl hB4 rfl) rfl ⟨pv, s, rfl, HP.out.far hb4, hsO hb4⟩
  · have h128i : ¬ (128 : Int) < l.length := by omega
    have h1 := h.far hb1
    have HT := Lib.hid (taken_any h1.map)
    have HX : Hid (∀ A c w, Rd w w.heap.size A (spc (canon (stS P.m 1))) → Calls Try.prog 48 #[.slice A (canon (stS P.m 1)).length c, .int .i64 i] w fun e w' => e = .returned (.bool (stS P.m 1 i)) ∧ Below w.heap.size w w') := Lib.hid fun A c w hs => by
      have := has_any A c (canon (stS P.m 1)) i w hs (canon_right _)
      rwa [taken_mem h.map.tot] at this
    obtain ⟨L, hL⟩ : ∃ L, L = canon (stS P.m 1) := ⟨_, rfl⟩
    rw [← hL] at HT HX
    clear hL
    rcases hx : stS P.m 1 i with _ | _
    · have hC : putAtC P i l = 72 := by
        unfold putAtC
        rw [if_neg h128, if_neg]
        rw [← stS_iff, hx]
        decide
      have hQ := putAt_no (P := P) (i := i) (l := l) (by rw [hC]; decide)
      rw [hQ.1, hQ.2, hC]
      rw [hx] at HX
      have HH := Lib.hid (And.intro hbl hb1)
      clear hbl hb1 hQ hC hr h hx h1
      go_enter Try.func37, Try.ntmps37
      go_wp2_with fail
      refine Calls.mono HT.out ?_
      rintro e w2 ⟨A2, c2, rfl, hr2, hb2⟩
      have HX2 := Lib.hid (HX.out A2 c2 w2 hr2.rd)
      have hs1 : w.heap.size < (w.alloc (.cells (pcs 0 0 0) 25)).heap.size := by simp
      have HZ := Lib.hid (And.intro (HH.out.1.below hb2 hs1) (HH.out.2.trans (hb2.mono (Nat.le_of_lt hs1))))
      clear hr2 HX HT HH
      go_wp2_with fail
      refine Calls.mono HX2.out ?_
      rintro e w3 ⟨rfl, hb3⟩
      have HZ3 := Lib.hid (And.intro (HZ.out.1.below hb3 HZ.out.1.lt) (HZ.out.2.trans (hb3.mono HZ.out.2.size)))
      clear hb3 HZ HX2 hb2 hs1
      go_wp2_with (refine st_ptr rfl (.tmp 6) (.tmp 24) rfl w.heap.size 25 _ 0 0 0 rfl rfl HZ3.out.1 rfl ?_; intro w4 hB4 hk4)
      have hb4 := hk4 _ _ HZ3.out.2 (Nat.le_refl _)
      exact bodyPost_ret (ret_ptr rfl hB4 rfl) rfl ⟨pv, s, rfl, HP.out.far hb4, hsO hb4⟩
    · obtain ⟨hi0, him⟩ := stS_iff.1 hx
      obtain ⟨k, rfl⟩ := Int.eq_ofNat_of_zero_le hi0
      rw [Int.toNat_natCast] at him
      obtain ⟨hC, hQ, hP⟩ := putAt_yes (P := P) (i := k) (l := l) h128 him
      obtain ⟨sm, hsm⟩ : ∃ sm, sm = sumS (blockS l) := ⟨_, rfl⟩
      rw [hC, hQ, hP, ← hsm]
      have HSM := Lib.hid hsm
      clear hsm
      rw [hx] at HX
      have hkn : k < P.nw.length := by
        rw [Mp.is_iff] at him
        exact Nat.lt_of_lt_of_le him.2.1 h.tot
      have hhas : hasF P.nw.length (k : Int) = true := by unfold hasF; rw [decide_eq_true_iff]; omega
      have HW := Lib.hid (write_good P.nw.length s (k : Int) (blockS l) h.left h.dead hhas)
      have HH := Lib.hid (And.intro hbl hb1)
      have HR := Lib.hid hr.rd
      clear hbl hb1 hQ hC hP hr h hx h1 him hhas hi hi0
      go_enter Try.func37, Try.ntmps37
      go_wp2_with fail
      refine Calls.mono HT.out ?_
      rintro e w2 ⟨A2, c2, rfl, hr2, hb2⟩
      have HX2 := Lib.hid (HX.out A2 c2 w2 hr2.rd)
      have hs1 : w.heap.size < (w.alloc (.cells (pcs 0 0 0) 25)).heap.size := by simp
      have HZ := Lib.hid (And.intro (HH.out.1.below hb2 hs1) (HH.out.2.trans (hb2.mono (Nat.le_of_lt hs1))))
      clear hr2 HX HT HH
      go_wp2_with fail
      refine Calls.mono HX2.out ?_
      rintro e w3 ⟨rfl, hb3⟩
      have HZ3 := Lib.hid (And.intro (HZ.out.1.below hb3 HZ.out.1.lt) (HZ.out.2.trans (hb3.mono HZ.out.2.size)))
      clear hb3 HZ HX2 hb2 hs1
      have HS := Lib.hid (Blk.new w3 46 zsec.cs.toArray)
      have HB4 := Lib.hid (HZ3.out.2.alloc HZ3.out.2.size (.cells zsec.cs.toArray 46))
      have HZ4 := Lib.hid (HZ3.out.1.below ((Below.refl w3.heap.size w3).alloc (Nat.le_refl _) (.cells zsec.cs.toArray 46)) HZ3.out.1.lt)
      have hl128 : l.length ≤ 128 := by omega
      have hz : ∀ w, Sem.run Try.prog (zeroValue 46) w = .ok (.agg zsec.cs.toArray) w := zeroSec
      go_wp2_with (refine cp_block rfl (.tmp 25) (.tmp 26) rfl w3.heap.size 128 c w.heap.size l.length A 46 l rfl rfl HS.out (HR.out.below HB4.out) rfl hl128 ?_; intro w5 hw5)
      have HG5 : Hid (Blk w5 w3.heap.size 46 (blockS l).cs.toArray) := Lib.hid hw5.out.1
      have hb5 : Below w.heap.size w w5 := HB4.out.trans (hw5.out.2.below (fun k hk => by rw [hk]; exact HZ3.out.2.size) HB4.out.size)
      have hz5 : Blk w5 w.heap.size 25 (pcs 0 0 0) := HZ4.out.chg hw5.out.2 (by have := HZ3.out.1.lt; omega)
      have hd5 := (Below.refl w5.heap.size w5).drew
      have HB6 := Lib.hid (hb5.drew)
      have HZ6 := Lib.hid (hz5.below hd5 hz5.lt)
      have HG6 := Lib.hid (HG5.out.below hd5 HG5.out.lt)
      have HP6 := Lib.hid (HP.out.far HB6.out)
      have HLz : Hid (w.heap.size < w3.heap.size) := Lib.hid HZ3.out.1.lt
      have HW6 := Lib.hid (write_any HP6.out.dev (k : Int) (blockS l) (Nat.le_trans HP.out.pend hN))
      have hc6 : w5.drew.cell? ⟨g, 0, none⟩ = some (.pointer (some ⟨D.g, 0, none⟩)) := HP6.out.pb.cell 0
      have HGD : Hid (¬ pown D pv g gm w3.heap.size) := Lib.hid (fun hk => by have := HP.out.lt _ hk; have := HLz.out; omega)
      have HZD : Hid (¬ pown D pv g gm w.heap.size) := Lib.hid (fun hk => by have := HP.out.lt _ hk; omega)
      clear hw5 HG5 hb5 hz5 hd5 HB4 HZ3 HZ4 HS hz hc1
      try simp [Act.put]
      refine wp_region_held_drew (S := (fun w' => w'.cell? ⟨g, 0, none⟩ = some (.pointer (some ⟨D.g, 0, none⟩)) ∧ Blk w' w3.heap.size 46 (blockS l).cs.toArray)) (by kernel_rfl) ⟨hc6, HG6.out⟩ (fun hHeld => ?_)
      generalize w3.heap.size = gz at *
      generalize w5.drew = w6 at *
      refine wpAnyH_take (i := 0) (v := (.pointer (some ⟨g, 0, none⟩))) rfl (by kernel_rfl) (by kernel_rfl) (by kernel_rfl) (fun _ _ _ h => h) (Or.inl ⟨by rfl, ?_⟩) (by assumption) ?_
      · intro w' hS; go_simp; try with_reducible rfl
      try simp [Act.put]
      refine wpAnyH_take (i := 1) (v := (.pointer (some ⟨g, 0, none⟩))) rfl (by kernel_rfl) (by kernel_rfl) (by kernel_rfl) (fun _ _ _ h => h) (Or.inl ⟨by rfl, ?_⟩) (by assumption) ?_
      · intro w' hS; go_simp; try with_reducible rfl
      try simp [Act.put]
      refine wpAnyH_take (i := 2) (v := (.pointer (some ⟨g, 0, none⟩))) rfl (by kernel_rfl) (by kernel_rfl) (by kernel_rfl) (fun _ _ _ h => h) (Or.inl ⟨by rfl, ?_⟩) (by assumption) ?_
      · intro w' hS; go_simp; try with_reducible rfl
      try simp [Act.put]
      refine wpAnyH_take (i := 3) (v := (.pointer (some ⟨D.g, 0, none⟩))) rfl (by kernel_rfl) (by kernel_rfl) (by kernel_rfl) (fun _ _ _ h => h) (Or.inl ⟨by rfl, ?_⟩) (by assumption) ?_
      · intro w' hS
        have hcc := hS.1
        go_simp; try with_reducible rfl
      try simp [Act.put]
      refine wpAnyH_take (i := 4) (v := (.int .i64 (k : Int))) rfl (by kernel_rfl) (by kernel_rfl) (by kernel_rfl) (fun _ _ _ h => h) (Or.inl ⟨by rfl, ?_⟩) (by assumption) ?_
      · intro w' hS; go_simp; try with_reducible rfl
      try simp [Act.put]
      refine wpAnyH_take (i := 5) (v := (.agg (blockS l).cs.toArray)) rfl (by kernel_rfl) (by kernel_rfl) (by kernel_rfl) (fun _ _ _ h => h) (Or.inl ⟨by rfl, ?_⟩) (by assumption) ?_
      · intro w' hS
        exact ex_ldS (.tmp 8) rfl gz (blockS l) rfl hS.2
      try simp [Act.put]
      refine wpAnyH_ready (rs := [6]) (by kernel_rfl) (by simp) ?_
      refine AllReadyH.cons rfl (fun K hK => ?_) AllReadyH.nil
      go_simp
      refine Calls.mono (HW6.out) ?_
      rintro e wX ⟨pv7, rfl, hA7, hG7⟩
      refine hK.out _ _ (by
          exact ⟨(HP6.out.pb.chg hG7.chg HP6.out.g_dev).cell 0, HG6.out.chg hG7.chg fun hk => HGD.out (.inr (.inr hk))⟩) (fun hHeld2 => ?_)
      clear hK K
      try simp
      clear hHeld
      have hHeld := hHeld2
      clear hHeld2
      have HG7 := Lib.hid (HG6.out.chg hG7.chg fun hk => HGD.out (.inr (.inr hk)))
      have HZ7 := Lib.hid (HZ6.out.chg hG7.chg fun hk => HZD.out (.inr (.inr hk)))
      have HP7 := Lib.hid (HP6.out.onDev (N' := P.N + 1) hA7 hG7 (List.length_set ..) (by rw [HW.out.2.1, HP6.out.nw, Int.toNat_natCast]) HW.out.2.2.1 HW.out.2.2.2.1 (by rw [HW.out.2.2.2.2]; have := HP6.out.pend; omega))
      have HS7 := Lib.hid ((hsO HB6.out).trans (pstep_dev (g := g) (gm := gm) (fun _ => Iff.rfl) hG7))
      have HZD7 : Hid (¬ pown D pv7 g gm w.heap.size) := Lib.hid (fun hk => by
        rcases hk with hk | hk | hk
        · omega
        · omega
        · exact hG7.own HZ6.out.lt (fun h => HZD.out (.inr (.inr h))) hk)
      clear hA7 hG7 HG6 HZ6 HP6 HB6 HW6 HGD HZD hc6
      rw [HW.out.1] at *
      refine wpAnyH_take (i := 7) (v := (.int .i64 0)) rfl (by kernel_rfl) (by kernel_rfl) (by kernel_rfl) (fun _ _ _ h => h) (Or.inl ⟨by rfl, ?_⟩) (by assumption) ?_
      · intro w' hS; go_simp; try with_reducible rfl
      try simp [Act.put]
      refine wpAnyH_done (by kernel_rfl) ?_ _
      clear hHeld
      go_wp2_with fail
      have hd7 := (Below.refl wX.heap.size wX).drew
      have HG8 := Lib.hid (HG7.out.below hd7 HG7.out.lt)
      have HZ8 := Lib.hid (HZ7.out.below hd7 HZ7.out.lt)
      have HP8 := Lib.hid (HP7.out.far hd7)
      have HS8 := Lib.hid (HS7.out.trans (step_below hd7))
      have hc8 : wX.drew.cell? ⟨g, 2, none⟩ = some (.int .u64 (P.st : Int)) := HP8.out.pb.cell 2
      have HOf : Hid (Calls Try.prog 35 #[.slice (some ⟨gz, 0, none⟩) 128 128] wX.drew fun e w' => e = .returned (.int .u32 (sm : Int)) ∧ w' = wX.drew) := Lib.hid (by
        rw [HSM.out]
        have := sum_of_any (some ⟨gz, 0, none⟩) 128 wX.drew.heap.size (blockS l).l wX.drew (fun hn => ⟨gz, 0, rfl, HG8.out.lt, fun j v hv => by rw [HG8.out.cell, Nat.zero_add, List.getElem?_toArray]; exact hv⟩) (by rw [(blockS l).h]; omega)
        rwa [(blockS l).h] at this)
      clear HG7 HZ7 HP7 HS7 hd7
      refine wp_region_held_drew (S := (fun w' => w'.cell? ⟨g, 2, none⟩ = some (.int .u64 (P.st : Int)))) (by kernel_rfl) hc8 (fun hHeld => ?_)
      generalize wX.drew = w8 at *
      refine wpAnyH_take (i := 0) (v := (.int .i64 (k : Int))) rfl (by kernel_rfl) (by kernel_rfl) (by kernel_rfl) (fun _ _ _ h => h) (Or.inl ⟨by rfl, ?_⟩) (by assumption) ?_
      · intro w' hS; go_simp; try with_reducible rfl
      try simp [Act.put]
      refine wpAnyH_take (i := 1) (v := (.pointer (some ⟨g, 0, none⟩))) rfl (by kernel_rfl) (by kernel_rfl) (by kernel_rfl) (fun _ _ _ h => h) (Or.inl ⟨by rfl, ?_⟩) (by assumption) ?_
      · intro w' hS; go_simp; try with_reducible rfl
      try simp [Act.put]
      refine wpAnyH_take (i := 2) (v := (.pointer (some ⟨g, 0, none⟩))) rfl (by kernel_rfl) (by kernel_rfl) (by kernel_rfl) (fun _ _ _ h => h) (Or.inl ⟨by rfl, ?_⟩) (by assumption) ?_
      · intro w' hS; go_simp; try with_reducible rfl
      try simp [Act.put]
      refine wpAnyH_take (i := 3) (v := (.pointer (some ⟨g, 2, none⟩))) rfl (by kernel_rfl) (by kernel_rfl) (by kernel_rfl) (fun _ _ _ h => h) (Or.inl ⟨by rfl, ?_⟩) (by assumption) ?_
      · intro w' hS; go_simp; try with_reducible rfl
      try simp [Act.put]
      refine wpAnyH_take (i := 4) (v := (.int .u64 (P.st : Int))) rfl (by kernel_rfl) (by kernel_rfl) (by kernel_rfl) (fun _ _ _ h => h) (Or.inl ⟨by rfl, ?_⟩) (by assumption) ?_
      · intro w' hS
        have hcc := hS
        go_simp; try with_reducible rfl
      try simp [Act.put]
      refine wpAnyH_take (i := 5) (v := (.slice (some ⟨gz, 0, none⟩) 128 128)) rfl (by kernel_rfl) (by kernel_rfl) (by kernel_rfl) (fun _ _ _ h => h) (Or.inl ⟨by rfl, ?_⟩) (by assumption) ?_
      · intro w' hS; go_simp; try with_reducible rfl
      try simp [Act.put]
      refine wpAnyH_ready (rs := [6]) (by kernel_rfl) (by simp) ?_
      refine AllReadyH.cons rfl (fun K hK => ?_) AllReadyH.nil
      go_simp
      refine Calls.mono (HOf.out) ?_
      rintro e wX ⟨rfl, rfl⟩
      refine hK.out _ _ (hc8) (fun hHeld2 => ?_)
      clear hK K
      try simp
      clear hHeld
      have hHeld := hHeld2
      clear hHeld2
      refine wpAnyH_take (i := 7) (v := (ptv (k : Int) (P.st : Int) (sm : Int))) rfl (by kernel_rfl) (by kernel_rfl) (by kernel_rfl) (fun _ _ _ h => h) (Or.inl ⟨by rfl, ?_⟩) (by assumption) ?_
      · intro w' hS; go_simp; try with_reducible rfl
      try simp [Act.put]
      refine wpAnyH_ready (rs := [8]) (by kernel_rfl) (by simp) ?_
      refine AllReadyH.cons rfl (fun K hK => ?_) AllReadyH.nil
      refine step_stPt rfl (.tmp 6) (.tmp 46) rfl w.heap.size (k : Int) (P.st : Int) (sm : Int) 0 0 0 rfl rfl HZ8.out ?_
      intro w9 hb9 _ hc9
      have HB9 := Lib.hid hb9
      have hC9 : Chg wX w9 (· = w.heap.size) := hc9 _ rfl
      have HP9 := Lib.hid (HP8.out.stay hC9 fun k hk e => HZD7.out (e ▸ hk))
      have HS9 : Hid (Step w w9 O (pown D pv7 g gm)) := Lib.hid ⟨HS8.out.chg.trans hC9 fun k hk e => by omega, HS8.out.new⟩
      refine hK.out _ _ (HP9.out.pb.cell 2) (fun hHeld2 => ?_)
      clear hK K hb9 hc9 hC9
      try simp
      clear hHeld
      have hHeld := hHeld2
      clear hHeld2
      refine wpAnyH_take (i := 9) (v := (.int .i64 0)) rfl (by kernel_rfl) (by kernel_rfl) (by kernel_rfl) (fun _ _ _ h => h) (Or.inl ⟨by rfl, ?_⟩) (by assumption) ?_
      · intro w' hS; go_simp; try with_reducible rfl
      try simp [Act.put]
      refine wpAnyH_done (by kernel_rfl) ?_ _
      clear hHeld
      go_wp2_with fail
      exact bodyPost_ret (ret_ptr rfl HB9.out rfl) rfl ⟨pv7, _, rfl, HP9.out, HS9.out⟩
end
end
section
open Go.RowKit

section
variable {w : World} {O : Nat → Prop} {B g gm : Nat} {D : Dev} {pv : Value} {s : St} {P : Pw}
end
end
section
open Go.RowKit

/-- The same, a sector's store. -/
theorem step_stSec {ops : Array Oper} {o : Oper} {a : Act} {w : World} {K : Act → World → Prop} {Q : Exit → Act → World → Prop} {E : Prop} (hgd : o.guard = none) (x y : Operand) (ho : o.op = .store 46 x y)
    (b : Nat) (u v : Sec) (hx : a.eval x = .pointer (some ⟨b, 0, none⟩)) (hy : a.eval y = .agg v.cs.toArray) (hb : Blk w b 46 u.cs.toArray)
    (h : ∀ w', Blk w' b 46 v.cs.toArray → Chg w w' (· = b) → K (a.put o.dst undef) w') : if Region.wanted o (yielded ops a.tmps) = true then Oper.wp Try.prog o a w K Q else E := by
  have hw : Region.wanted o (yielded ops a.tmps) = true := by simp [Region.wanted, hgd]
  rw [if_pos hw]
  exact wp_store_mid _ x y ho b 0 v.cs.toArray hx hy (by rw [List.size_toArray, Sec.cs_len]; exact hb.secHas) (sizeSec'' v) (all_one v.one) (h _ (hb.secAll v) (Chg.setCells (O := (· = b)) (.inl rfl) _ _ (Chg.refl _ _)))
theorem st_sec2 {ops : Array Oper} {rest : List Oper} {o : Oper} {a : Act} {w : World} {Q : Exit → Act → World → Prop} (hgd : o.guard = none) (x y : Operand) (ho : o.op = .store 46 x y)
    (b : Nat) (u v : Sec) (hx : a.eval x = .pointer (some ⟨b, 0, none⟩)) (hy : a.eval y = .agg v.cs.toArray) (hb : Blk w b 46 u.cs.toArray)
    (h : ∀ w', Blk w' b 46 v.cs.toArray → Chg w w' (· = b) → wpList Try.prog ops Q rest (a.put o.dst undef) w') : wpList Try.prog ops Q (o :: rest) a w := by
  refine st_sec hgd x y ho b 0 v hx hy hb.secHas fun w' hw => ?_
  rw [hw.out]
  exact h _ (hb.secAll v) (Chg.setCells (O := (· = b)) (.inl rfl) _ _ (Chg.refl _ _))
theorem ret_sec {w : World} {g : Nat} {x : Sec} {fn : Func} {p u : Tmp} {tmps : Array Value} (hf : fn.results = #[.cell p 46, .tmp u]) (hB : Blk w g 46 x.cs.toArray) (hp : tmps.getD p undef = .pointer (some ⟨g, 0, none⟩)) :
    (results fn tmps).run Try.prog w = .ok (.tuple #[.agg x.cs.toArray, tmps.getD u undef]) w :=
  results_row_tmp hf tmps w g _ _ (0, 0) _ hp hB Try.underlying46 rfl (sizeSec'' x)
section
variable {w : World} {O : Nat → Prop} {B g gm : Nat} {D : Dev} {pv : Value} {s : St} {P : Pw}
theorem PAt.count (h : PAt w B g D pv gm s P) {w' : World} (hA : At w' B P.nw.length D pv s.count) (c : Goes D w pv w' pv) : PAt w' B g D pv gm s.count P :=
  h.onDev (nw' := P.nw) (N' := P.N) hA c rfl h.nw h.left h.dead h.pend
/-- What Get answers is what the device reads, and the sum told apart. -/
def gotS (x : Sec) (er : Int) (c : Int) : Sec × Int := if er = 41 then (zsec, 91) else if (sumS x : Int) = c then (x, 0) else (zsec, 91)
theorem get_read (h : PAt w B g D pv gm s P) (a b c : Int) (hne : ((a, b, c) : PtrV) ≠ hole0) : ∃ x er, s.read P.nw.length a = (x, er) ∧ (er = 41 ∨ er = 0) ∧ getS P (a, b, c) = gotS x er c := by
  unfold getS St.read gotS
  rw [if_neg hne]
  by_cases hh : hasF P.nw.length a = true
  · rw [if_pos hh, if_neg (by rw [h.dead]; decide)]
    refine ⟨_, _, rfl, .inr rfl, ?_⟩
    rw [if_pos hh, if_neg (show ¬ (0 : Int) = 41 by decide), h.nw]
  · rw [if_neg hh]
    refine ⟨_, _, rfl, .inl rfl, ?_⟩
    rw [if_neg hh, if_pos rfl]
set_option maxHeartbeats 1000000 in
theorem pget_any (h : PAt w B g D pv gm s P) (hO : ∀ k, O k ↔ pown D pv g gm k) (a b c : Int) :
    Calls Try.prog 19 #[.pointer (some ⟨g, 0, none⟩), ptv a b c] w
    fun e w' => ∃ s', e = .returned (.tuple #[.agg (getS P (a, b, c)).1.cs.toArray, .int .i64 (getS P (a, b, c)).2]) ∧ PAt w' B g D pv gm s' P ∧ Step w w' O O := by
  obtain ⟨W, hW⟩ : ∃ W, W = ((w.alloc (.cells #[.int .i64 a, .int .u64 b, .int .u32 c] 25)).alloc (.cells zsec.cs.toArray 46)) := ⟨_, rfl⟩
  have hb0 : Below w.heap.size w (w.alloc (.cells #[.int .i64 a, .int .u64 b, .int .u32 c] 25)) := (Below.refl _ _).alloc (Nat.le_refl _) _
  have hb1 : Below w.heap.size w W := by rw [hW]; exact hb0.alloc hb0.size _
  have hbq : Blk W w.heap.size 25 (pcs a b c) := by rw [hW]; exact (Blk.new w _ _).below (B := w.heap.size + 1) ((Below.refl _ _).alloc (by simp) _) (by omega)
  have hbs : Blk W (w.heap.size + 1) 46 zsec.cs.toArray := by
    rw [hW]
    have := Blk.new (w.alloc (.cells #[.int .i64 a, .int .u64 b, .int .u32 c] 25)) 46 zsec.cs.toArray
    rwa [show (w.alloc (.cells #[.int .i64 a, .int .u64 b, .int .u32 c] 25)).heap.size = w.heap.size + 1 by simp] at this
  have HP := Lib.hid (h.far hb1)
  have HB1 := Lib.hid hb1
  have HQ1 := Lib.hid hbq
  have HS1 := Lib.hid hbs
  have hlt := h.pb.lt
  have HLT := Lib.hid h.lt
  have hz : ∀ w, Sem.run Try.prog (zeroValue 46) w = .ok (.agg zsec.cs.toArray) w := zeroSec
  have hbd : ∀ w, (Instr.build 46 #[]).run Try.prog w = .ok (.agg zsec.cs.toArray) w := buildZ
  rcases hh : holeF a b c with _ | _
  · have hne : ((a, b, c) : PtrV) ≠ hole0 := fun e => by rw [holeF_iff.2 e] at hh; cases hh
    have HX : Hid (∀ w, Calls Try.prog 34 #[ptv a b c] w fun e w' => e = .returned (.bool false) ∧ Below w.heap.size w w') := Lib.hid (fun w => by rw [← hh]; exact phole_any a b c w)
    obtain ⟨x, er, hx, her, hg⟩ := get_read h a b c hne
    obtain ⟨rx, rc, hrr⟩ : ∃ rx rc, gotS x er c = (rx, rc) := ⟨_, _, rfl⟩
    rw [hg, hrr]
    have HGot := Lib.hid hrr
    clear hrr
    have HRd : Hid (∀ w', PAt w' B g D pv gm s P → Calls Try.prog 17 #[.pointer (some ⟨D.g, 0, none⟩), .int .i64 a] w' fun e w'' => e = .returned (.tuple #[.agg x.cs.toArray, .int .i64 er]) ∧ PAt w'' B g D pv gm s.count P ∧ Goes D w' pv w'' pv) := Lib.hid fun w' k => by
      have := read_any k.dev a
      rw [hx] at this
      exact this.mono fun e w'' ⟨e1, e2, e3⟩ => ⟨e1, k.count e2 e3, e3⟩
    clear hg hx hne hh h hb0 hb1 hbq hbs
    go_enter Try.func19, Try.ntmps19
    go_upto_region 1 with (fail)
    rw [← hW]
    clear hW
    go_wp2_with (refine ld_ptr rfl (.tmp 3) rfl w.heap.size 25 a b c rfl HQ1.out ?_)
    refine Calls.mono (HX.out _) ?_
    rintro e w3 ⟨rfl, hb3⟩
    have HP3 := Lib.hid (HP.out.far hb3)
    have HB3 := Lib.hid (HB1.out.trans (hb3.mono HB1.out.size))
    have HQ3 := Lib.hid (HQ1.out.below hb3 HQ1.out.lt)
    have HS3 := Lib.hid (HS1.out.below hb3 HS1.out.lt)
    clear hb3 HP HB1 HQ1 HS1 HX
    go_wp2_with fail
    have HS3t : Hid (Step w w3.drew O O) := Lib.hid (step_below HB3.out.drew)
    have hd3 := (Below.refl w3.heap.size w3).drew
    have HP4 := Lib.hid (HP3.out.far hd3)
    have HQ4 := Lib.hid (HQ3.out.below hd3 HQ3.out.lt)
    have HS4 := Lib.hid (HS3.out.below hd3 HS3.out.lt)
    clear hd3 HP3 HB3 HQ3 HS3
    have hS4 : w3.drew.cell? ⟨g, 0, none⟩ = some (.pointer (some ⟨D.g, 0, none⟩)) ∧ w3.drew.cell? ⟨w.heap.size, 0, none⟩ = some (.int .i64 a) := ⟨HP4.out.pb.cell 0, HQ4.out.cell 0⟩
    refine wp_region_held_drew (S := (fun w' => w'.cell? ⟨g, 0, none⟩ = some (.pointer (some ⟨D.g, 0, none⟩)) ∧ w'.cell? ⟨w.heap.size, 0, none⟩ = some (.int .i64 a))) (by kernel_rfl) hS4 (fun hHeld => ?_)
    clear hS4
    generalize w3.drew = w4 at *
    refine wpAnyH_take (i := 0) (v := (.pointer (some ⟨g, 0, none⟩))) rfl (by kernel_rfl) (by kernel_rfl) (by kernel_rfl) (fun _ _ _ h => h) (Or.inl ⟨by rfl, ?_⟩) (by assumption) ?_
    · intro w' hS; go_simp; try with_reducible rfl
    try simp [Act.put]
    refine wpAnyH_take (i := 1) (v := (.pointer (some ⟨g, 0, none⟩))) rfl (by kernel_rfl) (by kernel_rfl) (by kernel_rfl) (fun _ _ _ h => h) (Or.inl ⟨by rfl, ?_⟩) (by assumption) ?_
    · intro w' hS; go_simp; try with_reducible rfl
    try simp [Act.put]
    refine wpAnyH_take (i := 2) (v := (.pointer (some ⟨g, 0, none⟩))) rfl (by kernel_rfl) (by kernel_rfl) (by kernel_rfl) (fun _ _ _ h => h) (Or.inl ⟨by rfl, ?_⟩) (by assumption) ?_
    · intro w' hS; go_simp; try with_reducible rfl
    try simp [Act.put]
    refine wpAnyH_take (i := 3) (v := (.pointer (some ⟨D.g, 0, none⟩))) rfl (by kernel_rfl) (by kernel_rfl) (by kernel_rfl) (fun _ _ _ h => h) (Or.inl ⟨by rfl, ?_⟩) (by assumption) ?_
    · intro w' hS
      have hcc := hS.1
      go_simp; try with_reducible rfl
    try simp [Act.put]
    refine wpAnyH_take (i := 4) (v := (.pointer (some ⟨w.heap.size, 0, none⟩))) rfl (by kernel_rfl) (by kernel_rfl) (by kernel_rfl) (fun _ _ _ h => h) (Or.inl ⟨by rfl, ?_⟩) (by assumption) ?_
    · intro w' hS; go_simp; try with_reducible rfl
    try simp [Act.put]
    refine wpAnyH_take (i := 5) (v := (.int .i64 a)) rfl (by kernel_rfl) (by kernel_rfl) (by kernel_rfl) (fun _ _ _ h => h) (Or.inl ⟨by rfl, ?_⟩) (by assumption) ?_
    · intro w' hS
      have hcc := hS.2
      go_simp; try with_reducible rfl
    try simp [Act.put]
    refine wpAnyH_ready (rs := [6, 10]) (by kernel_rfl) (by simp) ?_
    refine (AllReadyH.cons rfl (fun K hK => ?_) (AllReadyH.cons rfl (fun K hK => ?_) AllReadyH.nil))
    · skip
      have HS4t := HS3t
      clear HS3t
      go_simp
      refine Calls.mono (HRd.out _ HP4.out) ?_
      rintro e w5 ⟨rfl, hp5, hg5⟩
      have HP5 := Lib.hid hp5
      have HQ5 := Lib.hid (HQ4.out.chg hg5.chg fun hk => by have := HLT.out _ (.inr (.inr hk)); omega)
      have HS5 := Lib.hid (HS4.out.chg hg5.chg fun hk => by have := HLT.out _ (.inr (.inr hk)); omega)
      have hst := pstep_dev hO hg5
      have HS5t : Hid (Step w w5 O O) := Lib.hid (HS4t.out.trans ⟨hst.chg, fun k hk => hst.new k ((hO k).1 hk)⟩)
      refine hK.out _ _ ⟨HP5.out.pb.cell 0, HQ5.out.cell 0⟩ (fun hHeld2 => ?_)
      clear hst hp5 hg5 HP4 HQ4 HS4 HS4t HRd
      clear hK K
      try simp
      clear hHeld
      have hHeld := hHeld2
      clear hHeld2
      refine wpAnyH_take (i := 7) (v := (.tuple #[.agg x.cs.toArray, .int .i64 er])) rfl (by kernel_rfl) (by kernel_rfl) (by kernel_rfl) (fun _ _ _ h => h) (Or.inl ⟨by rfl, ?_⟩) (by assumption) ?_
      · intro w' hS; go_simp; try with_reducible rfl
      try simp [Act.put]
      refine wpAnyH_take (i := 8) (v := (.agg x.cs.toArray)) rfl (by kernel_rfl) (by kernel_rfl) (by kernel_rfl) (fun _ _ _ h => h) (Or.inl ⟨by rfl, ?_⟩) (by assumption) ?_
      · intro w' hS; go_simp; try with_reducible rfl
      try simp [Act.put]
      refine wpAnyH_take (i := 9) (v := (.int .i64 er)) rfl (by kernel_rfl) (by kernel_rfl) (by kernel_rfl) (fun _ _ _ h => h) (Or.inl ⟨by rfl, ?_⟩) (by assumption) ?_
      · intro w' hS; go_simp; try with_reducible rfl
      try simp [Act.put]
      refine wpAnyH_ready (rs := [10]) (by kernel_rfl) (by simp) ?_
      refine AllReadyH.cons rfl (fun K hK => ?_) AllReadyH.nil
      go_simp
      have hbA := (Below.refl w5.heap.size w5).alloc (Nat.le_refl _) (.cells zsec.cs.toArray 46)
      have HP6 := Lib.hid (HP5.out.far hbA)
      have HQ6 := Lib.hid (HQ5.out.below hbA HQ5.out.lt)
      have HS6 := Lib.hid (HS5.out.below hbA HS5.out.lt)
      have HG6 := Lib.hid (Blk.new w5 46 zsec.cs.toArray)
      have HS6t : Hid (Step w (w5.alloc (.cells zsec.cs.toArray 46)) O O) := Lib.hid (HS5t.out.trans (step_below hbA))
      have HL6 : Hid (w.heap.size + 1 < w5.heap.size) := Lib.hid HS5.out.lt
      refine hK.out _ _ ⟨HP6.out.pb.cell 0, HQ6.out.cell 0⟩ (fun hHeld2 => ?_)
      clear hbA HP5 HQ5 HS5 HS5t
      generalize w5.alloc (.cells zsec.cs.toArray 46) = w6 at *
      generalize w5.heap.size = g6 at *
      clear hK K
      try simp
      clear hHeld
      have hHeld := hHeld2
      clear hHeld2
      have HP9 := HP6
      clear HP6
      have HQ9 := HQ6
      clear HQ6
      have HS9 := HS6
      clear HS6
      have HS9t := HS6t
      clear HS6t
      have HG9 := HG6
      clear HG6
      generalize w6 = w9 at *
      refine wpAnyH_ready (rs := [11]) (by kernel_rfl) (by simp) ?_
      refine AllReadyH.cons rfl (fun K hK => ?_) AllReadyH.nil
      refine step_stSec rfl (.tmp 6) (.tmp 19) rfl g6 zsec x rfl rfl HG9.out ?_
      intro w7 hg7 hc7
      have hL6 := HL6.out
      have HG7 := Lib.hid hg7
      have HP7 := Lib.hid (HP9.out.stay hc7 fun k hk e => by have := HLT.out _ hk; omega)
      have HQ7 := Lib.hid (HQ9.out.chg hc7 (by omega))
      have HS7 := Lib.hid (HS9.out.chg hc7 (by omega))
      have HS7t : Hid (Step w w7 O O) := Lib.hid ⟨HS9t.out.chg.trans hc7 fun k hk e => by omega, HS9t.out.new⟩
      refine hK.out _ _ ⟨HP7.out.pb.cell 0, HQ7.out.cell 0⟩ (fun hHeld2 => ?_)
      clear hg7 hc7 HG9 HP9 HQ9 HS9 HS9t
      clear hK K
      try simp
      clear hHeld
      have hHeld := hHeld2
      clear hHeld2
      refine wpAnyH_take (i := 12) (v := (.int .i64 er)) rfl (by kernel_rfl) (by kernel_rfl) (by kernel_rfl) (fun _ _ _ h => h) (Or.inl ⟨by rfl, ?_⟩) (by assumption) ?_
      · intro w' hS; go_simp; try with_reducible rfl
      try simp [Act.put]
      refine wpAnyH_done (by kernel_rfl) ?_ _
      clear hHeld
      rcases her with rfl | rfl
      · skip
        have h9 := HGot.out
        rw [gotS, if_pos rfl, Prod.mk.injEq] at h9
        obtain ⟨rfl, rfl⟩ := h9
        clear HGot
        go_wp2_with (refine st_sec2 rfl (.tmp 4) (.tmp 24) rfl (w.heap.size + 1) zsec zsec rfl rfl HS7.out ?_; intro w8 hb8 hc8)
        exact bodyPost_ret (ret_sec rfl hb8 rfl) rfl ⟨s.count, rfl, HP7.out.stay hc8 (fun k hk e => by have := HLT.out _ hk; omega), ⟨HS7t.out.chg.trans hc8 fun k hk e => by omega, HS7t.out.new⟩⟩
      · skip
        go_wp2_with fail
        have hd7 := (Below.refl w7.heap.size w7).drew
        have HP8 := Lib.hid (HP7.out.far hd7)
        have HG8 := Lib.hid (HG7.out.below hd7 HG7.out.lt)
        have HS8 := Lib.hid (HS7.out.below hd7 HS7.out.lt)
        have HS8t := Lib.hid (HS7t.out.trans (step_below hd7))
        have hc8 : w7.drew.cell? ⟨w.heap.size, 2, none⟩ = some (.int .u32 c) := (HQ7.out.below hd7 HQ7.out.lt).cell 2
        have HOf : Hid (Calls Try.prog 35 #[.slice (some ⟨g6, 0, none⟩) 128 128] w7.drew fun e w' => e = .returned (.int .u32 (sumS x : Int)) ∧ w' = w7.drew) := Lib.hid (by
          have := sum_of_any (some ⟨g6, 0, none⟩) 128 w7.drew.heap.size x.l w7.drew (fun hn => ⟨g6, 0, rfl, HG8.out.lt, fun j v hv => by rw [HG8.out.cell, Nat.zero_add, List.getElem?_toArray]; exact hv⟩) (by rw [x.h]; omega)
          rwa [x.h] at this)
        clear HG7 HP7 HS7 HS7t HQ7 hd7
        have hcr := hc8
        refine wp_region_held_drew (S := (fun w' => w'.cell? ⟨w.heap.size, 2, none⟩ = some (.int .u32 c))) (by kernel_rfl) hc8 (fun hHeld => ?_)
        generalize w7.drew = w8 at *
        have h9 := HGot.out
        rw [gotS, if_neg (show ¬ (0 : Int) = 41 by decide)] at h9
        clear HGot
        generalize sumS x = sm at *
        by_cases hsm : (sm : Int) = c
        · skip
          rw [if_pos hsm, Prod.mk.injEq] at h9
          obtain ⟨rfl, rfl⟩ := h9
          have hsn : ((sm : Int) == c) = true := by rw [beq_iff_eq]; exact hsm
          clear hsm
          refine wpAnyH_take (i := 0) (v := (.slice (some ⟨g6, 0, none⟩) 128 128)) rfl (by kernel_rfl) (by kernel_rfl) (by kernel_rfl) (fun _ _ _ h => h) (Or.inl ⟨by rfl, ?_⟩) (by assumption) ?_
          · intro w' hS; go_simp; try with_reducible rfl
          try simp [Act.put]
          refine wpAnyH_take (i := 2) (v := (.pointer (some ⟨w.heap.size, 2, none⟩))) rfl (by kernel_rfl) (by kernel_rfl) (by kernel_rfl) (fun _ _ _ h => h) (Or.inl ⟨by rfl, ?_⟩) (by assumption) ?_
          · intro w' hS; go_simp; try with_reducible rfl
          try simp [Act.put]
          refine wpAnyH_take (i := 3) (v := (.int .u32 c)) rfl (by kernel_rfl) (by kernel_rfl) (by kernel_rfl) (fun _ _ _ h => h) (Or.inl ⟨by rfl, ?_⟩) (by assumption) ?_
          · intro w' hS
            have hcc := hS
            go_simp; try with_reducible rfl
          try simp [Act.put]
          refine wpAnyH_ready (rs := [1]) (by kernel_rfl) (by simp) ?_
          refine AllReadyH.cons rfl (fun K hK => ?_) AllReadyH.nil
          go_simp
          refine Calls.mono (HOf.out) ?_
          rintro e wX ⟨rfl, rfl⟩
          refine hK.out _ _ (hcr) (fun hHeld2 => ?_)
          clear hK K
          try simp
          clear hHeld
          have hHeld := hHeld2
          clear hHeld2
          refine wpAnyH_take (i := 4) (v := (.bool false)) rfl (by kernel_rfl) (by kernel_rfl) (by kernel_rfl) (fun _ _ _ h => h) (Or.inl ⟨by rfl, ?_⟩) (by assumption) ?_
          · intro w' hS
            have hxx := hsn
            go_simp
            simpa using hxx
          try simp [Act.put]
          refine wpAnyH_take (i := 5) (v := (.bool false)) rfl (by kernel_rfl) (by kernel_rfl) (by kernel_rfl) (fun _ _ _ h => h) (Or.inl ⟨by rfl, ?_⟩) (by assumption) ?_
          · intro w' hS; go_simp; try with_reducible rfl
          try simp [Act.put]
          refine wpAnyH_done (by kernel_rfl) ?_ _
          clear hHeld
          clear hsn
          go_wp2_with (first
            | (refine ld_sec rfl (.tmp 6) rfl g6 0 x rfl HG8.out.secIs ?_)
            | (refine st_sec2 rfl (.tmp 4) (.tmp 37) rfl (w.heap.size + 1) zsec x rfl rfl HS8.out ?_; intro w9 hb9 hc9))
          exact bodyPost_ret (ret_sec rfl hb9 rfl) rfl ⟨s.count, rfl, HP8.out.stay hc9 (fun k hk e => by have := HLT.out _ hk; omega), ⟨HS8t.out.chg.trans hc9 fun k hk e => by omega, HS8t.out.new⟩⟩
        · skip
          rw [if_neg hsm, Prod.mk.injEq] at h9
          obtain ⟨rfl, rfl⟩ := h9
          have hsn : ((sm : Int) == c) = false := by rw [beq_eq_false_iff_ne]; exact hsm
          clear hsm
          refine wpAnyH_take (i := 0) (v := (.slice (some ⟨g6, 0, none⟩) 128 128)) rfl (by kernel_rfl) (by kernel_rfl) (by kernel_rfl) (fun _ _ _ h => h) (Or.inl ⟨by rfl, ?_⟩) (by assumption) ?_
          · intro w' hS; go_simp; try with_reducible rfl
          try simp [Act.put]
          refine wpAnyH_take (i := 2) (v := (.pointer (some ⟨w.heap.size, 2, none⟩))) rfl (by kernel_rfl) (by kernel_rfl) (by kernel_rfl) (fun _ _ _ h => h) (Or.inl ⟨by rfl, ?_⟩) (by assumption) ?_
          · intro w' hS; go_simp; try with_reducible rfl
          try simp [Act.put]
          refine wpAnyH_take (i := 3) (v := (.int .u32 c)) rfl (by kernel_rfl) (by kernel_rfl) (by kernel_rfl) (fun _ _ _ h => h) (Or.inl ⟨by rfl, ?_⟩) (by assumption) ?_
          · intro w' hS
            have hcc := hS
            go_simp; try with_reducible rfl
          try simp [Act.put]
          refine wpAnyH_ready (rs := [1]) (by kernel_rfl) (by simp) ?_
          refine AllReadyH.cons rfl (fun K hK => ?_) AllReadyH.nil
          go_simp
          refine Calls.mono (HOf.out) ?_
          rintro e wX ⟨rfl, rfl⟩
          refine hK.out _ _ (hcr) (fun hHeld2 => ?_)
          clear hK K
          try simp
          clear hHeld
          have hHeld := hHeld2
          clear hHeld2
          refine wpAnyH_take (i := 4) (v := (.bool true)) rfl (by kernel_rfl) (by kernel_rfl) (by kernel_rfl) (fun _ _ _ h => h) (Or.inl ⟨by rfl, ?_⟩) (by assumption) ?_
          · intro w' hS
            have hxx := hsn
            go_simp
            simpa using hxx
          try simp [Act.put]
          refine wpAnyH_take (i := 5) (v := (.bool true)) rfl (by kernel_rfl) (by kernel_rfl) (by kernel_rfl) (fun _ _ _ h => h) (Or.inl ⟨by rfl, ?_⟩) (by assumption) ?_
          · intro w' hS; go_simp; try with_reducible rfl
          try simp [Act.put]
          refine wpAnyH_done (by kernel_rfl) ?_ _
          clear hHeld
          clear hsn
          go_wp2_with (refine st_sec2 rfl (.tmp 4) (.tmp 36) rfl (w.heap.size + 1) zsec zsec rfl rfl HS8.out ?_; intro w9 hb9 hc9)
          exact bodyPost_ret (ret_sec rfl hb9 rfl) rfl ⟨s.count, rfl, HP8.out.stay hc9 (fun k hk e => by have := HLT.out _ hk; omega), ⟨HS8t.out.chg.trans hc9 fun k hk e => by omega, HS8t.out.new⟩⟩
    · skip
      have HS4t := HS3t
      clear HS3t
      go_simp
      have hbA := (Below.refl w4.heap.size w4).alloc (Nat.le_refl _) (.cells zsec.cs.toArray 46)
      have HP5 := Lib.hid (HP4.out.far hbA)
      have HQ5 := Lib.hid (HQ4.out.below hbA HQ4.out.lt)
      have HS5 := Lib.hid (HS4.out.below hbA HS4.out.lt)
      have HG5 := Lib.hid (Blk.new w4 46 zsec.cs.toArray)
      have HS5t : Hid (Step w (w4.alloc (.cells zsec.cs.toArray 46)) O O) := Lib.hid (HS4t.out.trans (step_below hbA))
      have HL6 : Hid (w.heap.size + 1 < w4.heap.size) := Lib.hid HS4.out.lt
      refine hK.out _ _ ⟨HP5.out.pb.cell 0, HQ5.out.cell 0⟩ (fun hHeld2 => ?_)
      clear hbA HP4 HQ4 HS4 HS4t
      generalize w4.alloc (.cells zsec.cs.toArray 46) = w5 at *
      generalize w4.heap.size = g6 at *
      clear hK K
      try simp
      clear hHeld
      have hHeld := hHeld2
      clear hHeld2
      have HP4 := HP5
      have HQ4 := HQ5
      have HS4 := HS5
      have HS4t := HS5t
      have HG4 := HG5
      clear HP5 HQ5 HS5 HS5t HG5
      generalize w5 = w44 at *
      refine wpAnyH_ready (rs := [6]) (by kernel_rfl) (by simp) ?_
      refine AllReadyH.cons rfl (fun K hK => ?_) AllReadyH.nil
      go_simp
      refine Calls.mono (HRd.out _ HP4.out) ?_
      rintro e w5 ⟨rfl, hp5, hg5⟩
      have HP5 := Lib.hid hp5
      have HQ5 := Lib.hid (HQ4.out.chg hg5.chg fun hk => by have := HLT.out _ (.inr (.inr hk)); omega)
      have HS5 := Lib.hid (HS4.out.chg hg5.chg fun hk => by have := HLT.out _ (.inr (.inr hk)); omega)
      have HG5 := Lib.hid (HG4.out.chg hg5.chg fun hk => by have := HLT.out _ (.inr (.inr hk)); have := HL6.out; omega)
      have hst := pstep_dev hO hg5
      have HS5t : Hid (Step w w5 O O) := Lib.hid (HS4t.out.trans ⟨hst.chg, fun k hk => hst.new k ((hO k).1 hk)⟩)
      refine hK.out _ _ ⟨HP5.out.pb.cell 0, HQ5.out.cell 0⟩ (fun hHeld2 => ?_)
      clear hst hp5 hg5 HP4 HQ4 HS4 HS4t HRd HG4
      clear hK K
      try simp
      clear hHeld
      have hHeld := hHeld2
      clear hHeld2
      refine wpAnyH_take (i := 7) (v := (.tuple #[.agg x.cs.toArray, .int .i64 er])) rfl (by kernel_rfl) (by kernel_rfl) (by kernel_rfl) (fun _ _ _ h => h) (Or.inl ⟨by rfl, ?_⟩) (by assumption) ?_
      · intro w' hS; go_simp; try with_reducible rfl
      try simp [Act.put]
      refine wpAnyH_take (i := 8) (v := (.agg x.cs.toArray)) rfl (by kernel_rfl) (by kernel_rfl) (by kernel_rfl) (fun _ _ _ h => h) (Or.inl ⟨by rfl, ?_⟩) (by assumption) ?_
      · intro w' hS; go_simp; try with_reducible rfl
      try simp [Act.put]
      refine wpAnyH_take (i := 9) (v := (.int .i64 er)) rfl (by kernel_rfl) (by kernel_rfl) (by kernel_rfl) (fun _ _ _ h => h) (Or.inl ⟨by rfl, ?_⟩) (by assumption) ?_
      · intro w' hS; go_simp; try with_reducible rfl
      try simp [Act.put]
      have HP9 := HP5
      clear HP5
      have HQ9 := HQ5
      clear HQ5
      have HS9 := HS5
      clear HS5
      have HS9t := HS5t
      clear HS5t
      have HG9 := HG5
      clear HG5
      generalize w5 = w9 at *
      refine wpAnyH_ready (rs := [11]) (by kernel_rfl) (by simp) ?_
      refine AllReadyH.cons rfl (fun K hK => ?_) AllReadyH.nil
      refine step_stSec rfl (.tmp 6) (.tmp 19) rfl g6 zsec x rfl rfl HG9.out ?_
      intro w7 hg7 hc7
      have hL6 := HL6.out
      have HG7 := Lib.hid hg7
      have HP7 := Lib.hid (HP9.out.stay hc7 fun k hk e => by have := HLT.out _ hk; omega)
      have HQ7 := Lib.hid (HQ9.out.chg hc7 (by omega))
      have HS7 := Lib.hid (HS9.out.chg hc7 (by omega))
      have HS7t : Hid (Step w w7 O O) := Lib.hid ⟨HS9t.out.chg.trans hc7 fun k hk e => by omega, HS9t.out.new⟩
      refine hK.out _ _ ⟨HP7.out.pb.cell 0, HQ7.out.cell 0⟩ (fun hHeld2 => ?_)
      clear hg7 hc7 HG9 HP9 HQ9 HS9 HS9t
      clear hK K
      try simp
      clear hHeld
      have hHeld := hHeld2
      clear hHeld2
      refine wpAnyH_take (i := 12) (v := (.int .i64 er)) rfl (by kernel_rfl) (by kernel_rfl) (by kernel_rfl) (fun _ _ _ h => h) (Or.inl ⟨by rfl, ?_⟩) (by assumption) ?_
      · intro w' hS; go_simp; try with_reducible rfl
      try simp [Act.put]
      refine wpAnyH_done (by kernel_rfl) ?_ _
      clear hHeld
      rcases her with rfl | rfl
      · skip
        have h9 := HGot.out
        rw [gotS, if_pos rfl, Prod.mk.injEq] at h9
        obtain ⟨rfl, rfl⟩ := h9
        clear HGot
        go_wp2_with (refine st_sec2 rfl (.tmp 4) (.tmp 24) rfl (w.heap.size + 1) zsec zsec rfl rfl HS7.out ?_; intro w8 hb8 hc8)
        exact bodyPost_ret (ret_sec rfl hb8 rfl) rfl ⟨s.count, rfl, HP7.out.stay hc8 (fun k hk e => by have := HLT.out _ hk; omega), ⟨HS7t.out.chg.trans hc8 fun k hk e => by omega, HS7t.out.new⟩⟩
      · skip
        go_wp2_with fail
        have hd7 := (Below.refl w7.heap.size w7).drew
        have HP8 := Lib.hid (HP7.out.far hd7)
        have HG8 := Lib.hid (HG7.out.below hd7 HG7.out.lt)
        have HS8 := Lib.hid (HS7.out.below hd7 HS7.out.lt)
        have HS8t := Lib.hid (HS7t.out.trans (step_below hd7))
        have hc8 : w7.drew.cell? ⟨w.heap.size, 2, none⟩ = some (.int .u32 c) := (HQ7.out.below hd7 HQ7.out.lt).cell 2
        have HOf : Hid (Calls Try.prog 35 #[.slice (some ⟨g6, 0, none⟩) 128 128] w7.drew fun e w' => e = .returned (.int .u32 (sumS x : Int)) ∧ w' = w7.drew) := Lib.hid (by
          have := sum_of_any (some ⟨g6, 0, none⟩) 128 w7.drew.heap.size x.l w7.drew (fun hn => ⟨g6, 0, rfl, HG8.out.lt, fun j v hv => by rw [HG8.out.cell, Nat.zero_add, List.getElem?_toArray]; exact hv⟩) (by rw [x.h]; omega)
          rwa [x.h] at this)
        clear HG7 HP7 HS7 HS7t HQ7 hd7
        have hcr := hc8
        refine wp_region_held_drew (S := (fun w' => w'.cell? ⟨w.heap.size, 2, none⟩ = some (.int .u32 c))) (by kernel_rfl) hc8 (fun hHeld => ?_)
        generalize w7.drew = w8 at *
        have h9 := HGot.out
        rw [gotS, if_neg (show ¬ (0 : Int) = 41 by decide)] at h9
        clear HGot
        generalize sumS x = sm at *
        by_cases hsm : (sm : Int) = c
        · skip
          rw [if_pos hsm, Prod.mk.injEq] at h9
          obtain ⟨rfl, rfl⟩ := h9
          have hsn : ((sm : Int) == c) = true := by rw [beq_iff_eq]; exact hsm
          clear hsm
          refine wpAnyH_take (i := 0) (v := (.slice (some ⟨g6, 0, none⟩) 128 128)) rfl (by kernel_rfl) (by kernel_rfl) (by kernel_rfl) (fun _ _ _ h => h) (Or.inl ⟨by rfl, ?_⟩) (by assumption) ?_
          · intro w' hS; go_simp; try with_reducible rfl
          try simp [Act.put]
          refine wpAnyH_take (i := 2) (v := (.pointer (some ⟨w.heap.size, 2, none⟩))) rfl (by kernel_rfl) (by kernel_rfl) (by kernel_rfl) (fun _ _ _ h => h) (Or.inl ⟨by rfl, ?_⟩) (by assumption) ?_
          · intro w' hS; go_simp; try with_reducible rfl
          try simp [Act.put]
          refine wpAnyH_take (i := 3) (v := (.int .u32 c)) rfl (by kernel_rfl) (by kernel_rfl) (by kernel_rfl) (fun _ _ _ h => h) (Or.inl ⟨by rfl, ?_⟩) (by assumption) ?_
          · intro w' hS
            have hcc := hS
            go_simp; try with_reducible rfl
          try simp [Act.put]
          refine wpAnyH_ready (rs := [1]) (by kernel_rfl) (by simp) ?_
          refine AllReadyH.cons rfl (fun K hK => ?_) AllReadyH.nil
          go_simp
          refine Calls.mono (HOf.out) ?_
          rintro e wX ⟨rfl, rfl⟩
          refine hK.out _ _ (hcr) (fun hHeld2 => ?_)
          clear hK K
          try simp
          clear hHeld
          have hHeld := hHeld2
          clear hHeld2
          refine wpAnyH_take (i := 4) (v := (.bool false)) rfl (by kernel_rfl) (by kernel_rfl) (by kernel_rfl) (fun _ _ _ h => h) (Or.inl ⟨by rfl, ?_⟩) (by assumption) ?_
          · intro w' hS
            have hxx := hsn
            go_simp
            simpa using hxx
          try simp [Act.put]
          refine wpAnyH_take (i := 5) (v := (.bool false)) rfl (by kernel_rfl) (by kernel_rfl) (by kernel_rfl) (fun _ _ _ h => h) (Or.inl ⟨by rfl, ?_⟩) (by assumption) ?_
          · intro w' hS; go_simp; try with_reducible rfl
          try simp [Act.put]
          refine wpAnyH_done (by kernel_rfl) ?_ _
          clear hHeld
          clear hsn
          go_wp2_with (first
            | (refine ld_sec rfl (.tmp 6) rfl g6 0 x rfl HG8.out.secIs ?_)
            | (refine st_sec2 rfl (.tmp 4) (.tmp 37) rfl (w.heap.size + 1) zsec x rfl rfl HS8.out ?_; intro w9 hb9 hc9))
          exact bodyPost_ret (ret_sec rfl hb9 rfl) rfl ⟨s.count, rfl, HP8.out.stay hc9 (fun k hk e => by have := HLT.out _ hk; omega), ⟨HS8t.out.chg.trans hc9 fun k hk e => by omega, HS8t.out.new⟩⟩
        · skip
          rw [if_neg hsm, Prod.mk.injEq] at h9
          obtain ⟨rfl, rfl⟩ := h9
          have hsn : ((sm : Int) == c) = false := by rw [beq_eq_false_iff_ne]; exact hsm
          clear hsm
          refine wpAnyH_take (i := 0) (v := (.slice (some ⟨g6, 0, none⟩) 128 128)) rfl (by kernel_rfl) (by kernel_rfl) (by kernel_rfl) (fun _ _ _ h => h) (Or.inl ⟨by rfl, ?_⟩) (by assumption) ?_
          · intro w' hS; go_simp; try with_reducible rfl
          try simp [Act.put]
          refine wpAnyH_take (i := 2) (v := (.pointer (some ⟨w.heap.size, 2, none⟩))) rfl (by kernel_rfl) (by kernel_rfl) (by kernel_rfl) (fun _ _ _ h => h) (Or.inl ⟨by rfl, ?_⟩) (by assumption) ?_
          · intro w' hS; go_simp; try with_reducible rfl
          try simp [Act.put]
          refine wpAnyH_take (i := 3) (v := (.int .u32 c)) rfl (by kernel_rfl) (by kernel_rfl) (by kernel_rfl) (fun _ _ _ h => h) (Or.inl ⟨by rfl, ?_⟩) (by assumption) ?_
          · intro w' hS
            have hcc := hS
            go_simp; try with_reducible rfl
          try simp [Act.put]
          refine wpAnyH_ready (rs := [1]) (by kernel_rfl) (by simp) ?_
          refine AllReadyH.cons rfl (fun K hK => ?_) AllReadyH.nil
          go_simp
          refine Calls.mono (HOf.out) ?_
          rintro e wX ⟨rfl, rfl⟩
          refine hK.out _ _ (hcr) (fun hHeld2 => ?_)
          clear hK K
          try simp
          clear hHeld
          have hHeld := hHeld2
          clear hHeld2
          refine wpAnyH_take (i := 4) (v := (.bool true)) rfl (by kernel_rfl) (by kernel_rfl) (by kernel_rfl) (fun _ _ _ h => h) (Or.inl ⟨by rfl, ?_⟩) (by assumption) ?_
          · intro w' hS
            have hxx := hsn
            go_simp
            simpa using hxx
          try simp [Act.put]
          refine wpAnyH_take (i := 5) (v := (.bool true)) rfl (by kernel_rfl) (by kernel_rfl) (by kernel_rfl) (fun _ _ _ h => h) (Or.inl ⟨by rfl, ?_⟩) (by assumption) ?_
          · intro w' hS; go_simp; try with_reducible rfl
          try simp [Act.put]
          refine wpAnyH_done (by kernel_rfl) ?_ _
          clear hHeld
          clear hsn
          go_wp2_with (refine st_sec2 rfl (.tmp 4) (.tmp 36) rfl (w.heap.size + 1) zsec zsec rfl rfl HS8.out ?_; intro w9 hb9 hc9)
          exact bodyPost_ret (ret_sec rfl hb9 rfl) rfl ⟨s.count, rfl, HP8.out.stay hc9 (fun k hk e => by have := HLT.out _ hk; omega), ⟨HS8t.out.chg.trans hc9 fun k hk e => by omega, HS8t.out.new⟩⟩
  · have he := holeF_iff.1 hh
    have HX : Hid (∀ w, Calls Try.prog 34 #[ptv a b c] w fun e w' => e = .returned (.bool true) ∧ Below w.heap.size w w') := Lib.hid (fun w => by rw [← hh]; exact phole_any a b c w)
    have hg : getS P (a, b, c) = (zsec, 0) := by rw [he, get_hole]
    rw [hg]
    clear hg he hh h hb0 hb1 hbq hbs
    go_enter Try.func19, Try.ntmps19
    go_upto_region 1 with (fail)
    rw [← hW]
    clear hW
    go_wp2_with (refine ld_ptr rfl (.tmp 3) rfl w.heap.size 25 a b c rfl HQ1.out ?_)
    refine Calls.mono (HX.out _) ?_
    rintro e w3 ⟨rfl, hb3⟩
    have HS3 := Lib.hid (HS1.out.below hb3 HS1.out.lt)
    have HB3 := Lib.hid (HB1.out.trans (hb3.mono HB1.out.size))
    go_wp2_with (refine st_sec2 rfl (.tmp 4) (.tmp 10) rfl (w.heap.size + 1) zsec zsec rfl rfl HS3.out ?_; intro w4 hb4 hc4)
    exact bodyPost_ret (ret_sec rfl hb4 rfl) rfl ⟨s, rfl, (HP.out.far hb3).stay hc4 (fun k hk e => by have := HLT.out _ hk; omega), ⟨(Chg.of_below HB3.out).trans hc4 fun k hk e => by omega, fun _ h => .inl h⟩⟩
end
end
end Go.Proofs.Ytdcegkeaopjbnaa
