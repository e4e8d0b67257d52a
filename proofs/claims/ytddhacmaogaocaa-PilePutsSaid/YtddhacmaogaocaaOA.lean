/- A pile's calls walked: New, Dev, Map, Stamp, Base, Next, Commit, Drop. -/
import Derived.Test.YtddhacmaogaocaaO2
import Derived.Test.YtddhacmaogaocaaO3
import Derived.Test.YtddhacmaogaocaaN11
import Derived.Test.YtddhacmaogaocaaN15
import Derived.Test.YtddhacmaogaocaaS1
import Derived.Test.YtddhacmaogaocaaBS
import Derived.Test.YtddhacmaogaocaaN13
import Derived.Test.YtddhacmaogaocaaN12
set_option maxRecDepth 10000
namespace Go.Proofs.Ytddhacmaogaocaa
open Go.RowKit

/-- A pile's cells. -/
def pileCs (dg gm st ba : Nat) : Array Value := #[.pointer (some ⟨dg, 0, none⟩), .pointer (some ⟨gm, 0, none⟩), .int .u64 (st : Int), .int .u64 (ba : Int)]
/-- The block g is a pile over the device D and the map gm. -/
structure PAt (w : World) (B : Nat) (g : Nat) (D : Dev) (pv : Value) (gm : Nat) (s : St) (P : Pw) : Prop where
  pb : Blk w g 58 (pileCs D.g gm P.st P.ba)
  dev : At w B P.nw.length D pv s
  map : MapAt w (fun k => k = gm) gm P.m
  nw : s.nw = P.nw
  left : s.left = -1
  dead : s.dead = false
  pend : s.pend.length ≤ P.N
  bg : B ≤ g ∧ B ≤ gm
  tot : P.m.tot ≤ P.nw.length
  st : P.st < 18446744073709551616
  ba : P.ba < 18446744073709551616
def pown (D : Dev) (pv : Value) (g gm k : Nat) : Prop := k = g ∨ k = gm ∨ D.own pv k
structure PileAt (w : World) (O : Nat → Prop) (g : Nat) (P : Pw) : Prop where
  ex : ∃ B D pv gm s, PAt w B g D pv gm s P ∧ ∀ k, O k ↔ pown D pv g gm k
section
variable {w w' : World} {O O2 : Nat → Prop} {B g gm : Nat} {D : Dev} {pv pv' : Value} {s s' : St} {P : Pw}
theorem PAt.ne_gm (h : PAt w B g D pv gm s P) : g ≠ gm := blk_ne h.pb h.map.blk (by decide)
theorem PAt.g_dev (h : PAt w B g D pv gm s P) : ¬ D.own pv g := h.dev.far h.pb (by decide) (by decide) (fun e => absurd e (by decide))
theorem PAt.gm_dev (h : PAt w B g D pv gm s P) : ¬ D.own pv gm := h.dev.far h.map.blk (by decide) (by decide) (fun e => absurd e (by decide))
theorem PAt.lt (h : PAt w B g D pv gm s P) (k : Nat) (hk : pown D pv g gm k) : k < w.heap.size := by
  rcases hk with rfl | rfl | hk
  · exact h.pb.lt
  · exact h.map.blk.lt
  · exact h.dev.lt k hk
theorem PAt.stay (h : PAt w B g D pv gm s P) (c : Chg w w' O2) (hO : ∀ k, pown D pv g gm k → ¬ O2 k) : PAt w' B g D pv gm s P :=
  { h with
    pb := h.pb.chg c (hO g (.inl rfl))
    dev := h.dev.chg c fun k hk => hO k (.inr (.inr hk))
    map := h.map.stay c fun k hk => hO k (.inr (.inl hk)) }
theorem PAt.far (h : PAt w B g D pv gm s P) (hb : Below w.heap.size w w') : PAt w' B g D pv gm s P := h.stay (Chg.of_below (O := fun _ => False) hb) fun _ _ => id
/-- The map turns. -/
theorem PAt.onMap {m' : Mp} (h : PAt w B g D pv gm s P) (k : MapAt w' (fun k => k = gm) gm m') (c : Step w w' (fun k => k = gm) (fun k => k = gm)) (ht : m'.tot = P.m.tot) : PAt w' B g D pv gm s { P with m := m' } :=
  { h with
    pb := h.pb.chg c.chg h.ne_gm
    dev := h.dev.chg c.chg fun k hk e => h.gm_dev (e ▸ hk)
    map := k
    tot := by show m'.tot ≤ _; rw [ht]; exact h.tot }
/-- The device turns. -/
theorem PAt.onDev {nw' : List Sec} {N' : Nat} (h : PAt w B g D pv gm s P) (k : At w' B P.nw.length D pv' s') (c : Goes D w pv w' pv') (hl : nw'.length = P.nw.length) (h1 : s'.nw = nw') (h2 : s'.left = -1) (h3 : s'.dead = false) (h4 : s'.pend.length ≤ N') :
    PAt w' B g D pv' gm s' ⟨nw', P.m, P.st, P.ba, N'⟩ where
  pb := h.pb.chg c.chg h.g_dev
  dev := by show At w' B nw'.length D pv' s'; rw [hl]; exact k
  map := h.map.stay c.chg fun k hk e => by subst hk; exact h.gm_dev e
  nw := h1
  left := h2
  dead := h3
  pend := h4
  bg := h.bg
  tot := by show P.m.tot ≤ nw'.length; rw [hl]; exact h.tot
  st := h.st
  ba := h.ba
/-- What a call on a pile turns. -/
theorem pstep_map (hO : ∀ k, O k ↔ pown D pv g gm k) (c : Step w w' (fun k => k = gm) (fun k => k = gm)) : Step w w' O O :=
  ⟨c.chg.mono fun k _ hk => (hO k).2 (.inr (.inl hk)), fun _ hk => .inl hk⟩
theorem pstep_dev (hO : ∀ k, O k ↔ pown D pv g gm k) (c : Goes D w pv w' pv') : Step w w' O (pown D pv' g gm) :=
  ⟨c.chg.mono fun k _ hk => (hO k).2 (.inr (.inr hk)), fun k hk => by
    rcases hk with hk | hk | hk
    · exact .inl ((hO k).2 (.inl hk))
    · exact .inl ((hO k).2 (.inr (.inl hk)))
    · by_cases hs : k < w.heap.size
      · by_cases hd : D.own pv k
        · exact .inl ((hO k).2 (.inr (.inr hd)))
        · exact absurd hk (c.own hs hd)
      · exact .inr (by omega)⟩
theorem Step.trans {w'' : World} {O' O'' : Nat → Prop} (h : Step w w' O O') (k : Step w' w'' O' O'') : Step w w'' O O'' :=
  ⟨h.chg.trans k.chg fun j hj ho => (h.new j ho).elim id fun hs => by omega, fun j hj => (k.new j hj).elim (h.new j) fun hs => .inr (Nat.le_trans h.chg.size hs)⟩
theorem step_below (hb : Below w.heap.size w w') : Step w w' O O := ⟨Chg.of_below hb, fun _ hk => .inl hk⟩
end
section
variable {w : World} {O : Nat → Prop} {B g gm : Nat} {D : Dev} {pv : Value} {s : St} {P : Pw}
/-- The pile's own block turns. -/
theorem PAt.onPb {w' : World} {st ba : Nat} (h : PAt w B g D pv gm s P) (c : Chg w w' (fun k => k = g)) (hb : Blk w' g 58 (pileCs D.g gm st ba)) (h1 : st < 18446744073709551616) (h2 : ba < 18446744073709551616) : PAt w' B g D pv gm s ⟨P.nw, P.m, st, ba, P.N⟩ :=
  { h with
    pb := hb
    dev := h.dev.chg c fun k hk e => h.g_dev (e ▸ hk)
    map := h.map.stay c fun k hk e => by subst hk; exact h.ne_gm e.symm
    st := h1
    ba := h2 }
theorem pileNew_any (dg gm st ba : Nat) (w : World) : Calls Try.prog 21 #[.pointer (some ⟨dg, 0, none⟩), .pointer (some ⟨gm, 0, none⟩), .int .u64 (st : Int), .int .u64 (ba : Int)] w
    fun e w' => ∃ g, e = .returned (.pointer (some ⟨g, 0, none⟩)) ∧ w.heap.size ≤ g ∧ Blk w' g 58 (pileCs dg gm st ba) ∧ Below w.heap.size w w' := by
  go_enter Try.func21, Try.ntmps21
  go_wp2_with fail
  go_ret
  exact ⟨w.heap.size, rfl, Nat.le_refl _, Blk.new w _ _, (Below.refl _ _).alloc (Nat.le_refl _) _⟩
theorem made_any (x : Int) (w : World) (hx : I64 x) : Calls Try.prog 7 #[.int .i64 x] w fun e w' => ∃ O g, e = .returned (.pointer (some ⟨g, 0, none⟩)) ∧ PileAt w' O g (newPw x) ∧ (∀ k, O k → w.heap.size ≤ k) ∧ Below w.heap.size w w' := by
  have HD := Lib.hid (new_any x w)
  go_enter Try.func7, Try.ntmps7
  go_wp2_with fail
  refine Calls.mono HD.out ?_
  rintro e w1 ⟨D, rfl, h1, hb1⟩
  have HM := Lib.hid (mnew_any x w1 hx)
  go_wp2_with fail
  refine Calls.mono HM.out ?_
  rintro e w2 ⟨O2, gm, rfl, h2, hO2, hb2⟩
  have HP := Lib.hid (pileNew_any D.g gm 1 0 w2)
  have HH := Lib.hid (And.intro h1 (And.intro h2 (And.intro hO2 (And.intro hb1 hb2))))
  clear h1 h2 hO2 hb1 hb2 HD HM
  go_wp2_with fail
  refine Calls.mono HP.out ?_
  rintro e w3 ⟨g, rfl, hg, hbl, hb3⟩
  go_wp2_with fail
  go_ret
  obtain ⟨h1, h2, hO2, hb1, hb2⟩ := HH.out
  have hgm : w1.heap.size ≤ gm := hO2 gm ((h2.own gm).2 rfl)
  have hb13 : Below w1.heap.size w1 w3 := hb2.trans (hb3.mono hb2.size)
  have hd : At w3 w.heap.size (newPw x).nw.length D (.slice none 0 0) (newSt (manyF x)) := by
    have e : (newPw x).nw.length = manyF x := by show (List.replicate _ zsec).length = _; rw [List.length_replicate]; rfl
    rw [e]
    exact h1.chg (O := fun _ => False) (Chg.of_below hb13) fun _ _ => id
  have hmt : (newMp x).tot ≤ (newPw x).nw.length := by
    show _ ≤ (List.replicate _ zsec).length
    rw [List.length_replicate]
    show (min (max x 0) 1024).toNat ≤ _
    omega
  have hP : PAt w3 w.heap.size g D (.slice none 0 0) gm (newSt (manyF x)) (newPw x) :=
    ⟨hbl, hd, ⟨h2.blk.below hb3 h2.blk.lt, fun _ => Iff.rfl, h2.tot, h2.two⟩, rfl, rfl, rfl, Nat.le_refl _, ⟨Nat.le_trans hb1.size (Nat.le_trans hb2.size hg), Nat.le_trans hb1.size hgm⟩, hmt, by show 1 < _; omega, by show 0 < _; omega⟩
  refine ⟨pown D (.slice none 0 0) g gm, g, rfl, ⟨_, _, _, _, _, hP, fun _ => Iff.rfl⟩, fun k hk => ?_, hb1.trans (hb13.mono hb1.size)⟩
  rcases hk with rfl | rfl | hk
  · exact hP.bg.1
  · exact hP.bg.2
  · exact hP.dev.ge k hk
theorem dev0_any (h : PAt w B g D pv gm s P) : Calls Try.prog 12 #[.pointer (some ⟨g, 0, none⟩)] w fun e w' => e = .returned (.pointer (some ⟨D.g, 0, none⟩)) ∧ Below w.heap.size w w' := by
  have hc : w.cell? ⟨g, 0, none⟩ = some (.pointer (some ⟨D.g, 0, none⟩)) := h.pb.cell 0
  go_enter Try.func12, Try.ntmps12
  go_wp2_with fail
  go_ret
  exact ⟨rfl, Below.refl _ _⟩
theorem map0_any (h : PAt w B g D pv gm s P) : Calls Try.prog 16 #[.pointer (some ⟨g, 0, none⟩)] w fun e w' => e = .returned (.pointer (some ⟨gm, 0, none⟩)) ∧ Below w.heap.size w w' := by
  have hc : w.cell? ⟨g, 1, none⟩ = some (.pointer (some ⟨gm, 0, none⟩)) := h.pb.cell 1
  go_enter Try.func16, Try.ntmps16
  go_wp2_with fail
  go_ret
  exact ⟨rfl, Below.refl _ _⟩
theorem stamp0_any (h : PAt w B g D pv gm s P) : Calls Try.prog 19 #[.pointer (some ⟨g, 0, none⟩)] w fun e w' => e = .returned (.int .u64 (P.st : Int)) ∧ Below w.heap.size w w' := by
  have hc : w.cell? ⟨g, 2, none⟩ = some (.int .u64 (P.st : Int)) := h.pb.cell 2
  go_enter Try.func19, Try.ntmps19
  go_wp2_with fail
  go_ret
  exact ⟨rfl, Below.refl _ _⟩
theorem base0_any (h : PAt w B g D pv gm s P) : Calls Try.prog 18 #[.pointer (some ⟨g, 0, none⟩)] w fun e w' => e = .returned (.int .u64 (P.ba : Int)) ∧ Below w.heap.size w w' := by
  have hc : w.cell? ⟨g, 3, none⟩ = some (.int .u64 (P.ba : Int)) := h.pb.cell 3
  go_enter Try.func18, Try.ntmps18
  go_wp2_with fail
  go_ret
  exact ⟨rfl, Below.refl _ _⟩
set_option maxHeartbeats 1000000 in
theorem pnext_any (dg st ba : Nat) (w : World) (hb : Blk w g 58 (pileCs dg gm st ba)) (h1 : st + 1 < 18446744073709551616) : Calls Try.prog 32 #[.pointer (some ⟨g, 0, none⟩)] w
    fun e w' => e = .returned (.tuple #[]) ∧ Blk w' g 58 (pileCs dg gm (st + 1) ba) ∧ Chg w w' (fun k => k = g) := by
  have hc2 : w.cell? ⟨g, 2, none⟩ = some (.int .u64 (st : Int)) := hb.cell 2
  have hf := fun i => hb.frozen i
  have hlt := hb.lt
  have hs1 : ((st : Int) + 1) < 18446744073709551616 := by omega
  have hs0 : (0 : Int) ≤ (st : Int) := by omega
  have HB := Lib.hid hb
  clear hb
  go_enter Try.func32, Try.ntmps32
  go_wp2_with fail
  refine bodyPost_end (results_none rfl _ _ _) rfl ?_
  refine ⟨rfl, ?_, (Chg.refl w (fun k => k = g)).setCell (p := ⟨g, 2, none⟩) (.inl rfl) _⟩
  exact HB.out.set_ 2 (.int .u64 ((st : Int) + 1))
set_option maxHeartbeats 1000000 in
theorem pcommit_any (h : PAt w B g D pv gm s P) (h1 : P.st + 1 < 18446744073709551616) : Calls Try.prog 15 #[.pointer (some ⟨g, 0, none⟩)] w
    fun e w' => e = .returned (.tuple #[]) ∧ PAt w' B g D pv gm s (comP P) ∧ Chg w w' (pown D pv g gm) := by
  have hc1 : w.cell? ⟨g, 1, none⟩ = some (.pointer (some ⟨gm, 0, none⟩)) := h.pb.cell 1
  have HC := Lib.hid (mcommit_any h.map)
  have HH := Lib.hid h
  have hlt := h.pb.lt
  clear h
  go_enter Try.func15, Try.ntmps15
  go_wp2_with fail
  refine Calls.mono HC.out ?_
  rintro e w1 ⟨rfl, h2, s2⟩
  have h3 := HH.out.onMap h2 s2 rfl
  have hb2 : w1.cell? ⟨g, 2, none⟩ = some (.int .u64 (P.st : Int)) := h3.pb.cell 2
  have hb3 : w1.cell? ⟨g, 3, none⟩ = some (.int .u64 (P.ba : Int)) := h3.pb.cell 3
  have hf := fun i => h3.pb.frozen i
  have hlt1 := h3.pb.lt
  have hb4 : Blk (w1.setCell ⟨g, 3, none⟩ (.int .u64 (P.st : Int))) g 58 (pileCs D.g gm P.st P.st) := h3.pb.set_ 3 (.int .u64 (P.st : Int))
  have HN := Lib.hid (pnext_any D.g P.st P.st _ hb4 h1)
  have H3 := Lib.hid (And.intro h3 s2)
  clear h3 h2 s2 HC hc1 hb4
  go_wp2_with fail
  refine Calls.mono HN.out ?_
  rintro e w2 ⟨rfl, h5, c5⟩
  go_wp2_with fail
  refine bodyPost_end (results_none rfl _ _ _) rfl ?_
  have hc2 : Chg w1 w2 (fun k => k = g) :=
    ((Chg.refl w1 (fun k => k = g)).setCell (p := ⟨g, 3, none⟩) (.inl rfl) _).trans c5 fun k _ hk => hk
  refine ⟨rfl, H3.out.1.onPb hc2 h5 h1 HH.out.st, ?_⟩
  exact (H3.out.2.chg.mono fun k _ hk => .inr (.inl hk)).trans hc2 fun k _ hk => .inl hk
theorem phole_any (a b s : Int) (w : World) :
    Calls Try.prog 24 #[ptv a b s] w fun e w' => e = .returned (.bool (holeF a b s)) ∧ Below w.heap.size w w' := by
  have hq := fun w => run_eqP a b s 0 0 0 w
  go_enter Try.func24, Try.ntmps24
  go_wp2_with fail
  go_ret
  exact ⟨ret_bool rfl, (Below.refl _ _).alloc (by omega) _⟩
end
theorem holeF_iff {a b s : Int} : holeF a b s = true ↔ ((a, b, s) : PtrV) = hole0 := by
  unfold holeF hole0
  simp [and_assoc]
theorem turnM_tot (m : Mp) (i : Int) (x y : Nat) : (turnM m i x y).tot = m.tot := by
  unfold turnM
  cases h : m.turn i x y with
  | none => rfl
  | some m' =>
    unfold Mp.turn at h
    split at h
    · cases h
      rfl
    · cases h
section
variable {w : World} {O : Nat → Prop} {B g gm : Nat} {D : Dev} {pv : Value} {s : St} {P : Pw}
set_option maxHeartbeats 1000000 in
theorem pdrop_any (h : PAt w B g D pv gm s P) (hO : ∀ k, O k ↔ pown D pv g gm k) (a b c : Int) (hq : PtrOk (a, b, c)) : Calls Try.prog 10 #[.pointer (some ⟨g, 0, none⟩), ptv a b c] w
    fun e w' => e = .returned (.int .i64 (dropC P (a, b, c))) ∧ PAt w' B g D pv gm s (dropP P (a, b, c)) ∧ Step w w' O O := by
  have hb1 : Below w.heap.size w (w.alloc (.cells #[.int .i64 a, .int .u64 b, .int .u32 c] 32)) := (Below.refl _ _).alloc (Nat.le_refl _) _
  have h1 := h.far hb1
  have hbq := Blk.new w 32 #[.int .i64 a, .int .u64 b, .int .u32 c]
  have hc1 : (w.alloc (.cells #[.int .i64 a, .int .u64 b, .int .u32 c] 32)).cell? ⟨g, 1, none⟩ = some (.pointer (some ⟨gm, 0, none⟩)) := h1.pb.cell 1
  have hc3 : (w.alloc (.cells #[.int .i64 a, .int .u64 b, .int .u32 c] 32)).cell? ⟨g, 3, none⟩ = some (.int .u64 (P.ba : Int)) := h1.pb.cell 3
  have hlt := h.pb.lt
  have hgm := h.map.blk.lt
  have hs1 : Step w (w.alloc (.cells #[.int .i64 a, .int .u64 b, .int .u32 c] 32)) O O := step_below hb1
  have HF := Lib.hid (mfree_any a ⟨hq.a0, hq.a1⟩ h1.map)
  have HL := Lib.hid (mlater_any a ⟨hq.a0, hq.a1⟩ h1.map)
  have H1 := Lib.hid (And.intro h1 hs1)
  clear h1 hs1 hbq hb1 h
  rcases hh : holeF a b c with _ | _
  · have hne : ((a, b, c) : PtrV) ≠ hole0 := fun e => by rw [holeF_iff.2 e] at hh; cases hh
    have HX : Hid (∀ w, Calls Try.prog 24 #[ptv a b c] w fun e w' => e = .returned (.bool false) ∧ Below w.heap.size w w') := Lib.hid (fun w => by rw [← hh]; exact phole_any a b c w)
    by_cases hx : (P.ba : Int) < b
    · have hT : dropT P (a, b, c) = 0 := if_pos hx
      have e1 : dropC P (a, b, c) = turnC P.m a 1 0 := by unfold dropC; rw [if_neg hne, hT]
      have e2 : dropP P (a, b, c) = { P with m := turnM P.m a 1 0 } := by unfold dropP; rw [if_neg hne, hT]
      rw [e1, e2]
      clear e1 e2 hT hne
      go_enter Try.func10, Try.ntmps10
      go_wp2_with fail
      refine Calls.mono (HX.out _) ?_
      rintro e w7 ⟨rfl, hb7⟩
      go_wp2_with fail
      have hbd : Below (w.alloc (.cells #[.int .i64 a, .int .u64 b, .int .u32 c] 32)).heap.size (w.alloc (.cells #[.int .i64 a, .int .u64 b, .int .u32 c] 32)) w7.drew := hb7.trans ((Below.refl _ _).drew.mono hb7.size)
      have h2 := H1.out.1.far hbd
      have s2 := H1.out.2.trans (step_below hbd)
      have hd1 : w7.drew.cell? ⟨g, 1, none⟩ = some (.pointer (some ⟨gm, 0, none⟩)) := h2.pb.cell 1
      have hd3 : w7.drew.cell? ⟨g, 3, none⟩ = some (.int .u64 (P.ba : Int)) := h2.pb.cell 3
      have hdq : w7.drew.cell? ⟨w.heap.size, 1, none⟩ = some (.int .u64 b) := ((Blk.new w 32 #[.int .i64 a, .int .u64 b, .int .u32 c]).below hbd (by simp)).cell 1
      have hdq0 : w7.drew.cell? ⟨w.heap.size, 0, none⟩ = some (.int .i64 a) := ((Blk.new w 32 #[.int .i64 a, .int .u64 b, .int .u32 c]).below hbd (by simp)).cell 0
      have hgm0 : gm < w.heap.size := hgm
      have hwl0 : w.heap.size < w7.drew.heap.size := Nat.lt_of_lt_of_le (by simp) hbd.size
      have H2 := Lib.hid (And.intro h2 s2)
      clear h2 s2 hbd hb7 H1 HF HL hc1 hc3 hgm HX
      refine wp_region_held_drew (S := (fun w' => w'.cell? ⟨w.heap.size, 1, none⟩ = some (.int .u64 b) ∧ w'.cell? ⟨g, 3, none⟩ = some (.int .u64 (P.ba : Int)))) (by kernel_rfl) ⟨hdq, hd3⟩ (fun hHeld => ?_)
      generalize w7.drew = w8 at *
      refine wpAnyH_take (i := 0) (v := (.pointer (some ⟨w.heap.size, 1, none⟩))) rfl (by kernel_rfl) (by kernel_rfl) (by kernel_rfl) (fun _ _ _ h => h) (Or.inl ⟨by rfl, ?_⟩) (by assumption) ?_
      · intro w' hS; go_simp; try with_reducible rfl
      try simp [Act.put]
      refine wpAnyH_take (i := 1) (v := (.int .u64 b)) rfl (by kernel_rfl) (by kernel_rfl) (by kernel_rfl) (fun _ _ _ h => h) (Or.inl ⟨by rfl, ?_⟩) (by assumption) ?_
      · intro w' hS
        have hcc := hS.1
        go_simp; try with_reducible rfl
      try simp [Act.put]
      refine wpAnyH_take (i := 2) (v := (.pointer (some ⟨g, 0, none⟩))) rfl (by kernel_rfl) (by kernel_rfl) (by kernel_rfl) (fun _ _ _ h => h) (Or.inl ⟨by rfl, ?_⟩) (by assumption) ?_
      · intro w' hS; go_simp; try with_reducible rfl
      try simp [Act.put]
      refine wpAnyH_take (i := 3) (v := (.pointer (some ⟨g, 0, none⟩))) rfl (by kernel_rfl) (by kernel_rfl) (by kernel_rfl) (fun _ _ _ h => h) (Or.inl ⟨by rfl, ?_⟩) (by assumption) ?_
      · intro w' hS; go_simp; try with_reducible rfl
      try simp [Act.put]
      refine wpAnyH_take (i := 4) (v := (.pointer (some ⟨g, 3, none⟩))) rfl (by kernel_rfl) (by kernel_rfl) (by kernel_rfl) (fun _ _ _ h => h) (Or.inl ⟨by rfl, ?_⟩) (by assumption) ?_
      · intro w' hS; go_simp; try with_reducible rfl
      try simp [Act.put]
      refine wpAnyH_take (i := 5) (v := (.int .u64 (P.ba : Int))) rfl (by kernel_rfl) (by kernel_rfl) (by kernel_rfl) (fun _ _ _ h => h) (Or.inl ⟨by rfl, ?_⟩) (by assumption) ?_
      · intro w' hS
        have hcc := hS.2
        go_simp; try with_reducible rfl
      try simp [Act.put]
      refine wpAnyH_take (i := 6) (v := (.bool true)) rfl (by kernel_rfl) (by kernel_rfl) (by kernel_rfl) (fun _ _ _ h => h) (Or.inl ⟨by rfl, ?_⟩) (by assumption) ?_
      · intro w' hS
        have hxx := hx
        go_simp; try with_reducible rfl
      try simp [Act.put]
      refine wpAnyH_take (i := 7) (v := (.bool true)) rfl (by kernel_rfl) (by kernel_rfl) (by kernel_rfl) (fun _ _ _ h => h) (Or.inl ⟨by rfl, ?_⟩) (by assumption) ?_
      · intro w' hS; go_simp; try with_reducible rfl
      try simp [Act.put]
      refine wpAnyH_done (by kernel_rfl) ?_ _
      clear hHeld
      go_wp2_with fail
      have hbd := (Below.refl w8.heap.size w8).drew
      have h3 := H2.out.1.far hbd
      have s3 := H2.out.2.trans (step_below hbd)
      have hgm : gm < w.heap.size := hgm0
      have hwl : w.heap.size < w8.heap.size := hwl0
      have hd1 : w8.drew.cell? ⟨g, 1, none⟩ = some (.pointer (some ⟨gm, 0, none⟩)) := h3.pb.cell 1
      have hdq1 : w8.drew.cell? ⟨w.heap.size, 0, none⟩ = some (.int .i64 a) := (hbd.cell (p := ⟨w.heap.size, 0, none⟩) hwl).trans hdq0
      have hwl2 : w.heap.size < w8.drew.heap.size := Nat.lt_of_lt_of_le hwl hbd.size
      have HM := Lib.hid (mfree_any a ⟨hq.a0, hq.a1⟩ h3.map)
      have H3 := Lib.hid (And.intro h3 s3)
      clear h3 s3 hbd H2
      refine wp_region_held_drew (S := (fun w' => w'.cell? ⟨g, 1, none⟩ = some (.pointer (some ⟨gm, 0, none⟩)) ∧ w'.cell? ⟨w.heap.size, 0, none⟩ = some (.int .i64 a))) (by kernel_rfl) ⟨hd1, hdq1⟩ (fun hHeld => ?_)
      generalize w8.drew = w10 at *
      refine wpAnyH_take (i := 0) (v := (.pointer (some ⟨g, 0, none⟩))) rfl (by kernel_rfl) (by kernel_rfl) (by kernel_rfl) (fun _ _ _ h => h) (Or.inl ⟨by rfl, ?_⟩) (by assumption) ?_
      · intro w' hS; go_simp; try with_reducible rfl
      try simp [Act.put]
      refine wpAnyH_take (i := 1) (v := (.pointer (some ⟨g, 0, none⟩))) rfl (by kernel_rfl) (by kernel_rfl) (by kernel_rfl) (fun _ _ _ h => h) (Or.inl ⟨by rfl, ?_⟩) (by assumption) ?_
      · intro w' hS; go_simp; try with_reducible rfl
      try simp [Act.put]
      refine wpAnyH_take (i := 2) (v := (.pointer (some ⟨g, 1, none⟩))) rfl (by kernel_rfl) (by kernel_rfl) (by kernel_rfl) (fun _ _ _ h => h) (Or.inl ⟨by rfl, ?_⟩) (by assumption) ?_
      · intro w' hS; go_simp; try with_reducible rfl
      try simp [Act.put]
      refine wpAnyH_take (i := 3) (v := (.pointer (some ⟨gm, 0, none⟩))) rfl (by kernel_rfl) (by kernel_rfl) (by kernel_rfl) (fun _ _ _ h => h) (Or.inl ⟨by rfl, ?_⟩) (by assumption) ?_
      · intro w' hS
        have hcc := hS.1
        go_simp; try with_reducible rfl
      try simp [Act.put]
      refine wpAnyH_take (i := 4) (v := (.pointer (some ⟨w.heap.size, 0, none⟩))) rfl (by kernel_rfl) (by kernel_rfl) (by kernel_rfl) (fun _ _ _ h => h) (Or.inl ⟨by rfl, ?_⟩) (by assumption) ?_
      · intro w' hS; go_simp; try with_reducible rfl
      try simp [Act.put]
      refine wpAnyH_take (i := 5) (v := (.int .i64 a)) rfl (by kernel_rfl) (by kernel_rfl) (by kernel_rfl) (fun _ _ _ h => h) (Or.inl ⟨by rfl, ?_⟩) (by assumption) ?_
      · intro w' hS
        have hcc := hS.2
        go_simp; try with_reducible rfl
      try simp [Act.put]
      refine wpAnyH_ready (rs := [6]) (by kernel_rfl) (by simp) ?_
      refine AllReadyH.cons rfl (fun K hK => ?_) AllReadyH.nil
      go_simp
      refine Calls.mono (HM.out) ?_
      rintro e wX ⟨rfl, h9, s9⟩
      have H9 := Lib.hid (And.intro (H3.out.1.onMap h9 s9 (turnM_tot _ _ _ _)) (H3.out.2.trans (pstep_map hO s9)))
      have hdq2 : wX.cell? ⟨w.heap.size, 0, none⟩ = some (.int .i64 a) := (s9.chg.cell hwl2 (by show ¬ w.heap.size = gm; omega) 0).trans hdq1
      refine hK.out _ _ ⟨H9.out.1.pb.cell 1, hdq2⟩ (fun hHeld2 => ?_)
      clear hK K
      try simp
      clear hHeld
      have hHeld := hHeld2
      clear hHeld2
      refine wpAnyH_take (i := 7) (v := (.int .i64 (turnC P.m a 1 0))) rfl (by kernel_rfl) (by kernel_rfl) (by kernel_rfl) (fun _ _ _ h => h) (Or.inl ⟨by rfl, ?_⟩) (by assumption) ?_
      · intro w' hS; go_simp; try with_reducible rfl
      try simp [Act.put]
      refine wpAnyH_done (by kernel_rfl) ?_ _
      clear hHeld HM h9 s9 H3
      go_wp2_with fail
      go_ret
      exact ⟨rfl, H9.out.1, H9.out.2⟩
    · have hT : dropT P (a, b, c) = 2 := if_neg hx
      have e1 : dropC P (a, b, c) = turnC P.m a 1 2 := by unfold dropC; rw [if_neg hne, hT]
      have e2 : dropP P (a, b, c) = { P with m := turnM P.m a 1 2 } := by unfold dropP; rw [if_neg hne, hT]
      rw [e1, e2]
      clear e1 e2 hT hne
      go_enter Try.func10, Try.ntmps10
      go_wp2_with fail
      refine Calls.mono (HX.out _) ?_
      rintro e w7 ⟨rfl, hb7⟩
      go_wp2_with fail
      have hbd : Below (w.alloc (.cells #[.int .i64 a, .int .u64 b, .int .u32 c] 32)).heap.size (w.alloc (.cells #[.int .i64 a, .int .u64 b, .int .u32 c] 32)) w7.drew := hb7.trans ((Below.refl _ _).drew.mono hb7.size)
      have h2 := H1.out.1.far hbd
      have s2 := H1.out.2.trans (step_below hbd)
      have hd1 : w7.drew.cell? ⟨g, 1, none⟩ = some (.pointer (some ⟨gm, 0, none⟩)) := h2.pb.cell 1
      have hd3 : w7.drew.cell? ⟨g, 3, none⟩ = some (.int .u64 (P.ba : Int)) := h2.pb.cell 3
      have hdq : w7.drew.cell? ⟨w.heap.size, 1, none⟩ = some (.int .u64 b) := ((Blk.new w 32 #[.int .i64 a, .int .u64 b, .int .u32 c]).below hbd (by simp)).cell 1
      have hdq0 : w7.drew.cell? ⟨w.heap.size, 0, none⟩ = some (.int .i64 a) := ((Blk.new w 32 #[.int .i64 a, .int .u64 b, .int .u32 c]).below hbd (by simp)).cell 0
      have hgm0 : gm < w.heap.size := hgm
      have hwl0 : w.heap.size < w7.drew.heap.size := Nat.lt_of_lt_of_le (by simp) hbd.size
      have H2 := Lib.hid (And.intro h2 s2)
      clear h2 s2 hbd hb7 H1 HF HL hc1 hc3 hgm HX
      refine wp_region_held_drew (S := (fun w' => w'.cell? ⟨w.heap.size, 1, none⟩ = some (.int .u64 b) ∧ w'.cell? ⟨g, 3, none⟩ = some (.int .u64 (P.ba : Int)))) (by kernel_rfl) ⟨hdq, hd3⟩ (fun hHeld => ?_)
      generalize w7.drew = w8 at *
      refine wpAnyH_take (i := 0) (v := (.pointer (some ⟨w.heap.size, 1, none⟩))) rfl (by kernel_rfl) (by kernel_rfl) (by kernel_rfl) (fun _ _ _ h => h) (Or.inl ⟨by rfl, ?_⟩) (by assumption) ?_
      · intro w' hS; go_simp; try with_reducible rfl
      try simp [Act.put]
      refine wpAnyH_take (i := 1) (v := (.int .u64 b)) rfl (by kernel_rfl) (by kernel_rfl) (by kernel_rfl) (fun _ _ _ h => h) (Or.inl ⟨by rfl, ?_⟩) (by assumption) ?_
      · intro w' hS
        have hcc := hS.1
        go_simp; try with_reducible rfl
      try simp [Act.put]
      refine wpAnyH_take (i := 2) (v := (.pointer (some ⟨g, 0, none⟩))) rfl (by kernel_rfl) (by kernel_rfl) (by kernel_rfl) (fun _ _ _ h => h) (Or.inl ⟨by rfl, ?_⟩) (by assumption) ?_
      · intro w' hS; go_simp; try with_reducible rfl
      try simp [Act.put]
      refine wpAnyH_take (i := 3) (v := (.pointer (some ⟨g, 0, none⟩))) rfl (by kernel_rfl) (by kernel_rfl) (by kernel_rfl) (fun _ _ _ h => h) (Or.inl ⟨by rfl, ?_⟩) (by assumption) ?_
      · intro w' hS; go_simp; try with_reducible rfl
      try simp [Act.put]
      refine wpAnyH_take (i := 4) (v := (.pointer (some ⟨g, 3, none⟩))) rfl (by kernel_rfl) (by kernel_rfl) (by kernel_rfl) (fun _ _ _ h => h) (Or.inl ⟨by rfl, ?_⟩) (by assumption) ?_
      · intro w' hS; go_simp; try with_reducible rfl
      try simp [Act.put]
      refine wpAnyH_take (i := 5) (v := (.int .u64 (P.ba : Int))) rfl (by kernel_rfl) (by kernel_rfl) (by kernel_rfl) (fun _ _ _ h => h) (Or.inl ⟨by rfl, ?_⟩) (by assumption) ?_
      · intro w' hS
        have hcc := hS.2
        go_simp; try with_reducible rfl
      try simp [Act.put]
      refine wpAnyH_take (i := 6) (v := (.bool false)) rfl (by kernel_rfl) (by kernel_rfl) (by kernel_rfl) (fun _ _ _ h => h) (Or.inl ⟨by rfl, ?_⟩) (by assumption) ?_
      · intro w' hS
        have hxx := hx
        go_simp; try with_reducible rfl
      try simp [Act.put]
      refine wpAnyH_take (i := 7) (v := (.bool false)) rfl (by kernel_rfl) (by kernel_rfl) (by kernel_rfl) (fun _ _ _ h => h) (Or.inl ⟨by rfl, ?_⟩) (by assumption) ?_
      · intro w' hS; go_simp; try with_reducible rfl
      try simp [Act.put]
      refine wpAnyH_done (by kernel_rfl) ?_ _
      clear hHeld
      go_wp2_with fail
      have hbd := (Below.refl w8.heap.size w8).drew
      have h3 := H2.out.1.far hbd
      have s3 := H2.out.2.trans (step_below hbd)
      have hgm : gm < w.heap.size := hgm0
      have hwl : w.heap.size < w8.heap.size := hwl0
      have hd1 : w8.drew.cell? ⟨g, 1, none⟩ = some (.pointer (some ⟨gm, 0, none⟩)) := h3.pb.cell 1
      have hdq1 : w8.drew.cell? ⟨w.heap.size, 0, none⟩ = some (.int .i64 a) := (hbd.cell (p := ⟨w.heap.size, 0, none⟩) hwl).trans hdq0
      have hwl2 : w.heap.size < w8.drew.heap.size := Nat.lt_of_lt_of_le hwl hbd.size
      have HM := Lib.hid (mlater_any a ⟨hq.a0, hq.a1⟩ h3.map)
      have H3 := Lib.hid (And.intro h3 s3)
      clear h3 s3 hbd H2
      refine wp_region_held_drew (S := (fun w' => w'.cell? ⟨g, 1, none⟩ = some (.pointer (some ⟨gm, 0, none⟩)) ∧ w'.cell? ⟨w.heap.size, 0, none⟩ = some (.int .i64 a))) (by kernel_rfl) ⟨hd1, hdq1⟩ (fun hHeld => ?_)
      generalize w8.drew = w10 at *
      refine wpAnyH_take (i := 0) (v := (.pointer (some ⟨g, 0, none⟩))) rfl (by kernel_rfl) (by kernel_rfl) (by kernel_rfl) (fun _ _ _ h => h) (Or.inl ⟨by rfl, ?_⟩) (by assumption) ?_
      · intro w' hS; go_simp; try with_reducible rfl
      try simp [Act.put]
      refine wpAnyH_take (i := 1) (v := (.pointer (some ⟨g, 0, none⟩))) rfl (by kernel_rfl) (by kernel_rfl) (by kernel_rfl) (fun _ _ _ h => h) (Or.inl ⟨by rfl, ?_⟩) (by assumption) ?_
      · intro w' hS; go_simp; try with_reducible rfl
      try simp [Act.put]
      refine wpAnyH_take (i := 2) (v := (.pointer (some ⟨g, 1, none⟩))) rfl (by kernel_rfl) (by kernel_rfl) (by kernel_rfl) (fun _ _ _ h => h) (Or.inl ⟨by rfl, ?_⟩) (by assumption) ?_
      · intro w' hS; go_simp; try with_reducible rfl
      try simp [Act.put]
      refine wpAnyH_take (i := 3) (v := (.pointer (some ⟨gm, 0, none⟩))) rfl (by kernel_rfl) (by kernel_rfl) (by kernel_rfl) (fun _ _ _ h => h) (Or.inl ⟨by rfl, ?_⟩) (by assumption) ?_
      · intro w' hS
        have hcc := hS.1
        go_simp; try with_reducible rfl
      try simp [Act.put]
      refine wpAnyH_take (i := 4) (v := (.pointer (some ⟨w.heap.size, 0, none⟩))) rfl (by kernel_rfl) (by kernel_rfl) (by kernel_rfl) (fun _ _ _ h => h) (Or.inl ⟨by rfl, ?_⟩) (by assumption) ?_
      · intro w' hS; go_simp; try with_reducible rfl
      try simp [Act.put]
      refine wpAnyH_take (i := 5) (v := (.int .i64 a)) rfl (by kernel_rfl) (by kernel_rfl) (by kernel_rfl) (fun _ _ _ h => h) (Or.inl ⟨by rfl, ?_⟩) (by assumption) ?_
      · intro w' hS
        have hcc := hS.2
        go_simp; try with_reducible rfl
      try simp [Act.put]
      refine wpAnyH_ready (rs := [6]) (by kernel_rfl) (by simp) ?_
      refine AllReadyH.cons rfl (fun K hK => ?_) AllReadyH.nil
      go_simp
      refine Calls.mono (HM.out) ?_
      rintro e wX ⟨rfl, h9, s9⟩
      have H9 := Lib.hid (And.intro (H3.out.1.onMap h9 s9 (turnM_tot _ _ _ _)) (H3.out.2.trans (pstep_map hO s9)))
      have hdq2 : wX.cell? ⟨w.heap.size, 0, none⟩ = some (.int .i64 a) := (s9.chg.cell hwl2 (by show ¬ w.heap.size = gm; omega) 0).trans hdq1
      refine hK.out _ _ ⟨H9.out.1.pb.cell 1, hdq2⟩ (fun hHeld2 => ?_)
      clear hK K
      try simp
      clear hHeld
      have hHeld := hHeld2
      clear hHeld2
      refine wpAnyH_take (i := 7) (v := (.int .i64 (turnC P.m a 1 2))) rfl (by kernel_rfl) (by kernel_rfl) (by kernel_rfl) (fun _ _ _ h => h) (Or.inl ⟨by rfl, ?_⟩) (by assumption) ?_
      · intro w' hS; go_simp; try with_reducible rfl
      try simp [Act.put]
      refine wpAnyH_done (by kernel_rfl) ?_ _
      clear hHeld HM h9 s9 H3
      go_wp2_with fail
      go_ret
      exact ⟨rfl, H9.out.1, H9.out.2⟩
  · have he := holeF_iff.1 hh
    rw [he, (drop_hole P).1, (drop_hole P).2]
    have HX : Hid (∀ w, Calls Try.prog 24 #[ptv a b c] w fun e w' => e = .returned (.bool true) ∧ Below w.heap.size w w') := Lib.hid (fun w => by rw [← hh]; exact phole_any a b c w)
    clear hh he HF HL
    go_enter Try.func10, Try.ntmps10
    go_wp2_with fail
    refine Calls.mono (HX.out _) ?_
    rintro e w7 ⟨rfl, hb7⟩
    go_wp2_with fail
    go_ret
    exact ⟨rfl, H1.out.1.far hb7, H1.out.2.trans (step_below hb7)⟩
end
end Go.Proofs.Ytddhacmaogaocaa
