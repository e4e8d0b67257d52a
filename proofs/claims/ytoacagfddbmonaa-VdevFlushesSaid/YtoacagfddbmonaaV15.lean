/- Walks: VdevKeeps. -/
import Derived.Test.YtoacagfddbmonaaV14
namespace Go.Proofs.Ytoacagfddbmonaa
open Go.RowKit
theorem ex_bslS {o : Oper} {a : Act} {w : World} (y : Operand) (ho : o.op = .buildSlice 30 1 #[(0, y)]) (s : Sec) (hy : a.eval y = .agg s.cs.toArray) :
    (execOp a.eval o).run Try.prog w = .ok (.value (.slice (some ⟨w.heap.size, 0, none⟩) 1 1)) (w.alloc (.cells s.cs.toArray 29)) := by
  have hb := run_bsl1 Try.underlying30 infoSec (by omega) (by omega) s.cs s.cs_len (.agg s.cs.toArray) rfl w
  unfold execOp
  simp only [ho, List.map_toArray, List.map_cons, List.map_nil, hy, hb, Sem.run_bind, Sem.run_pure, Result.andThen_ok]
/-- append(l, y): one sector more. -/
theorem app_sec {ops : Array Oper} {rest : List Oper} {o : Oper} {a : Act} {w : World} {Q : Exit → Act → World → Prop} (hgd : o.guard = none) (s x : Operand)
    (ho : o.op = .call { callee := .builtin .append, args := #[s, x], argTypes := #[30, 30] }) (base : Nat) (v : Value) (l : List Sec) (y : Sec) (hs : a.eval s = v)
    (hown : w.ownsRow base 29 128 v l.length (flat l)) (hx : a.eval x = .slice (some ⟨w.heap.size, 0, none⟩) 1 1) (hbase : base ≤ w.heap.size) (hl : l.length ≤ 1000000)
    (h : ∀ g cap w', Hid (w'.ownsRow base 29 128 (.slice (some ⟨g, 0, none⟩) (l.length + 1) cap) (l ++ [y]).length (flat (l ++ [y]))) → Hid (Chg w w' (fun k => v.ownBlock = some k)) → Hid (v.ownBlock = some g ∨ w.heap.size ≤ g) →
      wpList Try.prog ops Q rest (a.put o.dst (.slice (some ⟨g, 0, none⟩) (l.length + 1) cap)) w') : wpList Try.prog ops Q (o :: rest) a (w.alloc (.cells y.cs.toArray 29)) := by
  obtain ⟨i0, hi0, hz0, hz1, hz2⟩ := info_parts infoSec
  have hzs : (Value.agg zsec.cs.toArray).cells.size = 128 := by
    show zsec.cs.toArray.size = 128
    rw [List.size_toArray, Sec.cs_len]
  refine wpList_append_lies _ hgd s x _ ho base 29 i0 _ 128 128 Try.underlying30 hi0 hz0 hz1 hz2 hzs (by omega) v l.length (flat l) hs (World.ownsRow.alloc hown _)
    ⟨w.heap.size, 0, none⟩ 1 1 y.cs hx (by rw [Sec.cs_len]) (World.news_of_block (heap_alloc_new w (.cells y.cs.toArray 29))) y.one (by omega) (by simp only [maxLen]; omega) (by omega) (by simp; omega) _ rfl ?_
  intro g cap w' h1 h2 h3 _
  refine h g cap w' ?_ (((Chg.refl _ _).alloc _).grown h2 fun _ hk => .inl hk) ?_
  · rw [flat_snoc, List.length_append, List.length_singleton]
    exact h1
  · rcases h3 with h3 | h3
    · exact .inl h3
    · exact .inr (by simp at h3; omega)
theorem own_secs {w : World} {base g cap n : Nat} {e : TypeId} {l : List Sec} (h : w.ownsRow base e 128 (.slice (some ⟨g, 0, none⟩) n cap) n (flat l)) (i : Nat) (y : Sec) (hy : l[i]? = some y) : w.rangeAt g (i * 128) y.cs := fun j v hj => by
  obtain ⟨hi, rfl⟩ := List.getElem?_eq_some_iff.1 hy
  have hj' : j < 128 := by have := (List.getElem?_eq_some_iff.1 hj).1; rwa [Sec.cs_len] at this
  have hn : l.length = n := by have := h.1; rw [flat_len] at this; omega
  rw [h.cellAt _ (by omega), flat_at l i hi j hj']
  exact hj
theorem zs8' (at_ : Nat) (h : at_ < 8) : (newSt 8).st.getD at_ zsec = zsec := zs8 at_ h
theorem since_last : ∀ (l : List Sec), l ≠ [] → ∃ m y, l.length = m + 1 ∧ l[m]? = some y ∧ l.getLast? = some y := fun l h => by
  obtain ⟨init, y, rfl⟩ : ∃ init y, l = init ++ [y] := ⟨l.dropLast, l.getLast h, (List.dropLast_concat_getLast h).symm⟩
  exact ⟨init.length, y, by simp, by simp, by simp⟩
theorem infoBool : (Try.prog.info? 4).map (fun i => (i.zero, i.size, i.bytes)) = some (some (.bool false), 1, 1) := by kernel_rfl
/-- append([]bool{}, l...): a copy of bools, in new memory. -/
theorem app_keep {ops : Array Oper} {rest : List Oper} {o : Oper} {a : Act} {w : World} {Q : Exit → Act → World → Prop} (hgd : o.guard = none) (s x : Nat)
    (ho : o.op = .call { callee := .builtin .append, args := #[.tmp s, .tmp x], argTypes := #[27, 27] })
    (hs : a.eval (.tmp s) = .slice (some ⟨w.heap.size, 0, none⟩) 0 0) (B : Nat) (A : Option Addr) (c : Nat) (ks : List Bool)
    (hx : a.eval (.tmp x) = .slice A ks.length c) (hr : Rd w B A (ks.map Value.bool)) (hn : ks.length ≤ 140737488355328)
    (h : ∀ A' c' w', Hid (0 < ks.length → ∃ b off, A' = some ⟨b, off, none⟩ ∧ w.heap.size ≤ b ∧ b < w'.heap.size ∧ ∀ j (h : j < ks.length), w'.cell? ⟨b, off + j, none⟩ = some (.bool ks[j])) → Hid (Below w.heap.size w w') →
      wpList Try.prog ops Q rest (a.put o.dst (.slice A' ks.length c')) w') :
    wpList Try.prog ops Q (o :: rest) a (w.alloc (.cells #[] 4)) := by
  have hE : (w.alloc (.cells #[] 4)).ownsRow w.heap.size 4 1 (.slice (some ⟨w.heap.size, 0, none⟩) 0 0) 0 [] := World.ownsRow_lit (base := w.heap.size) (e := 4) (size := 1) w #[] 0 (Nat.le_refl _) (by simp [maxLen]) rfl
  have hr2 : Rd (w.alloc (.cells #[] 4)) B A (ks.map Value.bool) := fun hp => by
    obtain ⟨b, off, e, hl, hc⟩ := hr hp
    refine ⟨b, off, e, hl, fun j v hv => ?_⟩
    have := hc j v hv
    rw [World.cell?_alloc_lt _ _ _ (World.block_lt_of_cell? w _ this)]
    exact this
  refine app_all Try.underlying27 infoBool rfl hgd s x ho w.heap.size _ 0 [] hs hE B A ks.length c _ hx (by rw [List.length_map]) hr2 (fun u hu => by
    obtain ⟨b, _, rfl⟩ := List.mem_map.1 hu
    rfl) (by simp) (by omega) (by omega) ?_
  intro v' w' h1 h2
  simp only [Nat.zero_add, List.nil_append] at h1
  have hb := below_own ((Below.refl _ _).alloc (Nat.le_refl _) _) hE (Nat.le_refl _) (by simp) h2
  rcases h1.2 with ⟨rfl, h0⟩ | ⟨g, cap, cur, rfl, hbg, _⟩
  · rw [show Value.slice none 0 0 = Value.slice none ks.length 0 from by rw [h0]]
    exact h none 0 w' (fun hp => by omega) hb
  · refine h (some ⟨g, 0, none⟩) cap w' (fun hp => ⟨g, 0, rfl, hbg, (h1.lt g rfl).2, fun j hj => ?_⟩) hb
    rw [Nat.zero_add, h1.cellAt j (by omega)]
    simp [hj]
/-- Is it what was flushed, or one of the first m writes since? -/
def okF (X flushed : Sec) (since : List Sec) (m : Nat) : Bool := X.same flushed || (since.take m).any X.same
theorem okF_succ (X flushed : Sec) (since : List Sec) (m : Nat) (h : m < since.length) : okF X flushed since (m + 1) = (okF X flushed since m || X.same since[m]) := by
  unfold okF
  rw [List.take_succ_eq_append_getElem h, List.any_append, Bool.or_assoc]
  simp
theorem okF_all (X flushed : Sec) (since : List Sec) (m : Nat) (h : since.length ≤ m) (hX : X = flushed ∨ X ∈ since) : okF X flushed since m = true := by
  unfold okF
  rw [List.take_of_length_le h, Bool.or_eq_true]
  rcases hX with rfl | hX
  · exact .inl X.same_self
  · exact .inr (List.any_eq_true.2 ⟨X, hX, X.same_self⟩)
/-- The law's own: what was flushed lies in gf; the writes since in a row of its own. -/
structure Own2 (w : World) (B : Nat) (D : Dev) (gf : Nat) (flushed : Sec) (v : Value) (since : List Sec) : Prop where
  fl : Blk w gf 29 flushed.cs.toArray
  row : w.ownsRow B 29 128 v since.length (flat since)
  ff : gf ≠ D.gs ∧ gf ≠ D.gn
  fs : ∀ b, v.ownBlock = some b → b ≠ D.gs ∧ b ≠ D.gn ∧ b ≠ gf
section
variable {w w' : World} {B B' n gf : Nat} {D : Dev} {pv v : Value} {s : St} {flushed : Sec} {since : List Sec} {O : Nat → Prop}
theorem Own2.far (h : Own2 w B D gf flushed v since) (hA : At w B' n D pv s) : ∀ b, v.ownBlock = some b → ¬ D.own pv b := fun b hb => by
  obtain ⟨cs, hc⟩ := own_blk h.row hb
  exact hA.far hc (by decide) (by decide) fun _ => ⟨(h.fs b hb).1, (h.fs b hb).2.1⟩
theorem At.farf (hA : At w B' n D pv s) (h : Own2 w B D gf flushed v since) : ¬ D.own pv gf := hA.far h.fl (by decide) (by decide) fun _ => h.ff
theorem Own2.chg (h : Own2 w B D gf flushed v since) (c : Chg w w' O) (h1 : ∀ b, v.ownBlock = some b → ¬ O b) (h2 : ¬ O gf) : Own2 w' B D gf flushed v since :=
  { h with
    fl := h.fl.chg c h2
    row := own_chg h.row c h1 }
theorem Own2.new_far (h : Own2 w B D gf flushed v since) : ¬ v.ownBlock = some w.heap.size := fun e => by have := (h.row.lt _ e).2; omega
theorem Own2.snoc {g cap : Nat} {y : Sec} (h : Own2 w B D gf flushed v since) (hA : At w B' n D pv s) (ho : w'.ownsRow B 29 128 (.slice (some ⟨g, 0, none⟩) (since.length + 1) cap) (since ++ [y]).length (flat (since ++ [y])))
    (c : Chg w w' (fun k => v.ownBlock = some k)) (hg : v.ownBlock = some g ∨ w.heap.size ≤ g) : Own2 w' B D gf flushed (.slice (some ⟨g, 0, none⟩) (since.length + 1) cap) (since ++ [y]) :=
  { fl := h.fl.chg c fun e => (h.fs gf e).2.2 rfl
    row := ho
    ff := h.ff
    fs := fun b hb => by
      simp only [Value.ownBlock, Option.some.injEq] at hb
      subst hb
      rcases hg with hg | hg
      · exact h.fs g hg
      · have h1 := hA.st.lt
        have h2 := hA.nw.lt
        have h3 := h.fl.lt
        exact ⟨by omega, by omega, by omega⟩ }
end
/-- What VdevKeeps keeps up, round by round. -/
def KI (w wr : World) (B at_ gf : Nat) (D : Dev) (v : Value) (k : Nat) : Prop := ∃ (s : St) (pv : Value) (flushed : Sec) (since : List Sec), At wr B 8 D pv s ∧ Own2 wr w.heap.size D gf flushed v since ∧ Below w.heap.size w wr ∧
  s.st.getD at_ zsec = flushed ∧ sinceF at_ s.pend = since ∧ s.pend.length ≤ k ∧ since.length ≤ k
section
variable (A : Option Addr) (c : Nat) (l : List Deed) (A' : Option Addr) (c' : Nat) (ks : List Bool) (w : World) (hs : Rd w w.heap.size A (flatD l)) (ht : Rd w w.heap.size A' (ks.map Value.bool)) (hkl : ks.length ≤ 140737488351232)
theorem keeps_out (at_ : Int) (h : (200 : Int) < l.length ∨ at_ < 0 ∨ 7 < at_) :
    Calls Try.prog 4 #[.slice A l.length c, .slice A' ks.length c', .int .i64 at_] w fun e w' => e = .returned (.bool true) ∧ Below w.heap.size w w' := by
  have H := Lib.hid h; clear h
  go_enter Try.func4, Try.ntmps4
  go_wp2_with fail
  refine (alive_any _).mono ?_
  rintro e w1 ⟨rfl, hb1⟩
  have HB1 := Lib.hid hb1; clear hb1
  go_wp2_with fail
  refine (new_any 8 _).mono ?_
  rintro e w2 ⟨D, rfl, hA, hb⟩
  rw [many8] at hA
  have hA2 := Lib.hid hA
  have HB2 := Lib.hid (HB1.out.trans (hb.mono HB1.out.size))
  have HBB := Lib.hid HB1.out.size
  clear hA hb HB1
  clear hA2
  by_cases h1 : (200 : Int) < l.length
  · go_wp2_with fail
    go_ret
    exact ⟨rfl, HB2.out⟩
  · by_cases h2 : at_ < 0
    · go_wp2_with fail
      go_ret
      exact ⟨rfl, HB2.out⟩
    · have h3 : 7 < at_ := by rcases H.out with h | h | h <;> omega
      go_wp2_with fail
      go_ret
      exact ⟨rfl, HB2.out⟩
include hs ht hkl
set_option maxRecDepth 10000 in
set_option maxHeartbeats 4000000 in
theorem keeps_in (at_ : Nat) (hl : (l.length : Int) ≤ 200) (h0 : (0 : Int) ≤ at_) (h7 : (at_ : Int) ≤ 7) :
    Calls Try.prog 4 #[.slice A l.length c, .slice A' ks.length c', .int .i64 (at_ : Int)] w fun e w' => e = .returned (.bool true) ∧ Below w.heap.size w w' := by
  have HS := Lib.hid hs; clear hs
  have HT := Lib.hid ht; clear ht
  have HKL := Lib.hid hkl; clear hkl
  have hz : ∀ w, Sem.run Try.prog (zeroValue 29) w = .ok (.agg zsec.cs.toArray) w := zeroSec
  have hza : ∀ w, Sem.run Try.prog (zeroValue 32) w = .ok (.agg zdeed.cs.toArray) w := zeroAct
  go_enter Try.func4, Try.ntmps4
  go_wp2_with fail
  refine (alive_any _).mono ?_
  rintro e w1 ⟨rfl, hb1⟩
  have HB1 := Lib.hid hb1; clear hb1
  go_wp2_with fail
  refine (new_any 8 _).mono ?_
  rintro e w2 ⟨D, rfl, hA, hb⟩
  rw [many8] at hA
  have hA2 := Lib.hid hA
  have HB2 := Lib.hid (HB1.out.trans (hb.mono HB1.out.size))
  have HBB := Lib.hid HB1.out.size
  clear hA hb HB1
  have hn : Hid (Blk (w2.alloc (.cells zsec.cs.toArray 29)) w2.heap.size 29 zsec.cs.toArray) := Blk.new _ _ _
  go_wp2_with (first
    | (refine wpList_val (by rfl) _ (ex_build0 rfl) ?_)
    | (with_reducible refine st_sec rfl _ _ rfl w2.heap.size 0 zsec rfl rfl hn.out.secHas ?_; intro w3 hw3))
  have hc3 : Chg w2 w3 (fun _ => False) := by rw [hw3.out]; exact chg_new _ _ _ _ _ rfl
  have hb3 : Hid (Blk w3 w2.heap.size 29 zsec.cs.toArray) := by
    have h := hn.out.secAll zsec
    rwa [← hw3.out] at h
  have hA3 := Lib.hid (hA2.out.chg hc3 fun _ _ h => h)
  have HB3 := Lib.hid (HB2.out.trans (hc3.below (fun _ h => h.elim) HB2.out.size))
  have hfar := Lib.hid hA2.out.new_far
  have hS4 : Hid (Own2 (w3.alloc (.cells #[] 29)) w.heap.size D w2.heap.size zsec (.slice (some ⟨w3.heap.size, 0, none⟩) 0 0) []) :=
    { fl := hb3.out.chg (O := fun _ => False) ((Chg.refl _ _).alloc _) id
      row := World.ownsRow_lit (base := w.heap.size) (e := 29) (size := 128) w3 #[] 0 HB3.out.size (by simp [maxLen]) rfl
      ff := ⟨fun e => hfar.out (.inr (.inl e)), fun e => hfar.out (.inr (.inr (.inl e)))⟩
      fs := fun b hb => by
        simp only [Value.ownBlock, Option.some.injEq] at hb
        subst hb
        have h1 := hA3.out.st.lt
        have h2 := hA3.out.nw.lt
        have h3 := hb3.out.lt
        exact ⟨by omega, by omega, by omega⟩ }
  have hA4 := Lib.hid (hA3.out.alloc (.cells #[] 29))
  have HB4 := Lib.hid (HB3.out.alloc HB3.out.size (.cells #[] 29))
  have HGF := Lib.hid HB2.out.size
  generalize w1.heap.size = B at *
  clear hw3 hn hA2 HB2 hc3 hfar hb3 hA3 HB3
  generalize w2.heap.size = gf at *
  go_wp2_with fail
  go_loopw [9, 40] (fun v i wr => ∃ (k : Nat), k ≤ l.length ∧ i = .int .i64 k ∧ KI w wr B at_ gf D v k) (fun _ i _ => l.length - (intOf i).toNat)
  case atStart => exact ⟨0, by omega, rfl, ⟨_, _, _, [], hA4.out, hS4.out, HB4.out, zs8' at_ (by omega), rfl, Nat.le_refl _, Nat.le_refl _⟩⟩
  case round =>
    clear hA4 HB4 hS4
    obtain ⟨k, hk, rfl, hR⟩ := hrel
    have HR := Lib.hid hR
    clear hR
    by_cases hlt : k < l.length
    · have HL := Lib.hid hlt
      have hki : (k : Int) < l.length := by omega
      obtain ⟨b, off, rfl, hbB, hrg⟩ := rd_deed HS.out k hlt
      have hrg := Lib.hid hrg
      generalize l[k] = d at *
      obtain ⟨s, pv, flushed, since, hA0, hS0, hB0, hfl0, hsi0, hpl0, hsl0⟩ := HR.out
      obtain ⟨A2, c2, rfl, hA2r⟩ := own_rd hS0.row
      have hA := Lib.hid hA0; have hB := Lib.hid hB0; have hS := Lib.hid hS0; have hfl := Lib.hid hfl0; have hsi := Lib.hid hsi0; have hpl := Lib.hid hpl0; have hsl := Lib.hid hsl0
      clear hA0 hS0 hB0 hfl0 hsi0 hpl0 hsl0 hA2r
      have hgB : Hid (w.heap.size ≤ gf) := HGF.out
      have hgf : Hid (gf ≠ wr.heap.size) := Nat.ne_of_lt hS.out.fl.lt
      clear HR
      have hrg2 : Hid (wr.rangeAt b (off + k * 131) d.cs) := fun j v hv => (hB.out.cell (p := ⟨b, off + k * 131 + j, none⟩) hbB).trans (hrg.out j v hv)
      clear hrg
      have hn : Hid (Blk (wr.alloc (.cells zdeed.cs.toArray 32)) wr.heap.size 32 zdeed.cs.toArray) := Blk.new _ _ _
      have hact : ∀ w3, Hid (Hid (w3 = (wr.alloc (.cells zdeed.cs.toArray 32)).setCells wr.heap.size 0 d.cs) → w3.cell? ⟨wr.heap.size, 0, none⟩ = some (.int .i64 d.kind) ∧ w3.cell? ⟨wr.heap.size, 1, none⟩ = some (.int .i64 d.at_) ∧ Hid (w3.rangeAt wr.heap.size 2 d.data.cs)) := fun w3 hw => by
        have h := hn.out.actAll d
        rw [← hw.out] at h
        exact ⟨h.actKind, h.actAt, h.actData⟩
      have hln : Hid (s.st.length = 8) := hA.out.ls
      by_cases hkd : d.kind = 1
      · have hkd : Hid (d.kind = 1) := hkd
        by_cases hh : hasF 8 d.at_ = true
        · have hh2 := Lib.hid (has8.1 hh)
          have hh := Lib.hid hh
          by_cases hr : s.count.refuse.dead = true
          · have hr := Lib.hid hr
            go_wp2_with (first
              | (with_reducible refine ld_act rfl _ rfl b (off + k * 131) d rfl hrg2.out ?_)
              | (with_reducible refine st_act rfl _ _ rfl wr.heap.size 0 d rfl rfl hn.out.actHas ?_; intro w3 hw3; obtain ⟨hk3, hat3, hdt3⟩ := (hact w3).out hw3; rw [hkd.out] at hk3)
              | (refine wpList_val (by rfl) _ (ex_ld (.tmp 51) rfl wr.heap.size 2 d.data rfl hdt3.out) ?_))
            have hb3 : Hid (Blk w3 wr.heap.size 32 d.cs.toArray) := by
              have h := hn.out.actAll d
              rwa [← hw3.out] at h
            have hc3 : Chg wr w3 (fun _ => False) := by rw [hw3.out]; exact chg_new _ _ _ _ _ rfl
            have hA3 := Lib.hid (hA.out.chg hc3 fun _ _ h => h)
            have hS3 := Lib.hid (hS.out.chg hc3 (fun _ _ h => h) (fun h => h))
            have hB3 := Lib.hid (hB.out.trans (hc3.below (fun _ h => h.elim) hB.out.size))
            have hga := Lib.hid hA.out.new_far
            have hgs := Lib.hid hS.out.new_far
            clear hw3 hc3 hrg2 hn hact hA hB hS
            generalize wr.heap.size = ga at *
            refine (write_any hA3.out d.at_ d.data (by have := hpl.out; have := HL.out; omega)).mono ?_
            rintro e w4 ⟨pv4, rfl, hA4, hG4⟩
            rw [St.write, if_pos hh.out, if_pos hr.out] at hA4 ⊢
            dsimp only at hA4 ⊢
            have hb4 : Hid (Blk w4 ga 32 d.cs.toArray) := hb3.out.chg hG4.chg hga.out
            have hS4 := Lib.hid (hS3.out.chg hG4.chg (hS3.out.far hA3.out) (hA3.out.farf hS3.out))
            have hB4 := Lib.hid (hB3.out.trans (hG4.chg.below (fun k hk => Nat.le_trans HBB.out (hA3.out.ge k hk)) hB3.out.size))
            have hA4 := Lib.hid hA4
            have hk4 := hb4.out.actKind
            have hat4 := hb4.out.actAt
            have hdt4 := Lib.hid hb4.out.actData
            rw [hkd.out] at hk4
            clear hk3 hat3 hdt3 hb3 hS3 hB3 hA3 hga hG4
            go_wp2_with fail
            go_roundw
            case rel =>
              have hpl := hpl.out
              have hsl := hsl.out
              have hrf := refuse_st s.count
              exact ⟨k + 1, by omega, by go_num, ⟨_, pv4, flushed, since, hA4.out, hS4.out, hB4.out, by rw [hrf.1]; exact hfl.out, by rw [hrf.2.2.1]; exact hsi.out, by rw [hrf.2.2.1]; show s.pend.length ≤ _; omega, by omega⟩⟩
            case measure =>
              have := HL.out
              simp [intOf]
              omega
          · have hr := Lib.hid hr
            by_cases hea : d.at_ = (at_ : Int)
            · have hea3 := Lib.hid hea
              have hea2 : (d.at_ == (at_ : Int)) = true := by rw [beq_iff_eq]; exact hea
              clear hea
              go_wp2_with (first
                | (with_reducible refine ld_act rfl _ rfl b (off + k * 131) d rfl hrg2.out ?_)
                | (with_reducible refine st_act rfl _ _ rfl wr.heap.size 0 d rfl rfl hn.out.actHas ?_; intro w3 hw3; obtain ⟨hk3, hat3, hdt3⟩ := (hact w3).out hw3; rw [hkd.out] at hk3)
                | (refine wpList_val (by rfl) _ (ex_ld (.tmp 51) rfl wr.heap.size 2 d.data rfl hdt3.out) ?_))
              have hb3 : Hid (Blk w3 wr.heap.size 32 d.cs.toArray) := by
                have h := hn.out.actAll d
                rwa [← hw3.out] at h
              have hc3 : Chg wr w3 (fun _ => False) := by rw [hw3.out]; exact chg_new _ _ _ _ _ rfl
              have hA3 := Lib.hid (hA.out.chg hc3 fun _ _ h => h)
              have hS3 := Lib.hid (hS.out.chg hc3 (fun _ _ h => h) (fun h => h))
              have hB3 := Lib.hid (hB.out.trans (hc3.below (fun _ h => h.elim) hB.out.size))
              have hga := Lib.hid hA.out.new_far
              have hgs := Lib.hid hS.out.new_far
              clear hw3 hc3 hrg2 hn hact hA hB hS
              generalize wr.heap.size = ga at *
              refine (write_any hA3.out d.at_ d.data (by have := hpl.out; have := HL.out; omega)).mono ?_
              rintro e w4 ⟨pv4, rfl, hA4, hG4⟩
              rw [St.write, if_pos hh.out, if_neg hr.out] at hA4 ⊢
              dsimp only at hA4 ⊢
              have hb4 : Hid (Blk w4 ga 32 d.cs.toArray) := hb3.out.chg hG4.chg hga.out
              have hS4 := Lib.hid (hS3.out.chg hG4.chg (hS3.out.far hA3.out) (hA3.out.farf hS3.out))
              have hB4 := Lib.hid (hB3.out.trans (hG4.chg.below (fun k hk => Nat.le_trans HBB.out (hA3.out.ge k hk)) hB3.out.size))
              have hA4 := Lib.hid hA4
              have hk4 := hb4.out.actKind
              have hat4 := hb4.out.actAt
              have hdt4 := Lib.hid hb4.out.actData
              rw [hkd.out] at hk4
              clear hk3 hat3 hdt3 hb3 hS3 hB3 hA3 hga hG4
              have hnx : Hid (∀ y : Sec, Blk (w4.alloc (.cells y.cs.toArray 29)) w4.heap.size 29 y.cs.toArray) := fun y => Blk.new _ _ _
              have hslm : Hid (since.length ≤ 1000000) := by have := hsl.out; have := HL.out; show _ ≤ _; omega
              have hbase : Hid (w.heap.size ≤ w4.heap.size) := hB4.out.size
              have hown4 := Lib.hid hS4.out.row
              have hact5 : ∀ w5, Hid (Hid (Chg w4 w5 (fun k => (Value.slice A2 since.length c2).ownBlock = some k)) → w5.cell? ⟨ga, 0, none⟩ = some (.int .i64 d.kind)) := fun w5 hc => (hb4.out.chg hc.out (fun e => hgs.out e)).actKind
              go_wp2_with (first
                | (with_reducible refine ld_sec rfl _ rfl ga 2 d.data rfl hdt4.out ?_)
                | (refine wpList_val (by rfl) _ (ex_bslS (.tmp 64) rfl d.data rfl) ?_)
                | (refine app_sec rfl (.tmp 62) (.tmp 65) rfl w.heap.size (.slice A2 since.length c2) since d.data rfl hown4.out rfl hbase.out hslm.out ?_; intro g5 cap5 w5 ho5 hc5 hg5; have hk5 := (hact5 w5).out hc5; rw [hkd.out] at hk5))
              have hO5 : ∀ k, D.own pv4 k → ¬ (Value.slice A2 since.length c2).ownBlock = some k := fun k hk e => hS4.out.far hA4.out k e hk
              have hA5 := Lib.hid (hA4.out.chg hc5.out hO5)
              have hS5 := Lib.hid (hS4.out.snoc hA4.out ho5.out hc5.out hg5.out)
              have hB5 := Lib.hid (hB4.out.trans (hc5.out.below (fun k hk => (hS4.out.row.lt k hk).1) hB4.out.size))
              go_roundw
              case rel =>
                have hpl := hpl.out
                have hsl := hsl.out
                have hrf := refuse_st s.count
                exact ⟨k + 1, by omega, by go_num, ⟨_, pv4, flushed, since ++ [d.data], hA5.out, hS5.out, hB5.out, by show s.count.refuse.st.getD at_ zsec = _; rw [hrf.1]; exact hfl.out, by show sinceF at_ (s.pend ++ [(d.at_.toNat, d.data)]) = _; rw [since_snoc, if_pos (by have := hh2.out; have := hea3.out; omega), hsi.out], by show (s.pend ++ [_]).length ≤ _; rw [List.length_append, List.length_singleton]; omega, by rw [List.length_append, List.length_singleton]; omega⟩⟩
              case measure =>
                have := HL.out
                simp [intOf]
                omega
            · have hea3 := Lib.hid hea
              have hea2 : (d.at_ == (at_ : Int)) = false := by rw [beq_eq_false_iff_ne]; exact hea
              clear hea
              go_wp2_with (first
                | (with_reducible refine ld_act rfl _ rfl b (off + k * 131) d rfl hrg2.out ?_)
                | (with_reducible refine st_act rfl _ _ rfl wr.heap.size 0 d rfl rfl hn.out.actHas ?_; intro w3 hw3; obtain ⟨hk3, hat3, hdt3⟩ := (hact w3).out hw3; rw [hkd.out] at hk3)
                | (refine wpList_val (by rfl) _ (ex_ld (.tmp 51) rfl wr.heap.size 2 d.data rfl hdt3.out) ?_))
              have hb3 : Hid (Blk w3 wr.heap.size 32 d.cs.toArray) := by
                have h := hn.out.actAll d
                rwa [← hw3.out] at h
              have hc3 : Chg wr w3 (fun _ => False) := by rw [hw3.out]; exact chg_new _ _ _ _ _ rfl
              have hA3 := Lib.hid (hA.out.chg hc3 fun _ _ h => h)
              have hS3 := Lib.hid (hS.out.chg hc3 (fun _ _ h => h) (fun h => h))
              have hB3 := Lib.hid (hB.out.trans (hc3.below (fun _ h => h.elim) hB.out.size))
              have hga := Lib.hid hA.out.new_far
              have hgs := Lib.hid hS.out.new_far
              clear hw3 hc3 hrg2 hn hact hA hB hS
              generalize wr.heap.size = ga at *
              refine (write_any hA3.out d.at_ d.data (by have := hpl.out; have := HL.out; omega)).mono ?_
              rintro e w4 ⟨pv4, rfl, hA4, hG4⟩
              rw [St.write, if_pos hh.out, if_neg hr.out] at hA4 ⊢
              dsimp only at hA4 ⊢
              have hb4 : Hid (Blk w4 ga 32 d.cs.toArray) := hb3.out.chg hG4.chg hga.out
              have hS4 := Lib.hid (hS3.out.chg hG4.chg (hS3.out.far hA3.out) (hA3.out.farf hS3.out))
              have hB4 := Lib.hid (hB3.out.trans (hG4.chg.below (fun k hk => Nat.le_trans HBB.out (hA3.out.ge k hk)) hB3.out.size))
              have hA4 := Lib.hid hA4
              have hk4 := hb4.out.actKind
              have hat4 := hb4.out.actAt
              have hdt4 := Lib.hid hb4.out.actData
              rw [hkd.out] at hk4
              clear hk3 hat3 hdt3 hb3 hS3 hB3 hA3 hga hG4
              go_wp2_with fail
              go_roundw
              case rel =>
                have hpl := hpl.out
                have hsl := hsl.out
                have hrf := refuse_st s.count
                exact ⟨k + 1, by omega, by go_num, ⟨_, pv4, flushed, since, hA4.out, hS4.out, hB4.out, by show s.count.refuse.st.getD at_ zsec = _; rw [hrf.1]; exact hfl.out, by show sinceF at_ (s.pend ++ [(d.at_.toNat, d.data)]) = _; rw [since_snoc, if_neg (by have := hh2.out; have := hea3.out; omega)]; exact hsi.out, by show (s.pend ++ [_]).length ≤ _; rw [List.length_append, List.length_singleton]; omega, by omega⟩⟩
              case measure =>
                have := HL.out
                simp [intOf]
                omega
        · have hh := Lib.hid hh
          go_wp2_with (first
            | (with_reducible refine ld_act rfl _ rfl b (off + k * 131) d rfl hrg2.out ?_)
            | (with_reducible refine st_act rfl _ _ rfl wr.heap.size 0 d rfl rfl hn.out.actHas ?_; intro w3 hw3; obtain ⟨hk3, hat3, hdt3⟩ := (hact w3).out hw3; rw [hkd.out] at hk3)
            | (refine wpList_val (by rfl) _ (ex_ld (.tmp 51) rfl wr.heap.size 2 d.data rfl hdt3.out) ?_))
          have hb3 : Hid (Blk w3 wr.heap.size 32 d.cs.toArray) := by
            have h := hn.out.actAll d
            rwa [← hw3.out] at h
          have hc3 : Chg wr w3 (fun _ => False) := by rw [hw3.out]; exact chg_new _ _ _ _ _ rfl
          have hA3 := Lib.hid (hA.out.chg hc3 fun _ _ h => h)
          have hS3 := Lib.hid (hS.out.chg hc3 (fun _ _ h => h) (fun h => h))
          have hB3 := Lib.hid (hB.out.trans (hc3.below (fun _ h => h.elim) hB.out.size))
          have hga := Lib.hid hA.out.new_far
          have hgs := Lib.hid hS.out.new_far
          clear hw3 hc3 hrg2 hn hact hA hB hS
          generalize wr.heap.size = ga at *
          refine (write_any hA3.out d.at_ d.data (by have := hpl.out; have := HL.out; omega)).mono ?_
          rintro e w4 ⟨pv4, rfl, hA4, hG4⟩
          rw [no_write (s := s) d.at_ d.data hh.out] at hA4 ⊢
          dsimp only at hA4 ⊢
          have hb4 : Hid (Blk w4 ga 32 d.cs.toArray) := hb3.out.chg hG4.chg hga.out
          have hS4 := Lib.hid (hS3.out.chg hG4.chg (hS3.out.far hA3.out) (hA3.out.farf hS3.out))
          have hB4 := Lib.hid (hB3.out.trans (hG4.chg.below (fun k hk => Nat.le_trans HBB.out (hA3.out.ge k hk)) hB3.out.size))
          have hA4 := Lib.hid hA4
          have hk4 := hb4.out.actKind
          have hat4 := hb4.out.actAt
          have hdt4 := Lib.hid hb4.out.actData
          rw [hkd.out] at hk4
          clear hk3 hat3 hdt3 hb3 hS3 hB3 hA3 hga hG4
          go_wp2_with fail
          go_roundw
          case rel =>
            have hpl := hpl.out
            have hsl := hsl.out
            exact ⟨k + 1, by omega, by go_num, ⟨_, pv4, flushed, since, hA4.out, hS4.out, hB4.out, hfl.out, hsi.out, by show s.pend.length ≤ _; omega, by omega⟩⟩
          case measure =>
            have := HL.out
            simp [intOf]
            omega
      · by_cases hkd2 : d.kind = 2
        · have hkd : Hid (d.kind = 2) := hkd2
          clear hkd2
          by_cases hr : s.count.refuse.dead = true
          · have hr := Lib.hid hr
            go_wp2_with (first
              | (with_reducible refine ld_act rfl _ rfl b (off + k * 131) d rfl hrg2.out ?_)
              | (with_reducible refine st_act rfl _ _ rfl wr.heap.size 0 d rfl rfl hn.out.actHas ?_; intro w3 hw3; obtain ⟨hk3, hat3, hdt3⟩ := (hact w3).out hw3; rw [hkd.out] at hk3))
            have hb3 : Hid (Blk w3 wr.heap.size 32 d.cs.toArray) := by
              have h := hn.out.actAll d
              rwa [← hw3.out] at h
            have hc3 : Chg wr w3 (fun _ => False) := by rw [hw3.out]; exact chg_new _ _ _ _ _ rfl
            have hA3 := Lib.hid (hA.out.chg hc3 fun _ _ h => h)
            have hS3 := Lib.hid (hS.out.chg hc3 (fun _ _ h => h) (fun h => h))
            have hB3 := Lib.hid (hB.out.trans (hc3.below (fun _ h => h.elim) hB.out.size))
            have hga := Lib.hid hA.out.new_far
            have hgs := Lib.hid hS.out.new_far
            clear hw3 hc3 hrg2 hn hact hA hB hS
            generalize wr.heap.size = ga at *
            refine (flush_any hA3.out (by have := hpl.out; have := HL.out; omega)).mono ?_
            rintro e w4 ⟨pv4, rfl, hA4, hG4⟩
            rw [St.flush, if_pos hr.out] at hA4 ⊢
            dsimp only at hA4 ⊢
            have hb4 : Hid (Blk w4 ga 32 d.cs.toArray) := hb3.out.chg hG4.chg hga.out
            have hS4 := Lib.hid (hS3.out.chg hG4.chg (hS3.out.far hA3.out) (hA3.out.farf hS3.out))
            have hB4 := Lib.hid (hB3.out.trans (hG4.chg.below (fun k hk => Nat.le_trans HBB.out (hA3.out.ge k hk)) hB3.out.size))
            have hA4 := Lib.hid hA4
            have hk4 := hb4.out.actKind
            have hat4 := hb4.out.actAt
            have hdt4 := Lib.hid hb4.out.actData
            rw [hkd.out] at hk4
            clear hk3 hat3 hdt3 hb3 hS3 hB3 hA3 hga hG4
            go_wp2_with fail
            go_roundw
            case rel =>
              have hpl := hpl.out
              have hsl := hsl.out
              have hrf := refuse_st s.count
              exact ⟨k + 1, by omega, by go_num, ⟨_, pv4, flushed, since, hA4.out, hS4.out, hB4.out, by rw [hrf.1]; exact hfl.out, by rw [hrf.2.2.1]; exact hsi.out, by rw [hrf.2.2.1]; show s.pend.length ≤ _; omega, by omega⟩⟩
            case measure =>
              have := HL.out
              simp [intOf]
              omega
          · have hr := Lib.hid hr
            by_cases hse : since = []
            · have hse := Lib.hid hse
              go_wp2_with (first
                | (with_reducible refine ld_act rfl _ rfl b (off + k * 131) d rfl hrg2.out ?_)
                | (with_reducible refine st_act rfl _ _ rfl wr.heap.size 0 d rfl rfl hn.out.actHas ?_; intro w3 hw3; obtain ⟨hk3, hat3, hdt3⟩ := (hact w3).out hw3; rw [hkd.out] at hk3))
              have hb3 : Hid (Blk w3 wr.heap.size 32 d.cs.toArray) := by
                have h := hn.out.actAll d
                rwa [← hw3.out] at h
              have hc3 : Chg wr w3 (fun _ => False) := by rw [hw3.out]; exact chg_new _ _ _ _ _ rfl
              have hA3 := Lib.hid (hA.out.chg hc3 fun _ _ h => h)
              have hS3 := Lib.hid (hS.out.chg hc3 (fun _ _ h => h) (fun h => h))
              have hB3 := Lib.hid (hB.out.trans (hc3.below (fun _ h => h.elim) hB.out.size))
              have hga := Lib.hid hA.out.new_far
              have hgs := Lib.hid hS.out.new_far
              clear hw3 hc3 hrg2 hn hact hA hB hS
              generalize wr.heap.size = ga at *
              refine (flush_any hA3.out (by have := hpl.out; have := HL.out; omega)).mono ?_
              rintro e w4 ⟨pv4, rfl, hA4, hG4⟩
              rw [St.flush, if_neg hr.out] at hA4 ⊢
              dsimp only at hA4 ⊢
              have hb4 : Hid (Blk w4 ga 32 d.cs.toArray) := hb3.out.chg hG4.chg hga.out
              have hS4 := Lib.hid (hS3.out.chg hG4.chg (hS3.out.far hA3.out) (hA3.out.farf hS3.out))
              have hB4 := Lib.hid (hB3.out.trans (hG4.chg.below (fun k hk => Nat.le_trans HBB.out (hA3.out.ge k hk)) hB3.out.size))
              have hA4 := Lib.hid hA4
              have hk4 := hb4.out.actKind
              have hat4 := hb4.out.actAt
              have hdt4 := Lib.hid hb4.out.actData
              rw [hkd.out] at hk4
              clear hk3 hat3 hdt3 hb3 hS3 hB3 hA3 hga hG4
              have hnp : ¬ (since.length : Int) > 0 := by rw [hse.out]; simp
              go_wp2_with fail
              go_roundw
              case rel =>
                have hpl := hpl.out
                have hsl := hsl.out
                have hrf := refuse_st s.count
                have h1 := applyF_getD at_ s.pend s.st (by rw [hln.out]; omega)
                rw [hsi.out, hse.out] at h1
                have hS5 := hS4.out
                rw [show since.length = 0 from by rw [hse.out]; rfl] at hS5
                exact ⟨k + 1, by omega, by go_num, ⟨_, pv4, flushed, since, hA4.out, hS5, hB4.out, by show (applyF s.pend s.st).getD at_ zsec = _; rw [h1]; exact hfl.out, by show sinceF at_ [] = _; rw [hse.out]; rfl, by show 0 ≤ _; omega, by omega⟩⟩
              case measure =>
                have := HL.out
                simp [intOf]
                omega
            · have hse := Lib.hid hse
              go_wp2_with (first
                | (with_reducible refine ld_act rfl _ rfl b (off + k * 131) d rfl hrg2.out ?_)
                | (with_reducible refine st_act rfl _ _ rfl wr.heap.size 0 d rfl rfl hn.out.actHas ?_; intro w3 hw3; obtain ⟨hk3, hat3, hdt3⟩ := (hact w3).out hw3; rw [hkd.out] at hk3))
              have hb3 : Hid (Blk w3 wr.heap.size 32 d.cs.toArray) := by
                have h := hn.out.actAll d
                rwa [← hw3.out] at h
              have hc3 : Chg wr w3 (fun _ => False) := by rw [hw3.out]; exact chg_new _ _ _ _ _ rfl
              have hA3 := Lib.hid (hA.out.chg hc3 fun _ _ h => h)
              have hS3 := Lib.hid (hS.out.chg hc3 (fun _ _ h => h) (fun h => h))
              have hB3 := Lib.hid (hB.out.trans (hc3.below (fun _ h => h.elim) hB.out.size))
              have hga := Lib.hid hA.out.new_far
              have hgs := Lib.hid hS.out.new_far
              clear hw3 hc3 hrg2 hn hact hA hB hS
              generalize wr.heap.size = ga at *
              refine (flush_any hA3.out (by have := hpl.out; have := HL.out; omega)).mono ?_
              rintro e w4 ⟨pv4, rfl, hA4, hG4⟩
              rw [St.flush, if_neg hr.out] at hA4 ⊢
              dsimp only at hA4 ⊢
              have hb4 : Hid (Blk w4 ga 32 d.cs.toArray) := hb3.out.chg hG4.chg hga.out
              have hS4 := Lib.hid (hS3.out.chg hG4.chg (hS3.out.far hA3.out) (hA3.out.farf hS3.out))
              have hB4 := Lib.hid (hB3.out.trans (hG4.chg.below (fun k hk => Nat.le_trans HBB.out (hA3.out.ge k hk)) hB3.out.size))
              have hA4 := Lib.hid hA4
              have hk4 := hb4.out.actKind
              have hat4 := hb4.out.actAt
              have hdt4 := Lib.hid hb4.out.actData
              rw [hkd.out] at hk4
              clear hk3 hat3 hdt3 hb3 hS3 hB3 hA3 hga hG4
              have hm := Lib.hid (since_last since hse.out)
              obtain ⟨m, y, hm1, hm2, hm3⟩ := hm.out
              have hmi : (since.length : Int) = (m : Int) + 1 := by omega
              have hm3 := Lib.hid hm3
              have hm2 := Lib.hid hm2
              obtain ⟨g2, cap2, heq, _, _, _⟩ := own_form hS4.out.row (by omega)
              simp only [Value.slice.injEq, true_and] at heq
              obtain ⟨rfl, rfl⟩ := heq
              have hsr : Hid (w4.rangeAt g2 ((since.length - 1) * 128) y.cs) := by
                have h := own_secs hS4.out.row m y hm2.out
                rwa [show m = since.length - 1 by omega] at h
              clear hm
              have hfr := Lib.hid hS4.out.fl.secHas
              have hact5 : ∀ w5, Hid (Hid (w5 = w4.setCells gf 0 y.cs) → w5.cell? ⟨ga, 0, none⟩ = some (.int .i64 d.kind) ∧ (w5.alloc (.cells #[] 29)).cell? ⟨ga, 0, none⟩ = some (.int .i64 d.kind)) := fun w5 hw => by
                have hc : Chg w4 w5 (· = gf) := by rw [hw.out]; exact Chg.setCells (O := (· = gf)) (.inl rfl) _ _ (Chg.refl _ _)
                have h := hb4.out.chg hc (fun e => hgf.out (e.symm))
                exact ⟨h.actKind, (h.chg (O := fun _ => False) ((Chg.refl _ _).alloc _) id).actKind⟩
              have hml : (m : Int) < since.length := by omega
              have hmz : (0 : Int) ≤ m := by omega
              have hsi200 : (since.length : Int) ≤ 200 := by have := hsl.out; have := HL.out; omega
              have hw64 : RowKit.wrap64 ((since.length : Int) - 1) = (m : Int) := by rw [IntWalk.wrap64_in _ (by omega)]; omega
              have hpos : (since.length : Int) > 0 := by omega
              clear hm1 hmi
              go_wp2_with (first
                | (with_reducible refine ld_sec rfl _ rfl g2 ((since.length - 1) * 128) y rfl hsr.out ?_)
                | (with_reducible refine st_sec rfl _ _ rfl gf 0 y rfl rfl hfr.out ?_; intro w5 hw5; obtain ⟨hk5, hk6⟩ := (hact5 w5).out hw5; rw [hkd.out] at hk5 hk6))
              have hc5 : Chg w4 w5 (· = gf) := by rw [hw5.out]; exact Chg.setCells (O := (· = gf)) (.inl rfl) _ _ (Chg.refl _ _)
              have hA5 := Lib.hid (hA4.out.chg hc5 fun k hk e => hA4.out.farf hS4.out (e ▸ hk))
              have hb5 : Hid (Blk w5 gf 29 y.cs.toArray) := by
                have h := hS4.out.fl.secAll y
                rwa [← hw5.out] at h
              have hB5 := Lib.hid (hB4.out.trans (hc5.below (fun k hk => hk ▸ hgB.out) hB4.out.size))
              have hS6 : Hid (Own2 (w5.alloc (.cells #[] 29)) w.heap.size D gf y (.slice (some ⟨w5.heap.size, 0, none⟩) 0 0) []) :=
                { fl := hb5.out.chg (O := fun _ => False) ((Chg.refl _ _).alloc _) id
                  row := World.ownsRow_lit (base := w.heap.size) (e := 29) (size := 128) w5 #[] 0 hB5.out.size (by simp [maxLen]) rfl
                  ff := hS4.out.ff
                  fs := fun b hb => by
                    simp only [Value.ownBlock, Option.some.injEq] at hb
                    subst hb
                    have h1 := hA5.out.st.lt
                    have h2 := hA5.out.nw.lt
                    have h3 := hb5.out.lt
                    exact ⟨by omega, by omega, by omega⟩ }
              have hA6 := Lib.hid (hA5.out.alloc (.cells #[] 29))
              have hB6 := Lib.hid (hB5.out.alloc hB5.out.size (.cells #[] 29))
              go_roundw
              case rel =>
                have hpl := hpl.out
                have hsl := hsl.out
                have h1 := applyF_getD at_ s.pend s.st (by rw [hln.out]; omega)
                rw [hsi.out, hm3.out] at h1
                exact ⟨k + 1, by omega, by go_num, ⟨_, pv4, y, [], hA6.out, hS6.out, hB6.out, h1, rfl, by show 0 ≤ _; omega, by show 0 ≤ _; omega⟩⟩
              case measure =>
                have := HL.out
                simp [intOf]
                omega
        · by_cases hkd3 : d.kind = 3
          · have hkd : Hid (d.kind = 3) := hkd3
            clear hkd3 hkd2
            go_wp2_with (first
              | (with_reducible refine ld_act rfl _ rfl b (off + k * 131) d rfl hrg2.out ?_)
              | (with_reducible refine st_act rfl _ _ rfl wr.heap.size 0 d rfl rfl hn.out.actHas ?_; intro w3 hw3; obtain ⟨hk3, hat3, hdt3⟩ := (hact w3).out hw3; rw [hkd.out] at hk3))
            have hb3 : Hid (Blk w3 wr.heap.size 32 d.cs.toArray) := by
              have h := hn.out.actAll d
              rwa [← hw3.out] at h
            have hc3 : Chg wr w3 (fun _ => False) := by rw [hw3.out]; exact chg_new _ _ _ _ _ rfl
            have hA3 := Lib.hid (hA.out.chg hc3 fun _ _ h => h)
            have hS3 := Lib.hid (hS.out.chg hc3 (fun _ _ h => h) (fun h => h))
            have hB3 := Lib.hid (hB.out.trans (hc3.below (fun _ h => h.elim) hB.out.size))
            have hga := Lib.hid hA.out.new_far
            have hgs := Lib.hid hS.out.new_far
            clear hw3 hc3 hrg2 hn hact hA hB hS
            generalize wr.heap.size = ga at *
            refine (break_any hA3.out d.at_ d.ha).mono ?_
            rintro e w4 ⟨rfl, hA4, hG4⟩
            have hb4 : Hid (Blk w4 ga 32 d.cs.toArray) := hb3.out.chg hG4.chg hga.out
            have hS4 := Lib.hid (hS3.out.chg hG4.chg (hS3.out.far hA3.out) (hA3.out.farf hS3.out))
            have hB4 := Lib.hid (hB3.out.trans (hG4.chg.below (fun k hk => Nat.le_trans HBB.out (hA3.out.ge k hk)) hB3.out.size))
            have hA4 := Lib.hid hA4
            have hk4 := hb4.out.actKind
            have hat4 := hb4.out.actAt
            have hdt4 := Lib.hid hb4.out.actData
            rw [hkd.out] at hk4
            clear hk3 hat3 hdt3 hb3 hS3 hB3 hA3 hga hG4
            go_wp2_with fail
            go_roundw
            case rel =>
              have hpl := hpl.out
              have hsl := hsl.out
              exact ⟨k + 1, by omega, by go_num, ⟨_, pv, flushed, since, hA4.out, hS4.out, hB4.out, hfl.out, hsi.out, by show s.pend.length ≤ _; omega, by omega⟩⟩
            case measure =>
              have := HL.out
              simp [intOf]
              omega
          · have hq1 : (d.kind == 1) = false := by rw [beq_eq_false_iff_ne]; exact hkd
            have hq2 : (d.kind == 2) = false := by rw [beq_eq_false_iff_ne]; exact hkd2
            have hq3 : (d.kind == 3) = false := by rw [beq_eq_false_iff_ne]; exact hkd3
            clear hkd hkd2 hkd3
            go_wp2_with (first
              | (with_reducible refine ld_act rfl _ rfl b (off + k * 131) d rfl hrg2.out ?_)
              | (with_reducible refine st_act rfl _ _ rfl wr.heap.size 0 d rfl rfl hn.out.actHas ?_; intro w3 hw3; obtain ⟨hk3, hat3, hdt3⟩ := (hact w3).out hw3))
            have hb3 : Hid (Blk w3 wr.heap.size 32 d.cs.toArray) := by
              have h := hn.out.actAll d
              rwa [← hw3.out] at h
            have hc3 : Chg wr w3 (fun _ => False) := by rw [hw3.out]; exact chg_new _ _ _ _ _ rfl
            have hA3 := Lib.hid (hA.out.chg hc3 fun _ _ h => h)
            have hS3 := Lib.hid (hS.out.chg hc3 (fun _ _ h => h) (fun h => h))
            have hB3 := Lib.hid (hB.out.trans (hc3.below (fun _ h => h.elim) hB.out.size))
            have hga := Lib.hid hA.out.new_far
            have hgs := Lib.hid hS.out.new_far
            clear hw3 hc3 hrg2 hn hact hA hB hS
            generalize wr.heap.size = ga at *
            go_roundw
            case rel =>
              have hpl := hpl.out
              have hsl := hsl.out
              exact ⟨k + 1, by omega, by go_num, ⟨_, pv, flushed, since, hA3.out, hS3.out, hB3.out, hfl.out, hsi.out, by show s.pend.length ≤ _; omega, by omega⟩⟩
            case measure =>
              have := HL.out
              simp [intOf]
              omega
    · obtain ⟨s, pv, flushed, since, hA0, hS0, hB0, hfl0, hsi0, hpl0, hsl0⟩ := HR.out
      obtain ⟨A2, c2, rfl, hA2r⟩ := own_rd hS0.row
      have hA := Lib.hid hA0; have hB := Lib.hid hB0; have hS := Lib.hid hS0
      have hpi : (s.pend.length : Int) ≤ 1000000 := by omega
      have hsi200 : (since.length : Int) ≤ 200 := by omega
      have hX := Lib.hid (applyK_in at_ ks s.pend 0 s.st (by rw [hA0.ls]; omega))
      rw [hfl0, hsi0] at hX
      have hxs : Hid ((s.crash ks).stable 8 (at_ : Int) = (applyK ks s.pend.zipIdx s.st).getD at_ zsec) := by
        show _ = _
        unfold St.stable
        rw [if_pos (has8.2 (by omega)), Int.toNat_natCast]
        rfl
      have hdd : Hid ((s.crash ks).dead = false) := rfl
      clear hA0 hS0 hB0 hfl0 hsi0 hpl0 hsl0 hA2r HR
      generalize (applyK ks s.pend.zipIdx s.st).getD at_ zsec = X at *
      have hrk := Lib.hid (HT.out.below hB.out)
      go_wp2_with (refine app_keep rfl 96 97 rfl rfl w.heap.size A' c' ks rfl hrk.out (by have := HKL.out; omega) ?_; intro A5 c5 w5 hr5 hb5)
      have hnf : ∀ k, D.own pv k → k < wr.heap.size := fun k hk => hA.out.lt k hk
      have hc5 : Chg wr w5 (fun _ => False) := Chg.of_below hb5.out
      have hA5 := Lib.hid (hA.out.chg hc5 fun _ _ h => h)
      have hS5 := Lib.hid (hS.out.chg hc5 (fun _ _ h => h) (fun h => h))
      have hB5 := Lib.hid (hB.out.trans (hb5.out.mono hB.out.size))
      have hK5 : Hid (RdK w5 D pv A5 ks) := fun hp => by
        obtain ⟨b, off, e, h1, h2, h3⟩ := hr5.out hp
        exact ⟨b, off, e, h2, fun hk => by have := hnf b hk; omega, h3⟩
      clear hc5 hb5 hr5 hnf hA hS hB hrk
      refine (crash_any hA5.out hpi A5 c5 ks hK5.out).mono ?_
      rintro e w6 ⟨rfl, hA6, hG6⟩
      have hS6 := Lib.hid (hS5.out.chg hG6.chg (hS5.out.far hA5.out) (hA5.out.farf hS5.out))
      have hB6 := Lib.hid (hB5.out.trans (hG6.chg.below (fun k hk => Nat.le_trans HBB.out (hA5.out.ge k hk)) hB5.out.size))
      have hA6 := Lib.hid hA6
      clear hG6 hA5 hS5 hB5 hK5 hpi
      generalize s.crash ks = s6 at *
      go_wp2_with fail
      refine (stable_any hA6.out (at_ : Int)).mono ?_
      rintro e w7 ⟨rfl, hc7⟩
      rw [hxs.out]
      have hA7 := Lib.hid (hA6.out.chg hc7 fun _ _ h => h)
      have hS7 := Lib.hid (hS6.out.chg hc7 (fun _ _ h => h) (fun h => h))
      have hB7 := Lib.hid (hB6.out.trans (hc7.below (fun _ h => h.elim) hB6.out.size))
      clear hc7 hA6 hS6 hB6 hxs
      have hn7 : Hid (Blk (w7.alloc (.cells zsec.cs.toArray 29)) w7.heap.size 29 zsec.cs.toArray) := Blk.new _ _ _
      have hfin : ∀ w8, Hid (Hid (w8 = (w7.alloc (.cells zsec.cs.toArray 29)).setCells w7.heap.size 0 X.cs) → Blk w8 w7.heap.size 29 X.cs.toArray ∧ Blk w8 gf 29 flushed.cs.toArray) := fun w8 hw => by
        have hc8 : Chg w7 w8 (fun _ => False) := by rw [hw.out]; exact chg_new _ _ _ _ _ rfl
        have h := hn7.out.secAll X
        rw [← hw.out] at h
        exact ⟨h, hS7.out.fl.chg hc8 id⟩
      go_wp2_with (first
        | (with_reducible refine st_sec rfl _ _ rfl w7.heap.size 0 X rfl rfl hn7.out.secHas ?_; intro w8 hw8)
        | (refine wpList_val (by rfl) _ (ex_ld (.tmp 12) rfl w7.heap.size 0 X rfl ((hfin w8).out hw8).1.secIs) ?_)
        | (refine wpList_val (by rfl) _ (ex_ld (.tmp 8) rfl gf 0 flushed rfl ((hfin w8).out hw8).2.secIs) ?_)
        | (refine wpList_val (by rfl) _ (ex_eqS (.tmp 103) (.tmp 104) rfl X flushed rfl rfl) ?_))
      have hc8 : Chg w7 w8 (fun _ => False) := by rw [hw8.out]; exact chg_new _ _ _ _ _ rfl
      have hb8 := Lib.hid ((hfin w8).out hw8).1
      have hA8 := Lib.hid (hA7.out.chg hc8 fun _ _ h => h)
      have hS8 := Lib.hid (hS7.out.chg hc8 (fun _ _ h => h) (fun h => h))
      have hB8 := Lib.hid (hB7.out.trans (hc8.below (fun _ h => h.elim) hB7.out.size))
      clear hc8 hw8 hfin hn7 hA7 hS7 hB7
      generalize w7.heap.size = gx at *
      go_loopw [13, 108] (fun ok i wr => ∃ (m : Nat), m ≤ since.length ∧ i = .int .i64 m ∧ ok = .bool (okF X flushed since m) ∧ Blk wr gx 29 X.cs.toArray ∧ At wr B 8 D (.slice none 0 0) s6 ∧ Own2 wr w.heap.size D gf flushed (.slice A2 since.length c2) since ∧ Below w.heap.size w wr) (fun _ i _ => since.length - (intOf i).toNat)
      case atStart => exact ⟨0, by omega, rfl, by simp [okF], hb8.out, hA8.out, hS8.out, hB8.out⟩
      case round =>
        clear hb8 hA8 hS8 hB8
        obtain ⟨m, hm, rfl, rfl, hbx, hA, hS, hB⟩ := hrel
        have hbx := Lib.hid hbx; have hA := Lib.hid hA; have hS := Lib.hid hS; have hB := Lib.hid hB
        by_cases hlt : m < since.length
        · have HL := Lib.hid hlt
          have hmi : (m : Int) < since.length := by omega
          obtain ⟨g2, cap2, heq, _, _, _⟩ := own_form hS.out.row (by omega)
          simp only [Value.slice.injEq, true_and] at heq
          obtain ⟨rfl, rfl⟩ := heq
          have hsr := Lib.hid (own_secs hS.out.row m _ (List.getElem?_eq_getElem hlt))
          have hok := Lib.hid (okF_succ X flushed since m hlt)
          generalize since[m] = y at *
          have hn : Hid (Blk (wr.alloc (.cells zsec.cs.toArray 29)) wr.heap.size 29 zsec.cs.toArray) := Blk.new _ _ _
          have hfin : ∀ w3, Hid (Hid (w3 = (wr.alloc (.cells zsec.cs.toArray 29)).setCells wr.heap.size 0 y.cs) → Blk w3 wr.heap.size 29 y.cs.toArray ∧ Blk w3 gx 29 X.cs.toArray) := fun w3 hw => by
            have hc3 : Chg wr w3 (fun _ => False) := by rw [hw.out]; exact chg_new _ _ _ _ _ rfl
            have h := hn.out.secAll y
            rw [← hw.out] at h
            exact ⟨h, hbx.out.chg hc3 id⟩
          cases hokm : okF X flushed since m with
          | true =>
            rw [hokm, Bool.true_or] at hok
            go_wp2_with (first
              | (with_reducible refine ld_sec rfl _ rfl g2 (m * 128) y rfl hsr.out ?_)
              | (with_reducible refine st_sec rfl _ _ rfl wr.heap.size 0 y rfl rfl hn.out.secHas ?_; intro w3 hw3))
            have hc3 : Chg wr w3 (fun _ => False) := by rw [hw3.out]; exact chg_new _ _ _ _ _ rfl
            go_roundw
            case rel => exact ⟨m + 1, by omega, by go_num, by rw [hok.out], hbx.out.chg hc3 id, hA.out.chg hc3 (fun _ _ h => h), hS.out.chg hc3 (fun _ _ h => h) (fun h => h), hB.out.trans (hc3.below (fun _ h => h.elim) hB.out.size)⟩
            case measure =>
              have := HL.out
              simp [intOf]
              omega
          | false =>
            rw [hokm, Bool.false_or] at hok
            go_wp2_with (first
              | (with_reducible refine ld_sec rfl _ rfl g2 (m * 128) y rfl hsr.out ?_)
              | (with_reducible refine st_sec rfl _ _ rfl wr.heap.size 0 y rfl rfl hn.out.secHas ?_; intro w3 hw3)
              | (refine wpList_val (by rfl) _ (ex_ld (.tmp 12) rfl gx 0 X rfl ((hfin w3).out hw3).2.secIs) ?_)
              | (refine wpList_val (by rfl) _ (ex_ld (.tmp 15) rfl wr.heap.size 0 y rfl ((hfin w3).out hw3).1.secIs) ?_)
              | (refine wpList_val (by rfl) _ (ex_eqS (.tmp 114) (.tmp 115) rfl X y rfl rfl) ?_))
            have hc3 : Chg wr w3 (fun _ => False) := by rw [hw3.out]; exact chg_new _ _ _ _ _ rfl
            go_roundw
            case rel => exact ⟨m + 1, by omega, by go_num, by rw [hok.out], hbx.out.chg hc3 id, hA.out.chg hc3 (fun _ _ h => h), hS.out.chg hc3 (fun _ _ h => h) (fun h => h), hB.out.trans (hc3.below (fun _ h => h.elim) hB.out.size)⟩
            case measure =>
              have := HL.out
              simp [intOf]
              omega
        · have hkt := okF_all X flushed since m (by omega) hX.out
          rw [hkt]
          clear hkt hX
          go_wp2_with fail
          refine (dead_any hA.out).mono ?_
          rintro e w9 ⟨rfl, rfl⟩
          rw [hdd.out]
          go_wp2_with fail
          go_ret
          exact ⟨rfl, hB.out⟩
theorem keeps_any (x : Int) :
    Calls Try.prog 4 #[.slice A l.length c, .slice A' ks.length c', .int .i64 x] w fun e w' => e = .returned (.bool true) ∧ Below w.heap.size w w' := by
  by_cases h : (200 : Int) < l.length ∨ x < 0 ∨ 7 < x
  · exact keeps_out A c l A' c' ks w x h
  · obtain ⟨k, rfl⟩ := Int.eq_ofNat_of_zero_le (show 0 ≤ x by omega)
    exact keeps_in A c l A' c' ks w hs ht hkl k (by omega) (by omega) (by omega)
end
end Go.Proofs.Ytoacagfddbmonaa
