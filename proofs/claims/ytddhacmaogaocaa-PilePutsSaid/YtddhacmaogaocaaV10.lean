
/- Walks: Rot. -/
import Derived.Test.YtddhacmaogaocaaV9
set_option maxRecDepth 10000
namespace Go.Proofs.Ytddhacmaogaocaa
open Go.RowKit
theorem flatW_set (l : List (Nat × Sec)) (i : Nat) (x : Sec) (hi : i < l.length) (k : Nat) :
    (flatW (l.set i (l[i].1, x)))[k]? = if i * 129 + 1 ≤ k ∧ k < i * 129 + 1 + x.cs.length then x.cs[k - (i * 129 + 1)]? else (flatW l)[k]? := by
  rw [Sec.cs_len]
  by_cases hk : k < l.length * 129
  · have h1 : k = k / 129 * 129 + k % 129 := by omega
    have h2 : k / 129 < l.length := by omega
    have h3 : k % 129 < 129 := by omega
    generalize k / 129 = q at *
    generalize k % 129 = r at *
    subst h1
    rw [flatW_at _ q (by simpa using h2) r h3, flatW_at _ q h2 r h3]
    by_cases hq : q = i
    · subst hq
      rw [List.getElem_set_self]
      rcases Nat.eq_zero_or_pos r with rfl | hr
      · rw [if_neg (by omega)]
        rfl
      · rw [if_pos (by omega), show q * 129 + r - (q * 129 + 1) = r - 1 by omega]
        obtain ⟨r, rfl⟩ : ∃ j, r = j + 1 := ⟨r - 1, by omega⟩
        rfl
    · rw [if_neg (by omega), List.getElem_set_ne (by omega)]
  · rw [if_neg (by omega), List.getElem?_eq_none (by rw [flatW_len, List.length_set]; omega), List.getElem?_eq_none (by rw [flatW_len]; omega)]
/-- A sector is stored, as a step of a region that draws its order. -/
theorem step_st {ops : Array Oper} {o : Oper} {a : Act} {w : World} {K : Act → World → Prop} {Q : Exit → Act → World → Prop} {E : Prop} (hgd : o.guard = none) (x y : Operand) (ho : o.op = .store 23 x y)
    (b k : Nat) (s : Sec) (hx : a.eval x = .pointer (some ⟨b, k, none⟩)) (hy : a.eval y = .agg s.cs.toArray) (ht : w.there b k 128)
    (h : K (a.put o.dst undef) (w.setCells b k s.cs)) : if Region.wanted o (yielded ops a.tmps) = true then Oper.wp Try.prog o a w K Q else E := by
  have hw : Region.wanted o (yielded ops a.tmps) = true := by simp [Region.wanted, hgd]
  rw [if_pos hw]
  exact wp_store_mid _ x y ho b k s.cs.toArray hx hy (by rw [List.size_toArray, Sec.cs_len]; exact ht) (sizeSec'' s) (all_one s.one) h
/-- The first k of the pending writes of sector i are of x. -/
def mixP (i : Nat) (x : Sec) (k : Nat) (ps : List (Nat × Sec)) : List (Nat × Sec) := (rotP i x ps).take k ++ ps.drop k
theorem rotP_len (i : Nat) (x : Sec) (ps : List (Nat × Sec)) : (rotP i x ps).length = ps.length := by simp [rotP]
theorem mixP_len (i : Nat) (x : Sec) (k : Nat) (ps : List (Nat × Sec)) : (mixP i x k ps).length = ps.length := by
  simp [mixP, rotP_len]
  omega
theorem mixP_zero (i : Nat) (x : Sec) (ps : List (Nat × Sec)) : mixP i x 0 ps = ps := by simp [mixP]
theorem mixP_all (i : Nat) (x : Sec) (k : Nat) (ps : List (Nat × Sec)) (hk : ps.length ≤ k) : mixP i x k ps = rotP i x ps := by
  unfold mixP
  rw [List.take_of_length_le (by rw [rotP_len]; exact hk), List.drop_eq_nil_of_le hk, List.append_nil]
theorem mixP_at (i : Nat) (x : Sec) (k : Nat) (ps : List (Nat × Sec)) (hk : k < ps.length) (h : k < (mixP i x k ps).length) : (mixP i x k ps)[k] = ps[k] := by
  have h1 : (mixP i x k ps)[k]? = ps[k]? := by
    unfold mixP
    rw [List.getElem?_append_right (by rw [List.length_take]; omega), List.length_take, rotP_len, List.getElem?_drop]
    congr 1
    omega
  rw [List.getElem?_eq_getElem h, List.getElem?_eq_getElem hk, Option.some.injEq] at h1
  exact h1
theorem mixP_succ (i : Nat) (x : Sec) (k : Nat) (ps : List (Nat × Sec)) (hk : k < ps.length) : mixP i x (k + 1) ps = (mixP i x k ps).set k (if ps[k].1 = i then (ps[k].1, x) else ps[k]) := by
  unfold mixP
  have hr : k < (rotP i x ps).length := by rw [rotP_len]; exact hk
  have hg : (rotP i x ps)[k] = if ps[k].1 = i then (ps[k].1, x) else ps[k] := by simp [rotP]
  have hd : ps.drop k = ps[k] :: ps.drop (k + 1) := List.drop_eq_getElem_cons hk
  rw [List.take_succ_eq_append_getElem hr, hd, List.append_assoc, List.set_append_right _ _ (by rw [List.length_take]; omega), List.length_take, show k - min k (rotP i x ps).length = 0 by omega, hg]
  rfl
theorem mixP_hit (i : Nat) (x : Sec) (k : Nat) (ps : List (Nat × Sec)) (hk : k < ps.length) (hi : ps[k].1 = i) (h : k < (mixP i x k ps).length) : mixP i x (k + 1) ps = (mixP i x k ps).set k ((mixP i x k ps)[k].1, x) := by
  rw [mixP_succ i x k ps hk, if_pos hi, mixP_at i x k ps hk]
theorem mixP_miss (i : Nat) (x : Sec) (k : Nat) (ps : List (Nat × Sec)) (hk : k < ps.length) (hi : ¬ ps[k].1 = i) : mixP i x (k + 1) ps = mixP i x k ps := by
  rw [mixP_succ i x k ps hk, if_neg hi]
  have h := mixP_at i x k ps hk (by rw [mixP_len]; exact hk)
  rw [← h]
  exact List.set_getElem_self ..
section
variable {w : World} {B n : Nat} {D : Dev} {pv : Value} {s : St}
theorem At.rot_pend {gp c m : Nat} (h : At w B n D (.slice (some ⟨gp, 0, none⟩) m c) s) (k : Nat) (hk : k < s.pend.length) (x : Sec) : At (w.setCells gp (k * 129 + 1) x.cs) B n D (.slice (some ⟨gp, 0, none⟩) m c) { s with pend := s.pend.set k (s.pend[k].1, x) } := by
  have hm : s.pend.length = m := by
    have h1 := h.pend.2
    rcases h1 with ⟨h1, _⟩ | ⟨g', cap, cur, h1, _⟩
    · cases h1
    · simp only [Value.slice.injEq] at h1
      exact h1.2.1.symm
  subst hm
  have hc : Chg w (w.setCells gp (k * 129 + 1) x.cs) (· = gp) := Chg.setCells (O := (· = gp)) (.inl rfl) _ _ (Chg.refl _ _)
  obtain ⟨xs', h1, h2⟩ := own_setCells x.cs (k * 129 + 1) h.pend (by rw [Sec.cs_len]; omega)
  rw [show xs' = flatW (s.pend.set k (s.pend[k].1, x)) from List.ext_getElem? fun j => by rw [h2 j, flatW_set s.pend k x hk j]] at h1
  have e1 := (h.own_g _ rfl).2.2
  have e2 := (h.own_gs _ rfl).2.2
  have e3 := (h.own_gn _ rfl).2.2
  exact { h with
    dev := h.dev.chg hc fun e => e1 (by rw [e]; rfl)
    st := h.st.chg hc fun e => e2 (by rw [e]; rfl)
    nw := h.nw.chg hc fun e => e3 (by rw [e]; rfl)
    pend := by rw [List.length_set]; exact h1
    ok := fun p hp => by
      rcases List.mem_or_eq_of_mem_set hp with hp | hp
      · exact h.ok p hp
      · rw [hp]; exact h.ok s.pend[k] (List.getElem_mem hk) }
theorem rot_none (h : At w B n D pv s) (i : Int) (x : Sec) (hf : hasF n i = false) :
    Calls Try.prog 13 #[.pointer (some ⟨D.g, 0, none⟩), .int .i64 i, .agg x.cs.toArray] w fun e w' =>
    e = .returned (.int .i64 41) ∧ At w' B n D pv s ∧ Goes D w pv w' pv := by
  have HA := Lib.hid (h.alloc (.cells x.cs.toArray 23))
  have HG := Lib.hid ((Goes.refl D (w.alloc (.cells x.cs.toArray 23)) pv).behind)
  clear h
  go_enter Try.func13, Try.ntmps13
  go_wp2_with fail
  refine (vhas_any HA.out _).mono ?_
  rintro e w1 ⟨rfl, rfl⟩
  rw [hf]
  go_wp2_with fail
  go_ret
  exact ⟨rfl, HA.out, HG.out⟩
set_option maxHeartbeats 2000000 in
theorem rot_ok (h : At w B n D pv s) (hp : (s.pend.length : Int) ≤ 1000000) (i : Nat) (x : Sec) (hi : i < n) :
    Calls Try.prog 13 #[.pointer (some ⟨D.g, 0, none⟩), .int .i64 (i : Int), .agg x.cs.toArray] w fun e w' =>
    e = .returned (.int .i64 0) ∧ At w' B n D pv { s with st := s.st.set i x, nw := s.nw.set i x, pend := rotP i x s.pend } ∧ Goes D w pv w' pv := by
  obtain ⟨A, c, rfl, _⟩ := own_rd h.pend
  have HA := Lib.hid (h.alloc (.cells x.cs.toArray 23))
  have HG := Lib.hid ((Goes.refl D (w.alloc (.cells x.cs.toArray 23)) (.slice A s.pend.length c)).behind)
  have hfar := Lib.hid h.new_far
  have hbl := Lib.hid (Blk.new w 23 x.cs.toArray)
  clear h
  generalize hg0 : w.heap.size = g0 at *
  have hh : hasF n (i : Int) = true := by unfold hasF; rw [decide_eq_true_iff]; omega
  go_enter Try.func13, Try.ntmps13
  go_wp2_with fail
  refine (vhas_any HA.out _).mono ?_
  rintro e w1 ⟨rfl, rfl⟩
  rw [hh]
  clear hh
  generalize w.alloc (.cells x.cs.toArray 23) = w1 at *
  have hii : (i : Int) < n := by omega
  go_wp2_with fail
  obtain ⟨n3, n4, _⟩ := HA.out.own_g _ rfl
  have n1 : g0 ≠ D.gs := fun e => hfar.out (.inr (.inl e))
  have n2 : g0 ≠ D.gn := fun e => hfar.out (.inr (.inr (.inl e)))
  have hS1 : Hid ((fun w' => w'.rangeAt g0 0 x.cs ∧ w'.cell? ⟨D.g, 0, none⟩ = some (.slice (some ⟨D.gs, 0, none⟩) n n) ∧ w'.cell? ⟨D.g, 1, none⟩ = some (.slice (some ⟨D.gn, 0, none⟩) n n) ∧ w'.there D.gs (i * 128) 128 ∧ w'.there D.gn (i * 128) 128) w1.drew) := ⟨hbl.out.secIs, HA.out.fields.1, HA.out.fields.2.1, HA.out.st.secThere i (by rw [HA.out.ls]; exact hi), HA.out.nw.secThere i (by rw [HA.out.ln]; exact hi)⟩
  have hsame : ∀ (w' : World) (b : Nat) (vs : List Value), (b = D.gs ∨ b = D.gn) → Hid ((fun w' => w'.rangeAt g0 0 x.cs ∧ w'.cell? ⟨D.g, 0, none⟩ = some (.slice (some ⟨D.gs, 0, none⟩) n n) ∧ w'.cell? ⟨D.g, 1, none⟩ = some (.slice (some ⟨D.gn, 0, none⟩) n n) ∧ w'.there D.gs (i * 128) 128 ∧ w'.there D.gn (i * 128) 128) w' → (fun w' => w'.rangeAt g0 0 x.cs ∧ w'.cell? ⟨D.g, 0, none⟩ = some (.slice (some ⟨D.gs, 0, none⟩) n n) ∧ w'.cell? ⟨D.g, 1, none⟩ = some (.slice (some ⟨D.gn, 0, none⟩) n n) ∧ w'.there D.gs (i * 128) 128 ∧ w'.there D.gn (i * 128) 128) (w'.setCells b (i * 128) vs)) := fun w' b vs hb ⟨h1, h2, h3, h4, h5⟩ => by
    have hbg : b ≠ D.g := by rcases hb with rfl | rfl <;> exact Ne.symm (by assumption)
    have hb0 : g0 ≠ b := by rcases hb with rfl | rfl <;> assumption
    refine ⟨World.rangeAt_setCells_apart h1 _ _ _ (.inl hb0), ?_, ?_, World.there_setCells h4 _ _ _, World.there_setCells h5 _ _ _⟩
    · rw [World.cell?_setCells_out _ _ _ _ _ (fun h _ => absurd h.symm hbg)]; exact h2
    · rw [World.cell?_setCells_out _ _ _ _ _ (fun h _ => absurd h.symm hbg)]; exact h3
  refine wp_region_held_drew (S := (fun w' => w'.rangeAt g0 0 x.cs ∧ w'.cell? ⟨D.g, 0, none⟩ = some (.slice (some ⟨D.gs, 0, none⟩) n n) ∧ w'.cell? ⟨D.g, 1, none⟩ = some (.slice (some ⟨D.gn, 0, none⟩) n n) ∧ w'.there D.gs (i * 128) 128 ∧ w'.there D.gn (i * 128) 128)) (by kernel_rfl) hS1.out (fun hHeld => ?_)
  clear hS1
  refine wpAnyH_take (i := 0) (v := ?_) rfl (by kernel_rfl) (by kernel_rfl) (by kernel_rfl) (fun _ _ _ h => h) (Or.inl ⟨by rfl, ?_⟩) (by assumption) ?_
  rotate_left
  · intro w _; go_simp; try with_reducible rfl
  simp [Act.put]
  refine wpAnyH_take (i := 1) (v := ?_) rfl (by kernel_rfl) (by kernel_rfl) (by kernel_rfl) (fun _ _ _ h => h) (Or.inl ⟨by rfl, ?_⟩) (by assumption) ?_
  rotate_left
  · intro w _; go_simp; try with_reducible rfl
  simp [Act.put]
  refine wpAnyH_take (i := 2) (v := ?_) rfl (by kernel_rfl) (by kernel_rfl) (by kernel_rfl) (fun _ _ _ h => h) (Or.inl ⟨by rfl, ?_⟩) (by assumption) ?_
  rotate_left
  · intro w _; go_simp; try with_reducible rfl
  simp [Act.put]
  refine wpAnyH_take (i := 4) (v := ?_) rfl (by kernel_rfl) (by kernel_rfl) (by kernel_rfl) (fun _ _ _ h => h) (Or.inl ⟨by rfl, ?_⟩) (by assumption) ?_
  rotate_left
  · intro w _; go_simp; try with_reducible rfl
  simp [Act.put]
  refine wpAnyH_take (i := 5) (v := ?_) rfl (by kernel_rfl) (by kernel_rfl) (by kernel_rfl) (fun _ _ _ h => h) (Or.inl ⟨by rfl, ?_⟩) (by assumption) ?_
  rotate_left
  · intro w _; go_simp; try with_reducible rfl
  simp [Act.put]
  refine wpAnyH_take (i := 6) (v := ?_) rfl (by kernel_rfl) (by kernel_rfl) (by kernel_rfl) (fun _ _ _ h => h) (Or.inl ⟨by rfl, ?_⟩) (by assumption) ?_
  rotate_left
  · intro w _; go_simp; try with_reducible rfl
  simp [Act.put]
  refine wpAnyH_take (i := 7) (v := ?_) rfl (by kernel_rfl) (by kernel_rfl) (by kernel_rfl) (fun _ _ _ h => h) (Or.inl ⟨by rfl, ?_⟩) (by assumption) ?_
  rotate_left
  · intro w _; go_simp; try with_reducible rfl
  simp [Act.put]
  refine wpAnyH_take (i := 9) (v := ?_) rfl (by kernel_rfl) (by kernel_rfl) (by kernel_rfl) (fun _ _ _ h => h) (Or.inl ⟨by rfl, ?_⟩) (by assumption) ?_
  rotate_left
  · intro w _; go_simp; try with_reducible rfl
  simp [Act.put]
  refine wpAnyH_take (i := 3) (v := .slice (some ⟨D.gs, 0, none⟩) n n) rfl (by kernel_rfl) (by kernel_rfl) (by kernel_rfl) (fun _ _ _ h => h) (Or.inl ⟨by rfl, ?_⟩) (by assumption) ?_
  · intro w hS
    exact ex_ld1 65 23 (.tmp 14) rfl Try.underlying65 D.g 0 _ rfl hS.2.1
  simp [Act.put]
  refine wpAnyH_take (i := 8) (v := .slice (some ⟨D.gn, 0, none⟩) n n) rfl (by kernel_rfl) (by kernel_rfl) (by kernel_rfl) (fun _ _ _ h => h) (Or.inl ⟨by rfl, ?_⟩) (by assumption) ?_
  · intro w hS
    exact ex_ld1 65 23 (.tmp 19) rfl Try.underlying65 D.g 1 _ rfl hS.2.2.1
  simp [Act.put]
  refine wpAnyH_take (i := 10) (v := .agg x.cs.toArray) rfl (by kernel_rfl) (by kernel_rfl) (by kernel_rfl) (fun _ _ _ h => h) (Or.inl ⟨by rfl, ?_⟩) (by assumption) ?_
  · intro w hS
    exact ex_ld (.tmp 5) rfl g0 0 x rfl hS.1
  simp [Act.put]
  refine wpAnyH_take (i := 11) (v := .agg x.cs.toArray) rfl (by kernel_rfl) (by kernel_rfl) (by kernel_rfl) (fun _ _ _ h => h) (Or.inl ⟨by rfl, ?_⟩) (by assumption) ?_
  · intro w hS
    exact ex_ld (.tmp 5) rfl g0 0 x rfl hS.1
  simp [Act.put]
  refine wpAnyH_take (i := 12) (v := ?_) rfl (by kernel_rfl) (by kernel_rfl) (by kernel_rfl) (fun _ _ _ h => h) (Or.inl ⟨by rfl, ?_⟩) (by assumption) ?_
  rotate_left
  · intro w _; go_simp; try with_reducible rfl
  simp [Act.put]
  refine wpAnyH_ready (rs := [13]) (by kernel_rfl) (by simp) ?_
  refine AllReadyH.cons rfl (fun K hK => ?_) AllReadyH.nil
  refine step_st rfl (.tmp 24) (.tmp 22) rfl D.gs (i * 128) x rfl rfl hHeld.2.2.2.1 ?_
  refine hK.out _ _ ((hsame _ D.gs _ (.inl rfl)).out hHeld) (fun hHeld2 => ?_)
  clear hK K hHeld
  simp [Act.put]
  refine wpAnyH_take (i := 14) (v := ?_) rfl (by kernel_rfl) (by kernel_rfl) (by kernel_rfl) (fun _ _ _ h => h) (Or.inl ⟨by rfl, ?_⟩) (by assumption) ?_
  rotate_left
  · intro w _; go_simp; try with_reducible rfl
  simp [Act.put]
  refine wpAnyH_ready (rs := [15]) (by kernel_rfl) (by simp) ?_
  refine AllReadyH.cons rfl (fun K hK => ?_) AllReadyH.nil
  refine step_st rfl (.tmp 25) (.tmp 23) rfl D.gn (i * 128) x rfl rfl hHeld2.2.2.2.2 ?_
  refine hK.out _ _ ((hsame _ D.gn _ (.inr rfl)).out hHeld2) (fun hHeld3 => ?_)
  clear hK K hHeld2
  simp [Act.put]
  refine wpAnyH_done (by kernel_rfl) ?_ _
  have hA2 := Lib.hid ((HA.out.drew.set_st i x hi).set_nw i x hi)
  have hG2 := Lib.hid (((show Goes D w (.slice A s.pend.length c) w1.drew (.slice A s.pend.length c) from ⟨HG.out.chg.drew, HG.out.row⟩).set D.gs (i * 128) x.cs (.inl (.inr (.inl rfl)))).set D.gn (i * 128) x.cs (.inl (.inr (.inr (.inl rfl)))))
  have hr2 := Lib.hid hHeld3.1
  clear HA HG hHeld3 hsame hbl n3 n4
  generalize (w1.drew.setCells D.gs (i * 128) x.cs).setCells D.gn (i * 128) x.cs = w2 at *
  obtain ⟨_, _, h2, _⟩ := hA2.out.fields
  go_wp2_with fail
  go_loopw [31] (fun j wr => ∃ (k : Nat), k ≤ s.pend.length ∧ j = .int .i64 k ∧ At wr B n D (.slice A s.pend.length c) { s with st := s.st.set i x, nw := s.nw.set i x, pend := mixP i x k s.pend } ∧ Goes D w (.slice A s.pend.length c) wr (.slice A s.pend.length c) ∧ wr.rangeAt g0 0 x.cs) (fun i _ => s.pend.length - (intOf i).toNat)
  case atStart => exact ⟨0, by omega, rfl, by rw [mixP_zero]; exact hA2.out, hG2.out, hr2.out⟩
  case round =>
    clear h2 hA2 hG2 hr2
    obtain ⟨k, hk, rfl, hA, hG, hr⟩ := hrel
    have HA := Lib.hid hA
    have HG := Lib.hid hG
    have HR := Lib.hid hr
    clear hG hr
    obtain ⟨_, _, h2, _⟩ := hA.fields
    by_cases hlt : k < s.pend.length
    · have hml : k < (mixP i x k s.pend).length := by rw [mixP_len]; exact hlt
      obtain ⟨gp, cap, heq, _, hgp, _⟩ := own_form hA.pend (by show 0 < (mixP i x k s.pend).length; omega)
      simp only [Value.slice.injEq] at heq
      obtain ⟨rfl, hlen, rfl⟩ := heq
      clear hlen
      have hrow := hA.pend
      simp only [mixP_len] at hrow
      have hkey := own_sec hrow k hml
      rw [mixP_at i x k s.pend hlt hml] at hkey
      have hnum := hkey 0 _ rfl
      rw [Nat.add_zero] at hnum
      have HL := Lib.hid hlt
      have HM := Lib.hid (mixP_hit i x k s.pend hlt)
      have HN := Lib.hid (mixP_miss i x k s.pend hlt)
      have HC := Lib.hid (mixP_at i x k s.pend hlt hml)
      have hth := Lib.hid (own_there hrow (k * 129 + 1) 128 (by omega))
      clear hA hkey hrow
      have hki : (k : Int) < s.pend.length := by omega
      by_cases he : s.pend[k].1 = i
      · have hb : ((s.pend[k].1 : Int) == (i : Int)) = true := by rw [beq_iff_eq]; omega
        have HM2 := Lib.hid (HM.out he hml)
        clear HM HN he
        generalize (s.pend[k].1 : Int) = z at *
        go_wp2_with fail
        refine wp_region_still_tail 8 (by kernel_rfl) (by kernel_rfl) ?_
        simp only [List.take_succ_cons, List.take_zero, List.drop_succ_cons, List.drop_zero]
        change wpStill _ _ wr.drew (fun a' => wpList _ _ _ _ a' wr.drew) _ _
        have hA4 := Lib.hid HA.out.drew
        have hG4 : Hid (Goes D w (.slice (some ⟨gp, 0, none⟩) s.pend.length c) wr.drew (.slice (some ⟨gp, 0, none⟩) s.pend.length c)) := ⟨HG.out.chg.drew, HG.out.row⟩
        have hR4 : Hid (wr.drew.rangeAt g0 0 x.cs) := HR.out
        have hth4 : Hid (wr.drew.there gp (k * 129 + 1) 128) := hth.out
        clear HA HG HR hth hnum h2
        generalize wr.drew = w4 at *
        obtain ⟨_, _, h2, _⟩ := hA4.out.fields
        iterate 5 still_step
        with_reducible refine still_ld rfl _ rfl g0 0 x rfl hR4.out ?_
        iterate 2 still_step
        refine wpStill_nil ?_
        go_wp2_with (with_reducible refine st_sec rfl _ _ rfl gp (k * 129 + 1) x rfl rfl hth4.out ?_; intro w5 hw5)
        go_roundw
        case rel =>
          have hA5 := hA4.out.rot_pend k hml x
          refine ⟨k + 1, by omega, by go_num, ?_, ?_, ?_⟩
          · rw [HM2.out, hw5.out]
            exact hA5
          · rw [hw5.out]
            exact hG4.out.set gp (k * 129 + 1) x.cs (.inl (.inr (.inr (.inr rfl))))
          · rw [hw5.out]
            exact World.rangeAt_setCells_apart hR4.out _ _ _ (.inl fun e => hfar.out (.inr (.inr (.inr (by rw [e]; rfl)))))
        case measure =>
          have := HL.out
          simp [intOf]
          omega
      · have hb : ((s.pend[k].1 : Int) == (i : Int)) = false := by rw [beq_eq_false_iff_ne]; omega
        have HN2 := Lib.hid (HN.out he)
        clear HM HN he
        generalize (s.pend[k].1 : Int) = z at *
        go_wp2_with fail
        go_roundw
        case rel => exact ⟨k + 1, by omega, by go_num, by rw [HN2.out]; exact HA.out, HG.out, HR.out⟩
        case measure =>
          have := HL.out
          simp [intOf]
          omega
    · rw [mixP_all i x k s.pend (by omega)] at HA
      clear hA
      go_wp2_with fail
      go_ret
      exact ⟨rfl, HA.out, HG.out⟩
theorem rot_any (h : At w B n D pv s) (hp : s.pend.length ≤ 1000000) (i : Int) (x : Sec) :
    Calls Try.prog 13 #[.pointer (some ⟨D.g, 0, none⟩), .int .i64 i, .agg x.cs.toArray] w fun e w' =>
    e = .returned (.int .i64 (s.rot n i x).2) ∧ At w' B n D pv (s.rot n i x).1 ∧ Goes D w pv w' pv := by
  unfold St.rot
  by_cases h1 : hasF n i = true
  · rw [if_pos h1]
    have h1' := h1
    unfold hasF at h1'
    rw [decide_eq_true_iff] at h1'
    obtain ⟨k, rfl⟩ := Int.eq_ofNat_of_zero_le h1'.1
    exact rot_ok h (by omega) k x (by omega)
  · rw [if_neg h1]
    exact rot_none h i x (by simpa using h1)
end
end Go.Proofs.Ytddhacmaogaocaa
