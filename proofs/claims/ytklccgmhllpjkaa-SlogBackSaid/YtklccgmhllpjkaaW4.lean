
/- Walks: the reference's sets of bools. -/
import Derived.Test.YtklccgmhllpjkaaW3
import Derived.Deep.WholeRow
set_option maxRecDepth 10000
namespace Go.Proofs.Ytklccgmhllpjkaa
open Go.RowKit
theorem buildArr : ∀ w, (Instr.build 48 #[]).run Try.prog w = .ok (.agg falses) w := by
  intro w
  exact run_build w _ _ _ (by kernel_rfl)
theorem sizeArr : (Try.prog.info? 48).map (·.size) = some 4096 := by kernel_rfl
theorem sizeArr' (S : Int → Bool) : (Try.prog.info? 48).map (·.size) = some (barr S).size := by rw [barr_size]; exact sizeArr
theorem barr_one (S : Int → Bool) : (barr S).all (·.oneCell') = true := by
  rw [Array.all_eq_true_iff_forall_mem]
  intro v hv
  simp only [barr, Array.mem_map] at hv
  obtain ⟨n, _, rfl⟩ := hv
  rfl
/-- A whole array of bools is stored over another. -/
theorem st_arr {ops : Array Oper} {rest : List Oper} {o : Oper} {a : Act} {w : World} {Q : Exit → Act → World → Prop} (hgd : o.guard = none) (x y : Operand) (ho : o.op = .store 48 x y)
    (g : Nat) (S T : Int → Bool) (hx : a.eval x = .pointer (some ⟨g, 0, none⟩)) (hy : a.eval y = .agg (barr T)) (hg : Blk w g 48 (barr S))
    (h : ∀ w', Blk w' g 48 (barr T) → w'.heap.size = w.heap.size → (∀ B, B ≤ g → Below B w w') → wpList Try.prog ops Q rest (a.put o.dst undef) w') : wpList Try.prog ops Q (o :: rest) a w :=
  wpList_store_row hgd _ x y ho g (barr T) hx hy 48 (barr S) hg (sizeArr' T) (by rw [barr_size, barr_size]) (barr_one T)
    (h _ (by unfold Blk at hg ⊢; simp [World.setRow, Array.getElem?_modify, hg]) (by simp) fun B hB => ⟨rfl, rfl, rfl, by simp, fun k hk => by
      simp only [World.setRow, Array.getElem?_modify]
      rw [if_neg (by omega)]⟩)
/-- A whole array of bools is loaded. -/
theorem ld_arr {ops : Array Oper} {rest : List Oper} {o : Oper} {a : Act} {w : World} {Q : Exit → Act → World → Prop} (hgd : o.guard = none) (x : Operand) (ho : o.op = .load 48 x)
    (g : Nat) (S : Int → Bool) (hx : a.eval x = .pointer (some ⟨g, 0, none⟩)) (hg : Blk w g 48 (barr S))
    (h : wpList Try.prog ops Q rest (a.put o.dst (.agg (barr S))) w) : wpList Try.prog ops Q (o :: rest) a w :=
  wpList_load_row hgd _ x ho g hx 48 (barr S) (0, 0) _ hg Try.underlying48 rfl (sizeArr' S) h
def noB : Int → Bool := fun _ => false

theorem noB_eq : (fun _ => false) = noB := rfl
theorem built_end {S : Int → Bool} {k : Nat} (hk : k ≤ 4096) {s n : Int} {r : List Sp} (h : buildR S k = (s, n) :: r) : 0 < k ∧ 0 ≤ s ∧ 0 ≤ n ∧ s + n ≤ k ∧ (s + n = k ↔ S ((k - 1 : Nat) : Int) = true) := by
  rcases k with _ | k
  · simp [buildR] at h
  · have hb := build_built S k (by omega)
    have hb' := build_built S (k + 1) hk
    have hin := (built_in (S := S) hk).1 (s, n) (by rw [h]; simp)
    have he := hb'.ends
    rw [h, List.reverse_cons, end_app] at he
    simp only [endF] at he
    refine ⟨by omega, hin.1, hin.2.1, by omega, ?_⟩
    simp only [Nat.add_sub_cancel]
    simp only [buildR] at h
    by_cases hS : S k = true
    · rw [if_pos hS] at h
      refine ⟨fun _ => hS, fun _ => ?_⟩
      rcases hR : buildR S k with _ | ⟨⟨s', n'⟩, r'⟩
      · rw [hR] at h
        simp only [addR, List.cons.injEq, Prod.mk.injEq] at h
        omega
      · rw [hR] at h
        by_cases e : s' + n' = k
        · rw [addR_hit e] at h
          simp only [List.cons.injEq, Prod.mk.injEq] at h
          omega
        · rw [addR_miss e] at h
          simp only [List.cons.injEq, Prod.mk.injEq] at h
          omega
    · rw [if_neg hS] at h
      have he := hb.ends
      rw [h, List.reverse_cons, end_app] at he
      simp only [endF] at he
      exact ⟨fun h => by omega, fun h => absurd h hS⟩

set_option maxHeartbeats 1000000 in
theorem set_any (S : Int → Bool) (w : World) :
    Calls Try.prog 30 #[.agg (barr S)] w fun e w' => ∃ v, e = .returned v ∧ OwnR w' w.heap.size v (canon S).reverse ∧ Below w.heap.size w w' := by
  go_enter Try.func30, Try.ntmps30
  go_wp2_with fail
  go_loopw [3, 4] (fun v i wr => ∃ (k : Nat), k ≤ 4096 ∧ i = .int .i64 k ∧ OwnR wr (w.heap.size + 1) v (buildR S k) ∧ Blk wr w.heap.size 48 (barr S) ∧ Below w.heap.size w wr) (fun _ i _ => 4096 - (intOf i).toNat)
  case atStart =>
    refine ⟨0, by omega, rfl, ?_, ?_, ((Below.refl _ _).alloc (by simp) _).alloc (by simp) _⟩
    · have h := World.ownsRow_lit (base := w.heap.size + 1) (e := 52) (size := 2) (w.alloc (.cells (barr S) 48)) #[] 0 (by simp) (by simp) rfl
      simpa [OwnR, buildR, spc] using h
    · exact (Blk.new w _ _).below ((Below.refl (w.heap.size + 1) _).alloc (by simp) _) (by omega)
  case round =>
    obtain ⟨k, hk, rfl, hown, hbl, hb⟩ := hrel
    have hsz := hbl.lt
    by_cases hlt : k < 4096
    · have hcell : wr.cell? ⟨w.heap.size, k, none⟩ = some (.bool (S k)) := (hbl.cell k).trans (barr_at S k hlt)
      have hcell' : wr.cell? ⟨w.heap.size, k - 1, none⟩ = some (.bool (S (k - 1 : Nat))) := (hbl.cell _).trans (barr_at S _ (by omega))
      obtain ⟨hin, hlen⟩ := built_in (S := S) hk
      have HL := Lib.hid hlen; clear hlen hin
      have hst : buildR S (k + 1) = if S k then addR (buildR S k) k (k + 1) else buildR S k := rfl
      have hlt' : (k : Int) < 4096 := by omega
      have hend := fun s n r => built_end (S := S) hk (s := s) (n := n) (r := r)
      have HE := Lib.hid hend; clear hend
      have HK := Lib.hid (And.intro hk hlt); clear hk hlt
      by_cases hS : S k = true
      · rw [if_pos hS] at hst
        rw [hS] at hcell
        have HO := Lib.hid hown
        clear hown hS
        by_cases h0 : 0 < k
        · have h0' : decide (0 < k) = true := by simpa using h0
          by_cases hp : S (k - 1 : Nat) = true
          · obtain ⟨s, n, r, hR⟩ : ∃ s n r, buildR S k = (s, n) :: r := by
              rcases hR : buildR S k with _ | ⟨⟨s, n⟩, r⟩
              · have hm := (build_built S k HK.out.1).mem (k - 1 : Nat)
                rw [hR, hp] at hm
                simp [memF] at hm
                omega
              · exact ⟨s, n, r, rfl⟩
            obtain ⟨_, hs0, hn0, hsn, he⟩ := HE.out s n r hR
            rw [hR, addR_hit (he.2 hp)] at hst
            have HS := Lib.hid hst
            have HO' : Hid (OwnR wr (w.heap.size + 1) u3 ((s, n) :: r)) := by rw [← hR]; exact HO.out
            rw [hR] at HL
            clear hst he hR HE HO
            rw [hp] at hcell'
            clear hp
            obtain ⟨g, cap, rfl, hg1, hg2, hg3⟩ := own_form HO'.out (by simp)
            obtain ⟨hc1, hc2⟩ := OwnR.last HO'.out
            have hfz : wr.frozen? ⟨g, r.length * 2 + 1, none⟩ = false := World.ownsRow.frozenAt HO'.out _
            have HL' : r.length + 1 ≤ 1048576 := HL.out
            clear HL
            go_wp2_with fail
            go_roundw
            case rel =>
              obtain ⟨h1, h2⟩ := World.ownsRow.stored HO'.out (r.length * 2 + 1) (.int .i64 (n + 1))
              rw [spc_set] at h1
              exact ⟨k + 1, HK.out.2, by go_num, by rw [HS.out, show n + ((k : Int) + 1 - k) = n + 1 from by omega]; exact h1, hbl.below ((Below.refl (w.heap.size + 1) _).setCell hg1 _) (by omega), hb.setCell (by simp; omega) _⟩
            case measure => simp [intOf]; have := HK.out; omega
          · have hst' : buildR S (k + 1) = ((k : Int), 1) :: buildR S k := by
              rw [hst]
              rcases hR : buildR S k with _ | ⟨⟨s, n⟩, r⟩
              · simp only [addR]; congr 2; omega
              · obtain ⟨_, _, _, _, he⟩ := HE.out s n r hR
                rw [addR_miss (fun e => hp (he.1 e))]; congr 2; omega
            have HS := Lib.hid hst'
            rw [Bool.eq_false_iff.2 hp] at hcell'
            clear hst hst' hp HE
            go_wp2_with (at_builtin; refine app_span rfl 32 35 rfl (w.heap.size + 1) _ (buildR S k) rfl HO.out k 1 rfl (by omega) HL.out ?_; intro v' w' hown' hgr)
            go_roundw
            case rel => exact ⟨k + 1, HK.out.2, by go_num, by rw [HS.out]; exact hown', hbl.below (below_own ((Below.refl (w.heap.size + 1) _).alloc (by omega) _) (World.ownsRow.alloc HO.out _) (Nat.le_refl _) (by simp; omega) hgr) (by omega), below_own (hb.alloc (by omega) _) (World.ownsRow.alloc HO.out _) (by omega) (by simp; omega) hgr⟩
            case measure => simp [intOf]; have := HK.out; omega
        · obtain rfl : k = 0 := by omega
          have HS : Hid (buildR S 1 = [(0, 1)]) := by
            have : buildR S (0 + 1) = _ := hst
            rw [this]; rfl
          clear hst HE
          go_wp2_with (at_builtin; refine app_span rfl 32 35 rfl (w.heap.size + 1) _ [] rfl HO.out 0 1 rfl (by omega) (by simp) ?_; intro v' w' hown' hgr)
          go_roundw
          case rel => exact ⟨1, by omega, by go_num, by rw [HS.out]; exact hown', hbl.below (below_own ((Below.refl (w.heap.size + 1) _).alloc (by omega) _) (World.ownsRow.alloc HO.out _) (Nat.le_refl _) (by simp; omega) hgr) (by omega), below_own (hb.alloc (by omega) _) (World.ownsRow.alloc HO.out _) (by omega) (by simp; omega) hgr⟩
          case measure => simp [intOf]
      · rw [if_neg hS] at hst
        rw [Bool.eq_false_iff.2 hS] at hcell
        have HS := Lib.hid hst; clear hst hS
        have HO := Lib.hid hown; clear hown
        go_wp2_with fail
        go_roundw
        case rel => exact ⟨k + 1, HK.out.2, by go_num, by rw [HS.out]; exact HO.out, hbl, hb⟩
        case measure => simp [intOf]; have := HK.out; omega
    · obtain rfl : k = 4096 := by omega
      have HO := Lib.hid hown; clear hown
      go_wp2_with fail
      go_ret
      exact ⟨_, rfl, own_base (base := w.heap.size + 1) (by unfold canon; rw [List.reverse_reverse]; exact HO.out) (by omega), hb⟩

/-- What is in the first spans, and in the first m numbers of one more. -/
def memK (l : List Sp) (k : Nat) (s m n : Int) : Bool := memF (l.take k) n || inSp (s, m) n
set_option maxHeartbeats 1000000 in
theorem bits_any (A : Option Addr) (c : Nat) (l : List Sp) (w : World) (hs : Rd w w.heap.size A (spc l)) (hr : rightF 0 l = true) :
    Calls Try.prog 28 #[.slice A l.length c] w fun e w' => e = .returned (.agg (barr (memF l))) ∧ Below w.heap.size w w' := by
  have hz : ∀ w, Sem.run Try.prog (zeroValue 48) w = .ok (.agg (barr noB)) w := by unfold noB; rw [← falses_eq]; exact zeroArr
  have hbd : ∀ w, (Instr.build 48 #[]).run Try.prog w = .ok (.agg (barr noB)) w := by unfold noB; rw [← falses_eq]; exact buildArr
  have hl : l.length ≤ 4097 := by have := right_len (by omega) (by omega) hr; omega
  have hmem := right_mem hr
  have HM := Lib.hid hmem
  have HL := Lib.hid hl
  have hl' : (l.length : Int) ≤ 4097 := by omega
  obtain ⟨S, hS⟩ : ∃ S, S = memF l := ⟨_, rfl⟩
  rw [← hS]
  have HSl := Lib.hid hS; clear hS hr hmem hl
  go_enter Try.func28, Try.ntmps28
  go_wp2_with ((with_reducible refine st_arr rfl _ _ rfl (w.heap.size + 1) noB noB rfl rfl (by simpa using Blk.new (w.alloc (.cells (barr noB) 48)) _ _) ?_); intro w1 hbl hsz1 hbb)
  have hb1 : Below w.heap.size w w1 := (((Below.refl _ _).alloc (Nat.le_refl _) _).alloc (by simp) _).trans (hbb _ (by omega))
  have hbr : Blk w1 w.heap.size 48 (barr noB) := ((Blk.new w _ _).below ((Below.refl (w.heap.size + 1) _).alloc (by simp) _) (by omega)).below (hbb (w.heap.size + 1) (by omega)) (by omega)
  clear hz hbd hsz1 hbb
  go_loopw [10] (fun i wr => ∃ (k : Nat), k ≤ l.length ∧ i = .int .i64 k ∧ Blk wr (w.heap.size + 1) 48 (barr (memF (l.take k))) ∧ Blk wr w.heap.size 48 (barr noB) ∧ Below w.heap.size w wr) (fun i _ => l.length - (intOf i).toNat)
  case atStart => exact ⟨0, by omega, rfl, hbl, hbr, hb1⟩
  case round =>
    clear hbl hb1 hbr
    obtain ⟨k, hk, rfl, hbl, hbr, hb⟩ := hrel
    have hsz := hbl.lt
    by_cases hlt : k < l.length
    · obtain ⟨b, off, rfl, hbB, hc1, hc2⟩ := sp_at hs k hlt
      obtain ⟨hc, hf⟩ := bcell hb
      obtain ⟨hs0, hn1, hsn⟩ := HM.out _ (List.getElem_mem hlt)
      have hsnoc : ∀ x, memF (l.take (k + 1)) x = (memF (l.take k) x || inSp l[k] x) := fun x => by
        rw [List.take_succ_eq_append_getElem hlt, mem_app]; simp [memF]
      have HI := Lib.hid hsnoc; clear hsnoc
      generalize l[k] = p at *
      obtain ⟨s, n⟩ := p
      simp only at hc1 hc2 hs0 hn1 hsn
      obtain ⟨s, rfl⟩ := Int.eq_ofNat_of_zero_le hs0
      obtain ⟨n, rfl⟩ := Int.eq_ofNat_of_zero_le (show 0 ≤ n by omega)
      go_wp2_with fail
      obtain ⟨wo, rfl⟩ : ∃ wo : World, wo = wr := ⟨_, rfl⟩
      go_loopw [6] (fun i wr => ∃ (m : Nat), (m : Int) ≤ n ∧ i = .int .i64 m ∧ Blk wr (w.heap.size + 1) 48 (barr (memK l k s m)) ∧ Blk wr w.heap.size 48 (barr noB) ∧ Blk wr wo.heap.size 52 #[.int .i64 s, .int .i64 n] ∧ Below w.heap.size w wr) (fun i _ => n - (intOf i).toNat)
      case atStart =>
        have hba : Below wo.heap.size wo (wo.alloc (.cells #[.int .i64 s, .int .i64 n] 52)) := (Below.refl _ _).alloc (Nat.le_refl _) _
        refine ⟨0, by omega, rfl, ?_, hbr.below hba (by omega), Blk.new _ _ _, hb.trans (hba.mono hb.size)⟩
        rw [show barr (memK l k s (0 : Nat)) = barr (memF (l.take k)) from barr_congr fun x _ _ => by unfold memK; rw [show inSp (s, ((0 : Nat) : Int)) x = false from by simp [inSp], Bool.or_false]]
        exact hbl.below hba (by omega)
      case round =>
        clear hbl hb hbr
        obtain ⟨m, hm, rfl, hbl, hbr, hbs, hb⟩ := hrel
        have hg0 := hbs.cell 0
        have hg1 := hbs.cell 1
        simp only [List.getElem?_toArray, List.getElem?_cons_zero, List.getElem?_cons_succ] at hg0 hg1
        by_cases hmn : (m : Int) < n
        · have hcell : wr.cell? ⟨w.heap.size + 1, s + m, none⟩ = some (.bool (memK l k s m (s + m : Nat))) := (hbl.cell _).trans (barr_at _ _ (by omega))
          have hfz := hbl.frozen (s + m)
          have hstep := barr_set (S := memK l k s m) (T := memK l k s (m + 1 : Nat)) (b := true) (s + m) (by omega) (by simp [memK, inSp]; right; omega) (fun x _ _ hx => by
            unfold memK; congr 1; rw [Bool.eq_iff_iff]; simp [inSp]; omega)
          have HT := Lib.hid hstep; clear hstep
          generalize memK l k s m (s + m : Nat) = bm at hcell
          go_wp2_with fail
          go_roundw
          case rel => exact ⟨m + 1, by omega, by go_num, by rw [← HT.out]; exact hbl.set_ _ _, hbr.below ((Below.refl (w.heap.size + 1) _).setCell (Nat.le_refl _) _) (by omega), hbs.far (by simp; omega) _, hb.setCell (by simp) _⟩
          case measure => simp [intOf]; omega
        · go_wp2_with fail
          go_roundw
          case rel => exact ⟨k + 1, by omega, by go_num, by rw [barr_congr (S := memF (l.take (k + 1))) (T := memK l k s m) (fun x _ _ => by rw [HI.out, show m = n from by omega]; rfl)]; exact hbl, hbr, hb⟩
          case measure => simp [intOf]; omega
    · rw [List.take_of_length_le (by omega)] at hbl
      rw [← HSl.out] at hbl
      go_wp2_with (first
        | ((with_reducible refine ld_arr rfl _ rfl (w.heap.size + 1) S rfl hbl ?_))
        | ((with_reducible refine st_arr rfl _ _ rfl w.heap.size noB S rfl rfl hbr ?_); intro w2 hbl2 hsz2 hbb2))
      refine bodyPost_ret (v := .agg (barr S)) (results_cell_row rfl _ _ _ _ _ _ _ rfl hbl2 Try.underlying48 rfl (sizeArr' S)) rfl ⟨rfl, hb.trans (hbb2 _ (Nat.le_refl _))⟩
end Go.Proofs.Ytklccgmhllpjkaa
