/- The program's Diff, Condense. -/
import Derived.Test.YtklccgmhllpjkaaJ15
set_option maxRecDepth 10000
namespace Go.Proofs.Ytklccgmhllpjkaa
open Go.RowKit

/-- append of all elements, each of so many cells, of a slice that is read as a list. -/
theorem app_many {P : Program} {T E : TypeId} {z : Value} {size bytes : Nat} (hT : P.underlying T = some (.slice E)) (hinfo : (P.info? E).map (fun i => (i.zero, i.size, i.bytes)) = some (some z, size, bytes)) (hz1 : z.cells.size = size) (hsz : 0 < size)
    {ops : Array Oper} {rest : List Oper} {o : Oper} {a : Act} {w : World} {Q : Exit → Act → World → Prop} (hgd : o.guard = none) (s x : Nat)
    (ho : o.op = .call { callee := .builtin .append, args := #[.tmp s, .tmp x], argTypes := #[T, T] })
    (base : Nat) (v : Value) (n : Nat) (xs : List Value) (hs : a.eval (.tmp s) = v) (hown : w.ownsRow base E size v n xs) (B : Nat) (A : Option Addr) (m c : Nat) (news : List Value)
    (hx : a.eval (.tmp x) = .slice A m c) (hm : news.length = m * size) (hr : Rd w B A news) (h1 : ∀ u ∈ news, u.oneCell' = true) (hbase : base ≤ w.heap.size) (hb0 : 0 < bytes) (hn : (n + m) * bytes ≤ 140737488355328)
    (h : ∀ v' w', w'.ownsRow base E size v' (n + m) (xs ++ news) → w.grownBy w' v.ownBlock → wpList P ops Q rest (a.put o.dst v') w') :
    wpList P ops Q (o :: rest) a w := by
  obtain ⟨i0, hi0, hz0, hz2, hz3⟩ := info_parts hinfo
  have hn1 : n + m ≤ 140737488355328 := Nat.le_trans (Nat.le_mul_of_pos_right _ hb0) hn
  rcases Nat.eq_zero_or_pos m with h0 | h0
  · subst h0
    obtain rfl : news = [] := List.eq_nil_of_length_eq_zero (by omega)
    refine wpList_plain hgd fun K hK => ?_
    have hrun := run_app_none (P := P) w base T o.type E i0 size hT hi0 v n xs hown A c
    unfold Oper.wp execOp
    simp only [ho, resolve, invoke, builtin, Sem.run_bind, Sem.run_pure, Result.andThen_ok, List.map_toArray, List.map_cons, List.map_nil, hs, hx, hrun]
    refine hK _ _ (h v w (by simpa using hown) ⟨rfl, rfl, rfl, Nat.le_refl _, fun _ _ _ => rfl⟩)
  · have hpos : 0 < m * size := Nat.mul_pos h0 hsz
    obtain ⟨b, off, rfl, _, _⟩ := hr (by omega)
    refine wpList_append_own _ hgd (.tmp s) (.tmp x) _ ho base E i0 _ size bytes hT hi0 hz0 hz2 hz3 hz1 hsz v n xs hs hown
      ⟨b, off, none⟩ m c news hx hm (rd_add hr) h1 (by simp only [maxLen]; omega) hn hbase ?_
    intro v' w' h1 h2 _
    exact h v' w' h1 h2
theorem cut_mix (l m : List Sp) : cutS l m = canon (mixF 1 (memF l) (memF m)) := by
  unfold cutS mixF
  simp
theorem MInv.lift {w w2 w3 : World} {v : Value} {l : List Mv} (hb : Below w.heap.size w w2) (h : MInv w2 w3 w2.heap.size v l) : MInv w w3 w.heap.size v l :=
  ⟨own_base h.own hb.size, hb.trans (h.below.mono hb.size), Nat.le_trans hb.size h.le⟩
theorem mvs_app (a b : List Mv) : mvs (a ++ b) = mvs a ++ mvs b := by simp [mvs]
theorem MInv.many {w wr w' : World} {base : Nat} {v v' : Value} {l m : List Mv} (h : MInv w wr base v l) (ho : w'.ownsRow base 54 3 v' (l.length + m.length) (mvs l ++ mvs m)) (hg : wr.grownBy w' v.ownBlock) : MInv w w' base v' (l ++ m) :=
  ⟨by
    show w'.ownsRow base 54 3 v' (l ++ m).length (mvs (l ++ m))
    rw [mvs_app, List.length_append]
    exact ho, below_own h.below h.own (Nat.le_refl _) h.le hg, Nat.le_trans h.le hg.size⟩
set_option maxHeartbeats 1000000 in
theorem diff_any (A A' : Option Addr) (c c' : Nat) (l m : List Sp) (w : World) (h : SpL w A c l) (k : SpL w A' c' m) :
    Calls Try.prog 16 #[.slice A l.length c, .slice A' m.length c'] w (GivesM (diffF l m) w) := by
  have HR := Lib.hid (fun W (hW : Below w.heap.size w W) => have h := h.later hW; right_any A c l W h.rd h.ok h.len)
  have HR' := Lib.hid (fun W (hW : Below w.heap.size w W) => have k := k.later hW; right_any A' c' m W k.rd k.ok k.len)
  cases hr : rightF 0 l with
  | false =>
    rw [hr] at HR
    have HE : Hid (diffF l m = []) := if_neg (by rw [hr]; simp)
    clear h k hr HR'
    go_enter Try.func16, Try.ntmps16
    go_wp2_with (go_at_call 23; (with_reducible refine Calls.mono (HR.out _ (Below.refl _ _)) ?_); rintro e w1 ⟨rfl, hb1⟩)
    go_ret
    rw [HE.out]
    exact ⟨none, 0, rfl, Rd.nil, Nat.le_refl _, hb1⟩
  | true =>
    cases hr' : rightF 0 m with
    | false =>
      rw [hr] at HR
      rw [hr'] at HR'
      have HE : Hid (diffF l m = []) := if_neg (by rw [hr']; simp)
      clear h k hr hr'
      go_enter Try.func16, Try.ntmps16
      go_wp2_with (first
        | (go_at_call 23; (with_reducible refine Calls.mono (HR.out _ (Below.refl _ _)) ?_); rintro e w1 ⟨rfl, hb1⟩; have HB1 := Lib.hid hb1; clear hb1 HR)
        | (go_at_call 23; (with_reducible refine Calls.mono (HR'.out _ HB1.out) ?_); rintro e w2 ⟨rfl, hb2⟩; have HB2 := Lib.hid (HB1.out.trans (hb2.mono HB1.out.size)); clear hb2 HR'))
      go_ret
      rw [HE.out]
      exact ⟨none, 0, rfl, Rd.nil, Nat.le_refl _, HB2.out⟩
    | true =>
      rw [hr] at HR
      rw [hr'] at HR'
      have HE : Hid (diffF l m = diffS (memF l) (memF m)) := if_pos ⟨hr, hr'⟩
      have HX := Lib.hid (fun W (hW : Below w.heap.size w W) => have h := h.later hW; have k := k.later hW; cut_any A A' c c' l m W h.rd hr k.rd hr' h.cap k.cap)
      have HX' := Lib.hid (fun W (hW : Below w.heap.size w W) => have h := h.later hW; have k := k.later hW; cut_any A' A c' c m l W k.rd hr' h.rd hr k.cap h.cap)
      rw [HE.out]
      rw [cut_mix] at HX HX'
      clear HE h k hr hr'
      unfold diffS
      have HL1 := Lib.hid (canon_len (mixF 1 (memF l) (memF m)))
      have HL2 := Lib.hid (canon_len (mixF 1 (memF m) (memF l)))
      generalize canon (mixF 1 (memF l) (memF m)) = L1 at *
      generalize canon (mixF 1 (memF m) (memF l)) = L2 at *
      go_enter Try.func16, Try.ntmps16
      go_wp2_with (first
        | (go_at_call 23; (with_reducible refine Calls.mono (HR.out _ (Below.refl _ _)) ?_); rintro e w1 ⟨rfl, hb1⟩; have HB1 := Lib.hid hb1; clear hb1 HR)
        | (go_at_call 23; (with_reducible refine Calls.mono (HR'.out _ HB1.out) ?_); rintro e w2 ⟨rfl, hb2⟩; have HB2 := Lib.hid (HB1.out.trans (hb2.mono HB1.out.size)); clear hb2 HR')
        | (go_at_call 32; (with_reducible refine Calls.mono (HX.out _ HB2.out) ?_); rintro e w3 ⟨B1, d1, rfl, hrd1, _, hb3⟩; have HB3 := Lib.hid (HB2.out.trans (hb3.mono HB2.out.size)); have HA1 := Lib.hid (all_any false B1 d1 L1 _ hrd1 HL1.out); clear hb3 hrd1 HX)
        | (go_at_call 31; (with_reducible refine Calls.mono HA1.out ?_); rintro e w4 ⟨v1, rfl, hi4⟩; have HI4 := Lib.hid (hi4.lift HB3.out); have HB4 := Lib.hid HI4.out.below; clear hi4 HA1)
        | (go_at_call 32; (with_reducible refine Calls.mono (HX'.out _ HB4.out) ?_); rintro e w5 ⟨B2, d2, rfl, hrd2, _, hb5⟩; have HI5 := Lib.hid (HI4.out.fresh hb5); have HA2 := Lib.hid (all_any true B2 d2 L2 _ hrd2 HL2.out); clear hb5 hrd2 HX')
        | (go_at_call 31; (with_reducible refine Calls.mono HA2.out ?_); rintro e w6 ⟨v2, rfl, hi6⟩; have HI6 := Lib.hid (HI5.out.fresh hi6.below); obtain ⟨A2, c2, rfl, r2, _⟩ := own_rd hi6.own; have HR2 := Lib.hid r2; clear hi6 HA2 r2)
        | (at_builtin; refine app_many Try.underlying27 infoMv rfl (by omega) rfl 16 20 rfl w.heap.size _ _ _ rfl HI6.out.own _ A2 (spM true L2).length c2 (mvs (spM true L2)) rfl (mvs_len _) HR2.out (mvs_one _) HI6.out.le (by omega) (by have := HL1.out; have := HL2.out; rw [spM_len, spM_len]; omega) ?_; intro v' w7 ho7 hg7; have HI7 := Lib.hid (HI6.out.many ho7 hg7)))
      go_ret
      exact HI7.out.gives rfl
theorem condense_any (A : Option Addr) (c : Nat) (l : List Sp) (w : World) (h : SpL w A c l) : Calls Try.prog 12 #[.slice A l.length c] w (GivesM (diffF [] l) w) := by
  have HD := Lib.hid (show Calls Try.prog 16 #[.slice none 0 0, .slice A l.length c] w (GivesM (diffF [] l) w) from diff_any none A 0 c [] l w SpL.nil h)
  clear h
  go_enter Try.func12, Try.ntmps12
  go_wp2_with (go_at_call 16; (with_reducible refine Calls.mono HD.out ?_); rintro e w1 ⟨B, d, rfl, h1, h2, h3⟩; have H1 := Lib.hid (And.intro h1 (And.intro h2 h3)); clear h1 h2 h3)
  go_ret
  exact ⟨B, d, rfl, H1.out⟩
end Go.Proofs.Ytklccgmhllpjkaa
