
/- Walks: add. -/
import Derived.Test.YtddhacmaogaocaaW1
import Derived.Maps.AppendAt
set_option maxRecDepth 10000
namespace Go.Proofs.Ytddhacmaogaocaa
open Go.RowKit

theorem infoSpan : (Try.prog.info? 92).map (fun i => (i.zero, i.size, i.bytes)) = some (some (.agg #[.int .i64 0, .int .i64 0]), 2, 16) := by kernel_rfl
theorem infoInt : (Try.prog.info? 3).map (fun i => (i.zero, i.size, i.bytes)) = some (some (.int .i64 0), 1, 8) := by kernel_rfl

/-- What stands in reverse is owned. -/
def OwnR (w : World) (base : Nat) (v : Value) (R : List Sp) : Prop := w.ownsRow base 92 2 v R.length (spc R.reverse)

theorem spc_last (r : List Sp) (s n : Int) : spc ((s, n) :: r).reverse = spc r.reverse ++ [.int .i64 s, .int .i64 n] := by
  rw [List.reverse_cons, spc_app]; rfl
theorem spc_rev_len (r : List Sp) : (spc r.reverse).length = r.length * 2 := by rw [spc_len, List.length_reverse]
theorem spc_last0 (r : List Sp) (s n : Int) : (spc ((s, n) :: r).reverse)[r.length * 2]? = some (.int .i64 s) := by
  rw [spc_last, List.getElem?_append_right (by rw [spc_rev_len]; omega), spc_rev_len]; simp
theorem spc_last1 (r : List Sp) (s n : Int) : (spc ((s, n) :: r).reverse)[r.length * 2 + 1]? = some (.int .i64 n) := by
  rw [spc_last, List.getElem?_append_right (by rw [spc_rev_len]; omega), spc_rev_len]; simp
theorem spc_set (r : List Sp) (s n n' : Int) : (spc ((s, n) :: r).reverse).set (r.length * 2 + 1) (.int .i64 n') = spc ((s, n') :: r).reverse := by
  rw [spc_last, spc_last, List.set_append_right _ _ (by rw [spc_rev_len]; omega), spc_rev_len]; simp

theorem OwnR.last {w : World} {base g cap : Nat} {s n : Int} {r : List Sp} (h : OwnR w base (.slice (some ⟨g, 0, none⟩) (r.length + 1) cap) ((s, n) :: r)) :
    w.cell? ⟨g, r.length * 2, none⟩ = some (.int .i64 s) ∧ w.cell? ⟨g, r.length * 2 + 1, none⟩ = some (.int .i64 n) := by
  have h' : w.ownsRow base 92 2 (.slice (some ⟨g, 0, none⟩) (r.length + 1) cap) (r.length + 1) (spc ((s, n) :: r).reverse) := h
  exact ⟨(h'.cellAt _ (by omega)).trans (spc_last0 r s n), (h'.cellAt _ (by omega)).trans (spc_last1 r s n)⟩

theorem cells_new (w : World) (cs : Array Value) (t : TypeId) : ∀ j u, cs.toList[j]? = some u → (w.alloc (.cells cs t)).cell? ((⟨w.heap.size, 0, none⟩ : Addr).add j) = some u := by
  intro j u hu
  have e : (⟨w.heap.size, 0, none⟩ : Addr).add j = ⟨w.heap.size, j, none⟩ := by unfold Addr.add; split <;> simp_all
  rw [e, (Blk.new w t cs).cell j]
  simpa using hu

/-- append of one span that lies in the newest block. -/
theorem app_span {ops : Array Oper} {rest : List Oper} {o : Oper} {a : Act} {w : World} {Q : Exit → Act → World → Prop} (hgd : o.guard = none) (s x : Nat)
    (ho : o.op = .call { callee := .builtin .append, args := #[.tmp s, .tmp x], argTypes := #[78, 78] })
    (base : Nat) (v : Value) (R : List Sp) (hs : a.eval (.tmp s) = v) (hown : OwnR w base v R) (f n : Int)
    (hx : a.eval (.tmp x) = .slice (some ⟨w.heap.size, 0, none⟩) 1 1) (hbase : base ≤ w.heap.size) (hR : R.length ≤ 1048576)
    (h : ∀ v' w', OwnR w' base v' ((f, n) :: R) → (w.alloc (.cells #[.int .i64 f, .int .i64 n] 92)).grownBy w' v.ownBlock → wpList Try.prog ops Q rest (a.put o.dst v') w') :
    wpList Try.prog ops Q (o :: rest) a (w.alloc (.cells #[.int .i64 f, .int .i64 n] 92)) := by
  obtain ⟨i0, hi0, hz0, hz1, hz2⟩ := info_parts infoSpan
  refine wpList_append_own _ hgd (.tmp s) (.tmp x) _ ho base 92 i0 _ 2 16 Try.underlying78 hi0 hz0 hz1 hz2 rfl (by omega) v R.length (spc R.reverse) hs (World.ownsRow.alloc hown _)
    ⟨w.heap.size, 0, none⟩ 1 1 [.int .i64 f, .int .i64 n] hx rfl (cells_new w #[.int .i64 f, .int .i64 n] 92) (by simp [Value.oneCell']) (by simp only [maxLen]; omega) (by omega) (by simp; omega) ?_
  intro v' w' h1 h2 _
  refine h v' w' ?_ h2
  show w'.ownsRow base 92 2 v' (R.length + 1) (spc ((f, n) :: R).reverse)
  rw [spc_last]
  exact h1

set_option maxHeartbeats 400000 in
/-- Behind a list that does not end at f: a span more. -/
theorem add_new (base : Nat) (v : Value) (R : List Sp) (f t : Int) (w : World) (hown : OwnR w base v R) (hbase : base ≤ w.heap.size) (hR : R.length ≤ 1048576)
    (hf : 0 ≤ f) (hft : f < t) (ht : t ≤ 4096) (hin : ∀ p ∈ R, 0 ≤ p.1 ∧ 0 ≤ p.2 ∧ p.1 + p.2 ≤ 4096) (hne : ∀ s n r, R = (s, n) :: r → s + n ≠ f) :
    Calls Try.prog 52 #[v, .int .i64 f, .int .i64 t] w fun e w' => ∃ v', e = .returned v' ∧ OwnR w' base v' ((f, t - f) :: R) ∧ Below base w w' := by
  rcases R with _ | ⟨⟨s, n⟩, r⟩
  · have hlen : ∃ A c, v = .slice A 0 c := by
      obtain ⟨A, c, rfl, _⟩ := own_rd hown
      exact ⟨A, c, rfl⟩
    obtain ⟨A, c, rfl⟩ := hlen
    have HO := Lib.hid hown
    clear hin hne hown
    go_enter Try.func52, Try.ntmps52
    go_wp2_with (at_builtin; refine app_span rfl 34 40 rfl base _ [] rfl HO.out f (t - f) rfl hbase (by simp) ?_; intro v' w' hown' hg)
    go_ret
    exact ⟨v', rfl, hown', below_own ((Below.refl _ _).alloc hbase _) (World.ownsRow.alloc HO.out _) (Nat.le_refl _) (by simp; omega) hg⟩
  · obtain ⟨g, cap, rfl, hg1, hg2, hg3⟩ := own_form hown (by simp)
    obtain ⟨hc1, hc2⟩ := OwnR.last hown
    have hn : (s + n == f) = false := by rw [beq_eq_false_iff_ne]; exact hne s n r rfl
    obtain ⟨hs0, hn0, hsn⟩ := hin (s, n) (by simp)
    simp only [List.length_cons] at hR
    have HO := Lib.hid hown
    clear hin hne hown
    simp only at hs0 hn0 hsn
    go_enter Try.func52, Try.ntmps52
    go_wp2_with (first
      | (go_at_call 51; refine (end_in _ _ _ (by omega) (by omega)).mono ?_; rintro e w1 ⟨rfl, hb1⟩; have hsz1 := hb1.size; have HO1 : Hid (OwnR w1 base (.slice (some ⟨g, 0, none⟩) (r.length + 1) cap) ((s, n) :: r)) := Lib.hid (own_far HO.out hb1))
      | (at_builtin; refine app_span rfl 34 40 rfl base (.slice (some ⟨g, 0, none⟩) (r.length + 1) cap) ((s, n) :: r) rfl HO1.out f (t - f) rfl (by omega) hR ?_; intro v' w' hown' hgr))
    go_ret
    exact ⟨v', rfl, hown', below_own ((hb1.mono hbase).alloc (by omega) _) (World.ownsRow.alloc (own_far HO.out hb1) _) (Nat.le_refl _) (by simp; omega) hgr⟩

set_option maxHeartbeats 400000 in
/-- Behind a list that ends at f: its last span is longer. -/
theorem add_old (base : Nat) (v : Value) (r : List Sp) (s n f t : Int) (w : World) (hown : OwnR w base v ((s, n) :: r)) (hbase : base ≤ w.heap.size) (hR : r.length ≤ 1048576)
    (hf : 0 ≤ f) (hft : f < t) (ht : t ≤ 4096) (hs0 : 0 ≤ s) (hn0 : 0 ≤ n) (he : s + n = f) :
    Calls Try.prog 52 #[v, .int .i64 f, .int .i64 t] w fun e w' => ∃ v', e = .returned v' ∧ OwnR w' base v' ((s, n + (t - f)) :: r) ∧ Below base w w' := by
  obtain ⟨g, cap, rfl, hg1, hg2, hg3⟩ := own_form hown (by simp)
  obtain ⟨hc1, hc2⟩ := OwnR.last hown
  have hn : (s + n == f) = true := by rw [beq_iff_eq]; exact he
  have hfz : w.frozen? ⟨g, r.length * 2 + 1, none⟩ = false := World.ownsRow.frozenAt hown _
  have hsn : s + n ≤ 4096 := by omega
  have HO := Lib.hid hown
  clear hown he
  go_enter Try.func52, Try.ntmps52
  go_wp2_with (go_at_call 51; refine (end_in _ _ _ (by omega) (by omega)).mono ?_; rintro e w1 ⟨rfl, hb1⟩; have hsz1 := hb1.size; obtain ⟨hcc, hff⟩ := bcell hb1)
  go_ret
  obtain ⟨h1, h2⟩ := World.ownsRow.stored (own_far HO.out hb1) (r.length * 2 + 1) (.int .i64 (n + (t - f)))
  rw [spc_set] at h1
  exact ⟨_, rfl, h1, (hb1.mono hbase).setCell hg1 _⟩

theorem add_any (base : Nat) (v : Value) (R : List Sp) (f t : Int) (w : World) (hown : OwnR w base v R) (hbase : base ≤ w.heap.size) (hR : R.length ≤ 1048576)
    (hf : 0 ≤ f) (hft : f < t) (ht : t ≤ 4096) (hin : ∀ p ∈ R, 0 ≤ p.1 ∧ 0 ≤ p.2 ∧ p.1 + p.2 ≤ 4096) :
    Calls Try.prog 52 #[v, .int .i64 f, .int .i64 t] w fun e w' => ∃ v', e = .returned v' ∧ OwnR w' base v' (addR R f t) ∧ Below base w w' := by
  rcases R with _ | ⟨⟨s, n⟩, r⟩
  · exact add_new base v [] f t w hown hbase hR hf hft ht hin (by simp)
  · by_cases he : s + n = f
    · rw [addR_hit he]
      obtain ⟨h1, h2, _⟩ := hin (s, n) (by simp)
      exact add_old base v r s n f t w hown hbase (by simp at hR; omega) hf hft ht h1 h2 he
    · rw [addR_miss he]
      exact add_new base v ((s, n) :: r) f t w hown hbase hR hf hft ht hin (by rintro s n r ⟨⟩; exact he)
theorem built_in {S : Int → Bool} {k : Nat} (hk : k ≤ 4096) : (∀ p ∈ buildR S k, 0 ≤ p.1 ∧ 0 ≤ p.2 ∧ p.1 + p.2 ≤ 4096) ∧ (buildR S k).length ≤ 1048576 := by
  have h := (build_built S k hk).right
  refine ⟨fun p hp => ?_, ?_⟩
  · have := right_mem h p (by simpa using hp)
    omega
  · have := right_len (by omega) (by omega) h
    simp at this
    omega

/-- An array of 4096 bools. -/
def barr (S : Int → Bool) : Array Value := (Array.range 4096).map fun n : Nat => .bool (S (n : Int))
theorem barr_size (S : Int → Bool) : (barr S).size = 4096 := by simp [barr]
theorem barr_at (S : Int → Bool) (k : Nat) (hk : k < 4096) : (barr S)[k]? = some (.bool (S k)) := by simp [barr, hk]
theorem barr_congr {S T : Int → Bool} (h : ∀ n : Int, 0 ≤ n → n < 4096 → S n = T n) : barr S = barr T := by
  unfold barr
  refine Array.map_congr_left fun n hn => ?_
  rw [Array.mem_range] at hn
  rw [h n (by omega) (by omega)]
theorem barr_set {S T : Int → Bool} {b : Bool} (k : Nat) (hk : k < 4096) (h1 : T k = b) (h : ∀ n : Int, 0 ≤ n → n < 4096 → n ≠ k → S n = T n) : (barr S).setIfInBounds k (.bool b) = barr T := by
  refine Array.ext_getElem? fun i => ?_
  rw [Array.getElem?_setIfInBounds]
  rcases Nat.lt_or_ge i 4096 with hi | hi
  · rw [barr_at T i hi, barr_at S i hi]
    split
    · rename_i e; subst e; rw [h1]; simp [barr_size, hk]
    · rename_i e; rw [h i (by omega) (by omega) (by omega)]
  · rw [if_neg (by omega)]
    simp [barr, hi]
def falses : Array Value := Array.replicate 4096 (.bool false)
theorem falses_eq : falses = barr fun _ => false := by
  refine Array.ext ?_ fun i h2 h3 => ?_
  · simp [falses, barr]
  · simp [falses, barr]
theorem zeroArr : ∀ w, Sem.run Try.prog (zeroValue 97) w = .ok (.agg falses) w := by
  intro w
  have h : (Try.prog.info? 97).map (fun i => i.zero) = some (some (.agg falses)) := by kernel_rfl
  obtain ⟨i, hi, hz⟩ := Option.map_eq_some_iff.1 h
  simp [zeroValue, typeInfo, hi, hz]
def inI (l : List Int) (n : Int) : Bool := decide (n ∈ l)
theorem inI_snoc (l : List Int) (k : Nat) (hk : k < l.length) (n : Int) : inI (l.take (k + 1)) n = (inI (l.take k) n || decide (n = l[k])) := by
  rw [List.take_succ_eq_append_getElem hk, Bool.eq_iff_iff]
  simp only [inI, decide_eq_true_eq, Bool.or_eq_true, List.mem_append, List.mem_singleton]
end Go.Proofs.Ytddhacmaogaocaa
