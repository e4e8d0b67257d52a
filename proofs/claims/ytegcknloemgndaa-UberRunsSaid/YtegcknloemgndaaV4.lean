
/- Walks: Stable. -/
import Derived.Test.YtegcknloemgndaaV3
set_option maxRecDepth 10000
namespace Go.Proofs.Ytegcknloemgndaa
open Go.RowKit

/-- A sector is loaded, wherever it lies. -/
theorem ld_sec {ops : Array Oper} {rest : List Oper} {o : Oper} {a : Act} {w : World} {Q : Exit → Act → World → Prop} (hgd : o.guard = none) (x : Operand) (ho : o.op = .load 34 x)
    (b k : Nat) (s : Sec) (hx : a.eval x = .pointer (some ⟨b, k, none⟩)) (hr : w.rangeAt b k s.cs)
    (h : wpList Try.prog ops Q rest (a.put o.dst (.agg s.cs.toArray)) w) : wpList Try.prog ops Q (o :: rest) a w :=
  wpList_load_mid hgd _ x ho b k hx s.cs _ hr Try.underlying34 rfl (sizeSec' s) h
/-- A sector is stored, wherever there is room for it. -/
theorem st_sec {ops : Array Oper} {rest : List Oper} {o : Oper} {a : Act} {w : World} {Q : Exit → Act → World → Prop} (hgd : o.guard = none) (x y : Operand) (ho : o.op = .store 34 x y)
    (b k : Nat) (s : Sec) (hx : a.eval x = .pointer (some ⟨b, k, none⟩)) (hy : a.eval y = .agg s.cs.toArray) (ht : w.there b k 128)
    (h : ∀ w', Hid (w' = w.setCells b k s.cs) → wpList Try.prog ops Q rest (a.put o.dst undef) w') : wpList Try.prog ops Q (o :: rest) a w :=
  wpList_store_mid hgd _ x y ho b k s.cs.toArray hx hy (by rw [List.size_toArray, Sec.cs_len]; exact ht) (sizeSec'' s) (all_one s.one) (h _ rfl)
theorem Blk.secAll {w : World} {g : Nat} {t : TypeId} {s : Sec} (h : Blk w g t s.cs.toArray) (u : Sec) : Blk (w.setCells g 0 u.cs) g t u.cs.toArray := h.setAll _ (by rw [List.size_toArray, Sec.cs_len, Sec.cs_len])
theorem Blk.secHas {w : World} {g : Nat} {t : TypeId} {s : Sec} (h : Blk w g t s.cs.toArray) : w.there g 0 128 := h.there 0 128 (by rw [List.size_toArray, Sec.cs_len]; omega)
theorem Blk.secIs {w : World} {g : Nat} {t : TypeId} {s : Sec} (h : Blk w g t s.cs.toArray) : w.rangeAt g 0 s.cs := h.range 0 s.cs fun j v hv => by rw [Nat.zero_add, List.getElem?_toArray]; exact hv
section
variable {w : World} {B n : Nat} {D : Dev} {pv : Value} {s : St}
theorem At.alloc (h : At w B n D pv s) (o : Obj) : At (w.alloc o) B n D pv s := h.chg (O := fun _ => False) ((Chg.refl _ _).alloc o) fun _ _ h => h
theorem At.new_far (h : At w B n D pv s) : ¬ D.own pv w.heap.size := fun hk => by have := h.lt _ hk; omega
theorem At.st_at (h : At w B n D pv s) (k : Nat) (hk : k < n) : w.rangeAt D.gs (k * 128) (s.st.getD k zsec).cs := by
  have hl : k < s.st.length := by rw [h.ls]; exact hk
  have := h.st.sec k hl
  rwa [show s.st.getD k zsec = s.st[k] from by simp [List.getD, hl]]
theorem At.nw_at (h : At w B n D pv s) (k : Nat) (hk : k < n) : w.rangeAt D.gn (k * 128) (s.nw.getD k zsec).cs := by
  have hl : k < s.nw.length := by rw [h.ln]; exact hk
  have := h.nw.sec k hl
  rwa [show s.nw.getD k zsec = s.nw[k] from by simp [List.getD, hl]]
theorem chg_new {g : Nat} (w : World) (cs : Array Value) (t : TypeId) (k : Nat) (vs : List Value) (hg : g = w.heap.size) : Chg w ((w.alloc (.cells cs t)).setCells g k vs) (fun _ => False) :=
  Chg.setCells (.inr (by omega)) vs k ((Chg.refl _ _).alloc _)

theorem stable_any (h : At w B n D pv s) (i : Int) : Calls Try.prog 28 #[.pointer (some ⟨D.g, 0, none⟩), .int .i64 i] w fun e w' => e = .returned (.agg (s.stable n i).cs.toArray) ∧ Chg w w' (fun _ => False) := by
  have hz : ∀ w, Sem.run Try.prog (zeroValue 34) w = .ok (.agg zsec.cs.toArray) w := zeroSec
  have hbd : ∀ w, (Instr.build 34 #[]).run Try.prog w = .ok (.agg zsec.cs.toArray) w := buildZ
  have ha := h.alloc (.cells zsec.cs.toArray 34)
  obtain ⟨h0, _⟩ := ha.fields
  have HA := Lib.hid ha
  clear h ha
  have hbl := Lib.hid (Blk.new w 34 zsec.cs.toArray)
  unfold St.stable
  by_cases h1 : hasF n i = true
  · rw [if_pos h1]
    have h1' := h1
    unfold hasF at h1'
    rw [decide_eq_true_iff] at h1'
    obtain ⟨hi0, hin⟩ := h1'
    obtain ⟨k, rfl⟩ := Int.eq_ofNat_of_zero_le hi0
    have hR := Lib.hid (HA.out.st_at k (by omega))
    rw [Int.toNat_natCast]
    generalize hs : s.st.getD k zsec = x at *
    go_enter Try.func28, Try.ntmps28
    go_wp2_with fail
    refine (has_any HA.out _).mono ?_
    rintro e w1 ⟨rfl, rfl⟩
    rw [h1]
    go_wp2_with (first
      | (with_reducible refine ld_sec rfl _ rfl D.gs (k * 128) x rfl hR.out ?_)
      | (with_reducible refine st_sec rfl _ _ rfl w.heap.size 0 x rfl rfl hbl.out.secHas ?_; intro w2 hw2))
    have hb2 := hbl.out.secAll x
    have hw2 := hw2.out
    rw [← hw2] at hb2
    refine bodyPost_ret (results_cell_row rfl _ _ _ _ _ _ _ rfl hb2 Try.underlying34 rfl (sizeSec'' x)) rfl ⟨rfl, ?_⟩
    rw [hw2]
    exact chg_new w _ _ _ _ rfl
  · have hf : hasF n i = false := by simpa using h1
    rw [hf, if_neg (by simp)]
    clear h1
    go_enter Try.func28, Try.ntmps28
    go_wp2_with fail
    refine (has_any HA.out _).mono ?_
    rintro e w1 ⟨rfl, rfl⟩
    rw [hf]
    go_wp2_with (with_reducible refine st_sec rfl _ _ rfl w.heap.size 0 zsec rfl rfl hbl.out.secHas ?_; intro w2 hw2)
    have hb2 := hbl.out.secAll zsec
    have hw2 := hw2.out
    rw [← hw2] at hb2
    refine bodyPost_ret (results_cell_row rfl _ _ _ _ _ _ _ rfl hb2 Try.underlying34 rfl (sizeSec'' zsec)) rfl ⟨rfl, ?_⟩
    rw [hw2]
    exact chg_new w _ _ _ _ rfl
end
end Go.Proofs.Ytegcknloemgndaa
