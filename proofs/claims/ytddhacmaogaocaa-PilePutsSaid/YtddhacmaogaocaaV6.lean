
/- Walks: New. -/
import Derived.Test.YtddhacmaogaocaaV5
import Derived.Laws.MakeOwn
set_option maxRecDepth 10000
namespace Go.Proofs.Ytddhacmaogaocaa
open Go.RowKit

theorem made_flat (n : Nat) : madeCells zsec.cs.toArray (n * 128) = (flat (List.replicate n zsec)).toArray := by
  refine Array.ext_getElem? fun k => ?_
  by_cases hk : k < n * 128
  · have h1 : k = k / 128 * 128 + k % 128 := by omega
    have h2 : k / 128 < n := by omega
    have h3 : k % 128 < 128 := by omega
    have hl : zsec.cs.toArray.size = 128 := by rw [List.size_toArray, Sec.cs_len]
    have hm : (madeCells zsec.cs.toArray (n * 128))[k]? = some (zsec.cs.toArray[k % zsec.cs.toArray.size]!) := by simp [madeCells, hk]
    rw [hm, hl, List.getElem?_toArray]
    have hz : zsec.cs[k % 128]? = some (zsec.cs.toArray[k % 128]!) := by
      rw [List.getElem?_eq_getElem (by rw [Sec.cs_len]; omega)]
      simp [getElem!_pos, Sec.cs_len, h3]
    rw [← hz]
    have := flat_at (List.replicate n zsec) (k / 128) (by rw [List.length_replicate]; exact h2) (k % 128) h3
    rw [← h1, List.getElem_replicate] at this
    exact this.symm
  · rw [Array.getElem?_eq_none (by rw [size_madeCells]; omega), Array.getElem?_eq_none (by rw [List.size_toArray, flat_len, List.length_replicate]; omega)]
theorem run_make_sec (n : Nat) (hn : n ≤ 1024) (w : World) :
    (Instr.makeSlice 65 (.int .i64 (n : Int)) (.int .i64 (n : Int))).run Try.prog w = .ok (.slice (some ⟨w.heap.size, 0, none⟩) n n) (w.alloc (.cells (flat (List.replicate n zsec)).toArray 23)) := by
  obtain ⟨i, hi, hz, hsz, hb⟩ := info_parts infoSec
  have hr := run_make (P := Try.prog) w 65 23 i _ Try.underlying65 hi hz .i64 .i64 n n (by omega) (by omega) (by rw [hb]; omega) (by omega)
  have hcs : (Value.agg zsec.cs.toArray).cells = zsec.cs.toArray := rfl
  simp only [Int.toNat_natCast, hsz, hcs, made_flat] at hr
  exact hr
def manyF (x : Int) : Nat := (min (max x 0) 1024).toNat
def newSt (n : Nat) : St := { st := List.replicate n zsec, nw := List.replicate n zsec, pend := [], ops := 0, left := -1, dead := false }
theorem new_in (x : Int) (w : World) (n : Nat) (hn : n = manyF x) (fl : Array Value) (hfl : fl = (flat (List.replicate n zsec)).toArray) (V : Int) (hV : V = n) (hx : V = min (max x 0) 1024) : Calls Try.prog 22 #[.int .i64 x] w fun e w' =>
    ∃ D : Dev, e = .returned (.pointer (some ⟨D.g, 0, none⟩)) ∧ At w' w.heap.size (manyF x) D (.slice none 0 0) (newSt (manyF x)) ∧ Below w.heap.size w w' := by
  have HN := Lib.hid (show manyF x ≤ 1024 by unfold manyF; omega)
  have hk : ∀ w, (Instr.makeSlice 65 (.int .i64 V) (.int .i64 V)).run Try.prog w = .ok (.slice (some ⟨w.heap.size, 0, none⟩) n n) (w.alloc (.cells fl 23)) := fun w => by
    rw [hV, hfl]
    exact run_make_sec n (by rw [hn]; exact HN.out) w
  have HE : ∀ (g gs gn : Nat) (w' : World), Hid (gs ≠ gn → w.heap.size ≤ g → w.heap.size ≤ gs → w.heap.size ≤ gn → Blk w' gs 23 fl → Blk w' gn 23 fl →
      Blk w' g 68 #[.slice (some ⟨gs, 0, none⟩) n n, .slice (some ⟨gn, 0, none⟩) n n, .slice none 0 0, .int .i64 0, .int .i64 (-1), .bool false] → At w' w.heap.size (manyF x) ⟨g, gs, gn⟩ (.slice none 0 0) (newSt (manyF x))) := by
    intro g gs gn w' h1 h2 h3 h4 h5 h6 h7
    subst hn
    rw [hfl] at h5 h6
    exact { dev := h7, st := h5, nw := h6, pend := World.ownsRow_nil _ _ _ _, ne := h1, bg := ⟨h2, h3, h4⟩, ls := List.length_replicate .., ln := List.length_replicate .., ok := fun _ h => by (cases h), hn := HN.out, ops := by simp [newSt], left := by simp [newSt, I64] }
  have HA : ∀ (c1 c2 c3 : Array Value), Hid (Blk (((w.alloc (.cells c1 23)).alloc (.cells c2 23)).alloc (.cells c3 68)).drew w.heap.size 23 c1 ∧
      Blk (((w.alloc (.cells c1 23)).alloc (.cells c2 23)).alloc (.cells c3 68)).drew (w.heap.size + 1) 23 c2) := fun c1 c2 c3 => by
    have h1 := Blk.new w 23 c1
    have h2 := Blk.new (w.alloc (.cells c1 23)) 23 c2
    have hn : (w.alloc (.cells c1 23)).heap.size = w.heap.size + 1 := by simp
    rw [hn] at h2
    exact ⟨(h1.chg ((Chg.refl _ (fun _ => False)).alloc _) id).chg ((Chg.refl _ (fun _ => False)).alloc _).drew id, h2.chg (O := fun _ => False) ((Chg.refl _ (fun _ => False)).alloc _).drew id⟩
  have HD : ∀ (c1 c2 c3 : Array Value), Hid (Blk (((w.alloc (.cells c1 23)).alloc (.cells c2 23)).alloc (.cells c3 68)).drew (w.heap.size + 1 + 1) 68 c3) := fun c1 c2 c3 => by
    have h3 := Blk.new ((w.alloc (.cells c1 23)).alloc (.cells c2 23)) 68 c3
    have hn : ((w.alloc (.cells c1 23)).alloc (.cells c2 23)).heap.size = w.heap.size + 1 + 1 := by simp
    rw [hn] at h3
    exact h3
  have HB : ∀ (c1 c2 c3 : Array Value), Hid (Below w.heap.size w (((w.alloc (.cells c1 23)).alloc (.cells c2 23)).alloc (.cells c3 68)).drew) := fun c1 c2 c3 =>
    ((((Below.refl _ _).alloc (Nat.le_refl _) _).alloc (by simp) _).alloc (by simp; omega) _).drew
  clear hfl hV HN hn
  rcases Int.lt_trichotomy x 0 with h | h | h
  · obtain rfl : V = 0 := by omega
    clear hx
    go_enter Try.func22, Try.ntmps22
    go_wp2_with fail
    go_region
    all_goals (go_wp2_with fail)
    all_goals go_ret
    · exact ⟨⟨_, _, _⟩, rfl, (HE _ w.heap.size (w.heap.size + 1) _).out (by omega) (by omega) (by omega) (by omega) (HA fl fl _).out.1 (HA fl fl _).out.2 (HD _ _ _).out, (HB _ _ _).out⟩
    · exact ⟨⟨_, _, _⟩, rfl, (HE _ (w.heap.size + 1) w.heap.size _).out (by omega) (by omega) (by omega) (by omega) (HA fl fl _).out.2 (HA fl fl _).out.1 (HD _ _ _).out, (HB _ _ _).out⟩
  · obtain rfl : V = 0 := by omega
    clear hx
    subst h
    go_enter Try.func22, Try.ntmps22
    go_wp2_with fail
    go_region
    all_goals (go_wp2_with fail)
    all_goals go_ret
    · exact ⟨⟨_, _, _⟩, rfl, (HE _ w.heap.size (w.heap.size + 1) _).out (by omega) (by omega) (by omega) (by omega) (HA fl fl _).out.1 (HA fl fl _).out.2 (HD _ _ _).out, (HB _ _ _).out⟩
    · exact ⟨⟨_, _, _⟩, rfl, (HE _ (w.heap.size + 1) w.heap.size _).out (by omega) (by omega) (by omega) (by omega) (HA fl fl _).out.2 (HA fl fl _).out.1 (HD _ _ _).out, (HB _ _ _).out⟩
  · by_cases h2 : x ≤ 1024
    · obtain rfl : V = x := by omega
      clear hx
      go_enter Try.func22, Try.ntmps22
      go_wp2_with fail
      go_region
      all_goals (go_wp2_with fail)
      all_goals go_ret
      · exact ⟨⟨_, _, _⟩, rfl, (HE _ w.heap.size (w.heap.size + 1) _).out (by omega) (by omega) (by omega) (by omega) (HA fl fl _).out.1 (HA fl fl _).out.2 (HD _ _ _).out, (HB _ _ _).out⟩
      · exact ⟨⟨_, _, _⟩, rfl, (HE _ (w.heap.size + 1) w.heap.size _).out (by omega) (by omega) (by omega) (by omega) (HA fl fl _).out.2 (HA fl fl _).out.1 (HD _ _ _).out, (HB _ _ _).out⟩
    · obtain rfl : V = 1024 := by omega
      clear hx
      go_enter Try.func22, Try.ntmps22
      go_wp2_with fail
      go_region
      all_goals (go_wp2_with fail)
      all_goals go_ret
      · exact ⟨⟨_, _, _⟩, rfl, (HE _ w.heap.size (w.heap.size + 1) _).out (by omega) (by omega) (by omega) (by omega) (HA fl fl _).out.1 (HA fl fl _).out.2 (HD _ _ _).out, (HB _ _ _).out⟩
      · exact ⟨⟨_, _, _⟩, rfl, (HE _ (w.heap.size + 1) w.heap.size _).out (by omega) (by omega) (by omega) (by omega) (HA fl fl _).out.2 (HA fl fl _).out.1 (HD _ _ _).out, (HB _ _ _).out⟩
theorem new_any (x : Int) (w : World) : Calls Try.prog 22 #[.int .i64 x] w fun e w' =>
    ∃ D : Dev, e = .returned (.pointer (some ⟨D.g, 0, none⟩)) ∧ At w' w.heap.size (manyF x) D (.slice none 0 0) (newSt (manyF x)) ∧ Below w.heap.size w w' :=
  new_in x w _ rfl _ rfl _ rfl (by unfold manyF; omega)
end Go.Proofs.Ytddhacmaogaocaa
