
/- Walks: numbers as bytes, the program's and the reference's. -/
import Derived.Test.YtgbghmgipnphkaaF3
import Derived.Laws.MakeOwn
set_option maxRecDepth 10000
namespace Go.Proofs.Ytgbghmgipnphkaa
open Go.RowKit

def codeF {α : Type} (o : Option α) : Int := if o.isSome then 0 else 21
/-- Bytes, or none, and an error's number. -/
def GivesB (o : Option (List UInt8)) (w : World) (e : Ending) (w' : World) : Prop :=
  ∃ A c, e = .returned (.tuple #[.slice A (o.getD []).length c, .int .i64 (codeF o)]) ∧ Rd w' w'.heap.size A (bys (o.getD [])) ∧ (o.getD []).length ≤ c ∧ Below w.heap.size w w'
theorem givesB_none {o : Option (List UInt8)} {w w' : World} {e : Ending} (ho : o = none) (he : e = .returned (.tuple #[.slice none 0 0, .int .i64 21])) (hb : Below w.heap.size w w') : GivesB o w e w' := by
  subst ho
  exact ⟨none, 0, he, Rd.nil, by simp, hb⟩
theorem givesB_some {o : Option (List UInt8)} {w w' : World} {e : Ending} {b : List UInt8} {base : Nat} {v : Value} (ho : o = some b) (hv : OwnB w' base v b) (he : e = .returned (.tuple #[v, .int .i64 0])) (hb : Below w.heap.size w w') : GivesB o w e w' := by
  subst ho
  obtain ⟨A, c, rfl, h1, h2⟩ := own_rd hv
  exact ⟨A, c, he, h1, h2, hb⟩

theorem total_no (A : Option Addr) (c : Nat) (l : List Int) (w : World) (hs : Rd w w.heap.size A (wds l)) (hl : l.length ≤ 1125899906842624) (h : wideB l = false) :
    Calls Try.prog 32 #[.slice A l.length c] w fun e w' => e = .returned (.tuple #[.int .i64 0, .bool false]) ∧ Below w.heap.size w w' := by
  rw [tot_no h]
  exact total_any A c l w hs hl
theorem total_yes (A : Option Addr) (c : Nat) (l : List Int) (s : Nat) (w : World) (hs : Rd w w.heap.size A (wds l)) (hl : l.length ≤ 1125899906842624) (h : wideB l = true) (hm : sumF l = s) :
    Calls Try.prog 32 #[.slice A l.length c] w fun e w' => e = .returned (.tuple #[.int .i64 (s : Int), .bool true]) ∧ Below w.heap.size w w' := by
  rw [← hm, tot_yes h rfl]
  exact total_any A c l w hs hl

theorem make_bytes (s : Nat) (hs : s ≤ 281474976710656) : ∃ cs : Array Value, cs.size = s ∧ ∀ W : World, (Instr.makeSlice 46 (.int .i64 0) (.int .i64 (s : Int))).run Try.prog W = .ok (.slice (some ⟨W.heap.size, 0, none⟩) 0 s) (W.alloc (.cells cs 5)) := by
  obtain ⟨i0, hi0, hz0, hz2, hz3⟩ := info_parts infoByte
  refine ⟨madeCells (Value.int .u8 0).cells (s * i0.size), by rw [size_madeCells, hz2, Nat.mul_one], fun W => ?_⟩
  have h := run_make (P := Try.prog) W 46 5 i0 _ Try.underlying46 hi0 hz0 .i64 .i64 0 s (Int.le_refl _) (by omega) (by rw [hz3]; omega) (by omega)
  simpa using h
theorem own_made {w : World} {base s : Nat} {cs : Array Value} (hs : cs.size = s) (hb : base ≤ w.heap.size) (hm : s ≤ 281474976710656) : OwnB (w.alloc (.cells cs 5)) base (.slice (some ⟨w.heap.size, 0, none⟩) 0 s) [] :=
  World.ownsRow_made w cs s hb (by simp only [maxLen]; omega) (by rw [hs, Nat.mul_one])

theorem map_some {α β : Type} {o : Option α} {f : α → β} {g : β → β} : (o.map f).map g = o.map fun x => g (f x) := by rw [Option.map_map]; rfl
theorem fit_int {n x : Nat} (h : n < 256 ^ x) : ((n : Int) / 2 ^ (8 * x) != 0) = false := by
  rw [← pow8] at h
  have h2 := Nat.div_eq_of_lt h
  have h3 : ((n / 2 ^ (8 * x) : Nat) : Int) = 0 := by omega
  simp at h3
  simp [h3]
theorem fit_int_no {n x : Nat} (h : ¬ n < 256 ^ x) : ((n : Int) / 2 ^ (8 * x) != 0) = true := by
  rw [← pow8] at h
  have h2 : 0 < n / 2 ^ (8 * x) := Nat.div_pos (by omega) (Nat.pow_pos (by omega))
  have h3 : ((n / 2 ^ (8 * x) : Nat) : Int) ≠ 0 := by omega
  simp at h3
  simp [h3]

theorem put_no (A A' : Option Addr) (c c' : Nat) (ws : List Int) (ns : List Nat) (w : World) (hs : Rd w w.heap.size A (wds ws)) (hl : ws.length ≤ 1125899906842624) (h : wideB ws = false) :
    Calls Try.prog 26 #[.slice A ws.length c, .slice A' ns.length c'] w (GivesB (putF ws ns) w) := by
  have HN := Lib.hid (put_narrow (ns := ns) h)
  have HT := Lib.hid (total_no A c ws w hs hl h)
  clear h
  go_enter Try.func26, Try.ntmps26
  go_wp2_with (go_at_call 32; refine HT.out.mono ?_; rintro e w1 ⟨rfl, hb⟩)
  go_ret2
  exact givesB_none HN.out rfl hb
theorem put_len (A A' : Option Addr) (c c' : Nat) (ws : List Int) (ns : List Nat) (w : World) (hs : Rd w w.heap.size A (wds ws)) (hl : ws.length ≤ 1125899906842624) (h : wideB ws = true) (hn : ws.length ≠ ns.length) :
    Calls Try.prog 26 #[.slice A ws.length c, .slice A' ns.length c'] w (GivesB (putF ws ns) w) := by
  have HN := Lib.hid (put_unlike hn)
  obtain ⟨s, hs'⟩ := Int.eq_ofNat_of_zero_le (sum_bd (wideB_mem h)).1
  have HT := Lib.hid (total_yes A c ws s w hs hl h hs')
  have hne : ((ns.length : Int) != (ws.length : Int)) = true := by rw [bne_iff_ne]; omega
  clear h hn hs'
  go_enter Try.func26, Try.ntmps26
  go_wp2_with (go_at_call 32; refine HT.out.mono ?_; rintro e w1 ⟨rfl, hb⟩)
  go_ret2
  exact givesB_none HN.out rfl hb

theorem putr_end {ws : List Int} {ns : List Nat} {l : List UInt8} {k : Nat} {o : Option (List UInt8)} (h1 : ws.length ≤ k) (h2 : ns.length ≤ k) (h : o = (putF (ws.drop k) (ns.drop k)).map fun r => l ++ r) : o = some l := by
  rw [List.drop_of_length_le h1, List.drop_of_length_le h2] at h
  rw [h]
  simp [putF]
theorem putr_no {ws : List Int} {ns : List Nat} {l : List UInt8} {k x n : Nat} {o : Option (List UInt8)} (h1 : k < ws.length) (h2 : k < ns.length) (hx : ws[k] = (x : Int)) (hn : ns[k] = n) (hf : ¬ (1 ≤ x ∧ x ≤ 8 ∧ n < 256 ^ x)) (h : o = (putF (ws.drop k) (ns.drop k)).map fun r => l ++ r) : o = none := by
  rw [put_step h1 h2, if_neg] at h
  · exact h
  · rw [hx, hn, Int.toNat_natCast]
    intro ⟨a, b, c⟩
    exact hf ⟨by omega, by omega, c⟩
theorem putr_yes {ws : List Int} {ns : List Nat} {l : List UInt8} {k x n : Nat} {o : Option (List UInt8)} (h1 : k < ws.length) (h2 : k < ns.length) (hx : ws[k] = (x : Int)) (hn : ns[k] = n) (hx1 : 1 ≤ x) (hx8 : x ≤ 8) (hf : n < 256 ^ x) (h : o = (putF (ws.drop k) (ns.drop k)).map fun r => l ++ r) :
    o = (putF (ws.drop (k + 1)) (ns.drop (k + 1))).map fun r => (l ++ bytesF x n) ++ r := by
  rw [put_step h1 h2, if_pos ⟨by omega, by omega, by rw [hx, hn, Int.toNat_natCast]; exact hf⟩, map_some, hx, hn, Int.toNat_natCast] at h
  rw [h]
  simp

set_option maxHeartbeats 1000000 in
theorem put_like (A A' : Option Addr) (c c' : Nat) (ws : List Int) (ns : List Nat) (w : World) (hs : Rd w w.heap.size A (wds ws)) (ht : Rd w w.heap.size A' (uns ns)) (hN : ∀ n ∈ ns, n < 18446744073709551616) (hl : ws.length ≤ 17592186044416) (h : wideB ws = true) (hn : ws.length = ns.length) :
    Calls Try.prog 26 #[.slice A ws.length c, .slice A' ns.length c'] w (GivesB (putF ws ns) w) := by
  have hbd := sum_bd (wideB_mem h)
  obtain ⟨s, hs'⟩ := Int.eq_ofNat_of_zero_le hbd.1
  have HT := Lib.hid (total_yes A c ws s w hs (by omega) h hs')
  have HW := Lib.hid (wideB_mem h)
  have hs8 : s ≤ 140737488355328 := by omega
  obtain ⟨cs, hcs, hmk⟩ := make_bytes s (by omega)
  have hl1 : ns.length ≤ ws.length := by omega
  have hl2 : ws.length ≤ ns.length := by omega
  have HC := Lib.hid hcs
  have HN := Lib.hid hN
  have hne : ((ns.length : Int) != (ws.length : Int)) = false := by rw [bne_eq_false_iff_eq]; omega
  obtain ⟨o, ho⟩ : ∃ o, o = putF ws ns := ⟨_, rfl⟩
  rw [← ho]
  have HO := Lib.hid ho
  clear h hn hs' hbd hcs ho hN
  go_enter Try.func26, Try.ntmps26
  go_wp2_with (go_at_call 32; refine HT.out.mono ?_; rintro e w1 ⟨rfl, hb1⟩)
  have hsz1 := hb1.size
  clear hmk
  go_loopw [8, 29] (fun v i wr => ∃ (k : Nat) (l : List UInt8), k ≤ ns.length ∧ i = .int .i64 k ∧ l.length ≤ 8 * k ∧ Hid (o = (putF (ws.drop k) (ns.drop k)).map fun r => l ++ r) ∧ OwnB wr w.heap.size v l ∧ Below w.heap.size w wr) (fun _ i _ => ns.length - (intOf i).toNat)
  case atStart => exact ⟨0, [], by omega, rfl, by simp, by show _ = _; rw [HO.out]; simp, own_made HC.out (by omega) (by omega), hb1.alloc (by omega) _⟩
  case round =>
    obtain ⟨k, l, hk, rfl, hll, HR, hown, hb⟩ := hrel
    have hsz := hb.size
    have HV := Lib.hid hown; clear hown
    by_cases hlt : k < ns.length
    · obtain ⟨b, off, rfl, hbB, hc1⟩ := wd_at hs k (by omega)
      obtain ⟨b', off', rfl, hbB', hc1'⟩ := un_at ht k hlt
      obtain ⟨hc, hf⟩ := bcell hb
      have hwk := HW.out _ (List.getElem_mem (show k < ws.length by omega))
      have HNk := Lib.hid (HN.out _ (List.getElem_mem hlt))
      have hy := fun x n => putr_yes (l := l) (k := k) (x := x) (n := n) (o := o) (ws := ws) (ns := ns) (by omega) hlt
      have hz := fun x n => putr_no (l := l) (k := k) (x := x) (n := n) (o := o) (ws := ws) (ns := ns) (by omega) hlt
      have hk' : k < ws.length := by omega
      generalize ws[k] = z at *
      generalize ns[k] = n at *
      obtain ⟨x, rfl⟩ := Int.eq_ofNat_of_zero_le (show 0 ≤ z by omega)
      have hx1 : 1 ≤ x := by omega
      have hx8 : x ≤ 8 := by omega
      by_cases hfit : n < 256 ^ x
      · have HY := Lib.hid (hy x n rfl rfl hx1 hx8 hfit HR.out)
        have hd := fit_int hfit
        clear hy hz hfit HR hwk
        go_wp2_with (go_at_call 33; refine (fadd_any w.heap.size _ l x n _ HV.out (by omega) hx8 (by omega) HNk.out).mono ?_; rintro e w2 ⟨v2, rfl, hv2, hb2⟩)
        go_roundw
        case rel => exact ⟨k + 1, l ++ bytesF x n, by omega, by go_num, by rw [List.length_append, bytesF_len]; omega, HY.out, hv2, hb.trans hb2⟩
        case measure => simp [intOf]; omega
      · have HZ := Lib.hid (hz x n rfl rfl (fun h => hfit h.2.2) HR.out)
        have hd := fit_int_no hfit
        clear hy hz hfit HR hwk
        go_wp2_with fail
        go_ret2
        exact givesB_none HZ.out rfl hb
    · have HZ := Lib.hid (putr_end (by omega) (by omega) HR.out)
      go_wp2_with fail
      go_ret2
      exact givesB_some HZ.out HV.out rfl hb

theorem put_any (A A' : Option Addr) (c c' : Nat) (ws : List Int) (ns : List Nat) (w : World) (hs : Rd w w.heap.size A (wds ws)) (ht : Rd w w.heap.size A' (uns ns)) (hN : ∀ n ∈ ns, n < 18446744073709551616) (hl : ws.length ≤ 17592186044416) :
    Calls Try.prog 26 #[.slice A ws.length c, .slice A' ns.length c'] w (GivesB (putF ws ns) w) := by
  rcases hb : wideB ws with _ | _
  · exact put_no A A' c c' ws ns w hs (by omega) hb
  · by_cases hn : ws.length = ns.length
    · exact put_like A A' c c' ws ns w hs ht hN hl hb hn
    · exact put_len A A' c c' ws ns w hs (by omega) hb hn
end Go.Proofs.Ytgbghmgipnphkaa
