
/- Contracts whole; the law's example; the law on names. -/
import Derived.Test.YtgbghmgipnphkaaQ7
import Derived.Laws.BytesArg
import Derived.Laws.Strings
set_option maxRecDepth 10000
namespace Go.Proofs.Ytgbghmgipnphkaa
open Go.RowKit

def strF (l : List UInt8) : ByteArray := ⟨l.toArray⟩
theorem strF_list (l : List UInt8) : (strF l).toList = l := ByteArray.toList_mk l
theorem neq_self (x : List UInt8) : ((strF x).toList == (strF x).toList) = true := by simp

/-! ### Contracts whole -/
def bsF (a b s : Int) : List UInt8 := if rightF a b s then ptrBytes a.toNat b.toNat s.toNat else []
def bsC (a b s : Int) : Int := if rightF a b s then 0 else 51
def okF (l : List UInt8) : Bool := decide (l.length = 16) && rightF (atN l) (bornN l) (sumN l)
def rdA (l : List UInt8) : Int := if okF l then atN l else 0
def rdB (l : List UInt8) : Int := if okF l then bornN l else 0
def rdS (l : List UInt8) : Int := if okF l then sumN l else 0
def rdC (l : List UInt8) : Int := if okF l then 0 else 51
def GivesQ (a b s : Int) (w : World) (e : Ending) (w' : World) : Prop :=
  ∃ A c, e = .returned (.tuple #[.slice A (bsF a b s).length c, .int .i64 (bsC a b s)]) ∧ Rd w' w'.heap.size A (bys (bsF a b s)) ∧ (bsF a b s).length ≤ c ∧ Below w.heap.size w w'
theorem gives_yes {a b s : Int} (hr : rightF a b s = true) {w w' : World} {e : Ending} (h : ∃ A2 c2, e = .returned (.tuple #[.slice A2 16 c2, .int .i64 0]) ∧ Rd w' w'.heap.size A2 (bys (ptrBytes a.toNat b.toNat s.toNat)) ∧ 16 ≤ c2 ∧ Below w.heap.size w w') : GivesQ a b s w e w' := by
  obtain ⟨A, c, rfl, h1, h2, h3⟩ := h
  have e1 : bsF a b s = ptrBytes a.toNat b.toNat s.toNat := if_pos hr
  have e2 : bsC a b s = 0 := if_pos hr
  unfold GivesQ
  rw [e1, e2, ptrBytes_len]
  exact ⟨A, c, rfl, h1, h2, h3⟩
theorem gives_no {a b s : Int} (hr : rightF a b s = false) {w w' : World} {e : Ending} (h : e = .returned (.tuple #[.slice none 0 0, .int .i64 51]) ∧ Below w.heap.size w w') : GivesQ a b s w e w' := by
  obtain ⟨rfl, h3⟩ := h
  have e1 : bsF a b s = [] := if_neg (by simp [hr])
  have e2 : bsC a b s = 51 := if_neg (by simp [hr])
  unfold GivesQ
  rw [e1, e2]
  exact ⟨none, 0, rfl, Rd.nil, by simp, h3⟩
theorem bytes_any {a b s : Int} (h : IsPtr a b s) (w : World) : Calls Try.prog 20 #[ptv a b s] w (GivesQ a b s w) := by
  rcases hr : rightF a b s with _ | _
  · exact (bytes_no hr w).mono fun e w' h => gives_no hr h
  · have h1 := right_at h hr
    have h2 := h.s1
    have h3 := h.s0
    obtain ⟨n, rfl⟩ := Int.eq_ofNat_of_zero_le h1.1
    obtain ⟨m, rfl⟩ := Int.eq_ofNat_of_zero_le h1.2.2.1
    obtain ⟨k, rfl⟩ := Int.eq_ofNat_of_zero_le h3
    exact (bytes_yes hr (by omega) (by omega) (by omega) w).mono fun e w' h => gives_yes hr h
theorem rbytes_any {a b s : Int} (h : IsPtr a b s) (w : World) : Calls Try.prog 21 #[ptv a b s] w (GivesQ a b s w) := by
  rcases hr : rightF a b s with _ | _
  · exact (rbytes_no h hr w).mono fun e w' h => gives_no hr h
  · have h1 := right_at h hr
    have h2 := h.s1
    have h3 := h.s0
    obtain ⟨n, rfl⟩ := Int.eq_ofNat_of_zero_le h1.1
    obtain ⟨m, rfl⟩ := Int.eq_ofNat_of_zero_le h1.2.2.1
    obtain ⟨k, rfl⟩ := Int.eq_ofNat_of_zero_le h3
    exact (rbytes_yes hr (by omega) (by omega) (by omega) w).mono fun e w' h => gives_yes hr h
theorem ok_yes {l : List UInt8} (h : l.length = 16) (hr : rightF (atN l) (bornN l) (sumN l) = true) : okF l = true := by simp [okF, h, hr]
theorem ok_bad {l : List UInt8} (hr : rightF (atN l) (bornN l) (sumN l) = false) : okF l = false := by simp [okF, hr]
theorem ok_long {l : List UInt8} (h : l.length ≠ 16) : okF l = false := by simp [okF, h]
theorem rd_yes {l : List UInt8} (h : okF l = true) : rdA l = atN l ∧ rdB l = bornN l ∧ rdS l = sumN l ∧ rdC l = 0 := ⟨if_pos h, if_pos h, if_pos h, if_pos h⟩
theorem rd_no {l : List UInt8} (h : okF l = false) : rdA l = 0 ∧ rdB l = 0 ∧ rdS l = 0 ∧ rdC l = 51 := by
  have h' : ¬ okF l = true := by simp [h]
  exact ⟨if_neg h', if_neg h', if_neg h', if_neg h'⟩
theorem read_any (A : Option Addr) (c : Nat) (l : List UInt8) (hc : l.length ≤ c) (w : World) (hs : Rd w w.heap.size A (bys l)) :
    Calls Try.prog 23 #[.slice A l.length c] w fun e w' => e = .returned (.tuple #[ptv (rdA l) (rdB l) (rdS l), .int .i64 (rdC l)]) ∧ Below w.heap.size w w' := by
  by_cases h : l.length = 16
  · rcases hr : rightF (atN l) (bornN l) (sumN l) with _ | _
    · obtain ⟨e1, e2, e3, e4⟩ := rd_no (ok_bad hr)
      rw [e1, e2, e3, e4, h]
      exact read_bad A c l h (by omega) w hs hr
    · obtain ⟨e1, e2, e3, e4⟩ := rd_yes (ok_yes h hr)
      rw [e1, e2, e3, e4, h]
      exact read_yes A c l h (by omega) w hs hr
  · obtain ⟨e1, e2, e3, e4⟩ := rd_no (ok_long h)
    rw [e1, e2, e3, e4]
    exact read_long A c l h hc w hs
theorem rread_any (A : Option Addr) (c : Nat) (l : List UInt8) (hc : l.length ≤ c) (w : World) (hs : Rd w w.heap.size A (bys l)) :
    Calls Try.prog 24 #[.slice A l.length c] w fun e w' => e = .returned (.tuple #[ptv (rdA l) (rdB l) (rdS l), .int .i64 (rdC l)]) ∧ Below w.heap.size w w' := by
  by_cases h : l.length = 16
  · rcases hr : rightF (atN l) (bornN l) (sumN l) with _ | _
    · obtain ⟨e1, e2, e3, e4⟩ := rd_no (ok_bad hr)
      rw [e1, e2, e3, e4, h]
      exact rread_bad A c l h (by omega) w hs hr
    · obtain ⟨e1, e2, e3, e4⟩ := rd_yes (ok_yes h hr)
      rw [e1, e2, e3, e4, h]
      exact rread_yes A c l h (by omega) w hs hr
  · obtain ⟨e1, e2, e3, e4⟩ := rd_no (ok_long h)
    rw [e1, e2, e3, e4]
    exact rread_long A c l h w
theorem rd_is (l : List UInt8) : IsPtr (rdA l) (rdB l) (rdS l) := by
  rcases ho : okF l with _ | _
  · obtain ⟨e1, e2, e3, -⟩ := rd_no ho
    rw [e1, e2, e3]
    exact ⟨by omega, by omega, by omega, by omega, by omega, by omega⟩
  · have hl : l.length = 16 := by
      simp only [okF, Bool.and_eq_true, decide_eq_true_eq] at ho
      exact ho.1
    obtain ⟨e1, e2, e3, -⟩ := rd_yes ho
    have h1 := at_lt hl
    have h2 := born_lt hl
    have h3 := sum_lt hl
    rw [e1, e2, e3]
    exact ⟨by omega, by omega, by omega, by omega, by omega, by omega⟩

/-! ### There and back -/
theorem ptrBytes_at (n b s : Nat) (hn : n < 4294967296) : atN (ptrBytes n b s) = n := by
  unfold atN ptrBytes
  rw [List.take_append_of_le_length (by rw [bytesF_len]; omega), List.take_of_length_le (by rw [bytesF_len]; omega), numF_bytesF]
  exact Nat.mod_eq_of_lt hn
theorem ptrBytes_born (n b s : Nat) (hb : b < 18446744073709551616) : bornN (ptrBytes n b s) = b := by
  unfold bornN ptrBytes
  have e := bytesF_len 4 n
  rw [List.drop_append_of_le_length (by omega), List.drop_of_length_le (by omega), List.nil_append, List.take_append_of_le_length (by rw [bytesF_len]; omega), List.take_of_length_le (by rw [bytesF_len]; omega), numF_bytesF]
  exact Nat.mod_eq_of_lt hb
theorem ptrBytes_sum (n b s : Nat) (hs : s < 4294967296) : sumN (ptrBytes n b s) = s := by
  unfold sumN ptrBytes
  rw [← List.append_assoc, List.drop_append_of_le_length (by simp [bytesF_len]), List.drop_of_length_le (by simp [bytesF_len]), List.nil_append, numF_bytesF]
  exact Nat.mod_eq_of_lt hs
theorem ptrBytes_of {l : List UInt8} (h : l.length = 16) : ptrBytes (atN l) (bornN l) (sumN l) = l := by
  have e1 : bytesF 4 (atN l) = l.take 4 := by
    have := bytesF_numF (l.take 4)
    rwa [List.length_take, h] at this
  have e2 : bytesF 8 (bornN l) = (l.drop 4).take 8 := by
    have := bytesF_numF ((l.drop 4).take 8)
    rwa [List.length_take, List.length_drop, h] at this
  have e3 : bytesF 4 (sumN l) = l.drop 12 := by
    have := bytesF_numF (l.drop 12)
    rwa [List.length_drop, h] at this
  unfold ptrBytes
  rw [e1, e2, e3]
  have e4 : (l.drop 4).take 8 ++ l.drop 12 = l.drop 4 := by
    have := List.take_append_drop 8 (l.drop 4)
    rwa [List.drop_drop] at this
  rw [e4, List.take_append_drop]
/-- Bytes, read again. -/
theorem back_ptr {a b s : Int} (h : IsPtr a b s) (hr : rightF a b s = true) : okF (bsF a b s) = true ∧ rdA (bsF a b s) = a ∧ rdB (bsF a b s) = b ∧ rdS (bsF a b s) = s ∧ rdC (bsF a b s) = 0 ∧ (bsF a b s).length = 16 := by
  have h1 := right_at h hr
  have h2 := h.s1
  have h3 := h.s0
  obtain ⟨n, rfl⟩ := Int.eq_ofNat_of_zero_le h1.1
  obtain ⟨m, rfl⟩ := Int.eq_ofNat_of_zero_le h1.2.2.1
  obtain ⟨k, rfl⟩ := Int.eq_ofNat_of_zero_le h3
  have e : bsF n m k = ptrBytes n m k := if_pos hr
  have l16 := ptrBytes_len n m k
  have i1 := ptrBytes_at n m k (by omega)
  have i2 := ptrBytes_born n m k (by omega)
  have i3 := ptrBytes_sum n m k (by omega)
  have ho : okF (ptrBytes n m k) = true := ok_yes l16 (by rw [i1, i2, i3]; exact hr)
  obtain ⟨e1, e2, e3, e4⟩ := rd_yes ho
  rw [e]
  exact ⟨ho, by rw [e1, i1], by rw [e2, i2], by rw [e3, i3], e4, l16⟩
/-- A pointer that is read, as bytes again. -/
theorem back_bys {l : List UInt8} (h : okF l = true) : bsF (rdA l) (rdB l) (rdS l) = l ∧ bsC (rdA l) (rdB l) (rdS l) = 0 := by
  obtain ⟨e1, e2, e3, -⟩ := rd_yes h
  simp only [okF, Bool.and_eq_true, decide_eq_true_eq] at h
  rw [e1, e2, e3]
  exact ⟨(if_pos h.2).trans (ptrBytes_of h.1), if_pos h.2⟩
theorem bs_inj {a b s a' b' s' : Int} (h : IsPtr a b s) (h' : IsPtr a' b' s') (hr : rightF a b s = true) (hr' : rightF a' b' s' = true) : (bsF a b s == bsF a' b' s') = (a == a' && b == b' && s == s') := by
  obtain ⟨-, e1, e2, e3, -, -⟩ := back_ptr h hr
  obtain ⟨-, i1, i2, i3, -, -⟩ := back_ptr h' hr'
  by_cases he : bsF a b s = bsF a' b' s'
  · rw [he] at e1 e2 e3
    rw [he, ← i1.symm.trans e1, ← i2.symm.trans e2, ← i3.symm.trans e3]
    simp
  · have : ¬ (a = a' ∧ b = b' ∧ s = s') := fun hh => he (by rw [hh.1, hh.2.1, hh.2.2])
    rw [beq_eq_false_iff_ne.2 he]
    symm
    simp only [Bool.and_eq_false_iff, beq_eq_false_iff_ne]
    omega
end Go.Proofs.Ytgbghmgipnphkaa
