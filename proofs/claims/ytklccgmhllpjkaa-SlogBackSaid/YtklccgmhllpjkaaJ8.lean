/- Slog's calls as they are to be; the laws' example. -/
import Derived.Test.YtklccgmhllpjkaaJ7
set_option maxRecDepth 10000
namespace Go.Proofs.Ytklccgmhllpjkaa
open Go.RowKit

/-! ### Lists in memory -/
structure SpL (w : World) (A : Option Addr) (c : Nat) (l : List Sp) : Prop where
  rd : Rd w w.heap.size A (spc l)
  ok : SpOk l
  cap : l.length ≤ c
  len : l.length ≤ 4503599627370496
structure MvL (w : World) (A : Option Addr) (c : Nat) (l : List Mv) : Prop where
  rd : Rd w w.heap.size A (mvs l)
  ok : MvOk l
  cap : l.length ≤ c
  len : l.length ≤ 1000000
structure ByL (w : World) (A : Option Addr) (c : Nat) (l : List UInt8) : Prop where
  rd : Rd w w.heap.size A (bys l)
  cap : l.length ≤ c
  len : l.length ≤ 1000000
section
variable {w w' : World} {A : Option Addr} {c : Nat}
theorem SpL.later {l : List Sp} (h : SpL w A c l) (hb : Below w.heap.size w w') : SpL w' A c l := ⟨(h.rd.below hb).mono hb.size, h.ok, h.cap, h.len⟩
theorem MvL.later {l : List Mv} (h : MvL w A c l) (hb : Below w.heap.size w w') : MvL w' A c l := ⟨(h.rd.below hb).mono hb.size, h.ok, h.cap, h.len⟩
theorem ByL.later {l : List UInt8} (h : ByL w A c l) (hb : Below w.heap.size w w') : ByL w' A c l := ⟨(h.rd.below hb).mono hb.size, h.cap, h.len⟩
theorem SpL.nil : SpL w none 0 [] := ⟨Rd.nil, (fun _ h => by cases h), Nat.le_refl _, by simp⟩
theorem MvL.nil : MvL w none 0 [] := ⟨Rd.nil, (fun _ h => by cases h), Nat.le_refl _, by simp⟩
end
theorem repL_ok (o : Option (Int → Bool)) : SpOk (repL o) := right_ok (by omega) (repL_right o)
theorem repL_len (o : Option (Int → Bool)) : (repL o).length ≤ 4097 := by have := len_le (repL_right o); omega
theorem spM_ok {t : Bool} {L : List Sp} (h : SpOk L) : MvOk (spM t L) := fun m hm => by
  obtain ⟨p, hp, rfl⟩ := List.mem_map.1 hm
  exact h p hp
theorem diff_ok (l m : List Sp) : MvOk (diffF l m) := by
  unfold diffF
  split
  · intro x hx
    rcases List.mem_append.1 hx with hx | hx
    · exact spM_ok (right_ok (by omega) (canon_right _)) x hx
    · exact spM_ok (right_ok (by omega) (canon_right _)) x hx
  · intro x hx
    cases hx
theorem diff_len (l m : List Sp) : (diffF l m).length ≤ 8194 := by
  unfold diffF
  split
  · unfold diffS
    rw [List.length_append, spM_len, spM_len]
    have := canon_len (mixF 1 (memF l) (memF m))
    have := canon_len (mixF 1 (memF m) (memF l))
    omega
  · simp
theorem moveAt_ok (l : List UInt8) (p : Nat) : (moveAt l p).ok := by
  have := twoN_lt l (p + 1)
  have := twoN_lt l (p + 3)
  unfold Mv.ok moveAt I64
  simp only
  omega
theorem read_ok (l : List UInt8) : MvOk ((readM l).getD []) := by
  unfold readM
  split
  · intro m hm
    obtain ⟨k, _, rfl⟩ := List.mem_map.1 hm
    exact moveAt_ok _ _
  · intro m hm
    cases hm
theorem read_len (l : List UInt8) : ((readM l).getD []).length ≤ 4096 := by
  unfold readM
  split
  · next h =>
    show (movesOf l (l.length / 5)).length ≤ 4096
    rw [movesOf_len]
    omega
  · simp
theorem bytes_len (l : List Mv) : ((bytesM l).getD []).length ≤ 20480 := by
  unfold bytesM
  split
  · next h =>
    show (mvsB l).length ≤ 20480
    rw [mvsB_len]
    omega
  · simp
/-- The calls of package slog as the document has them. -/
structure LogCalls : Prop where
  replay : ∀ (A A' : Option Addr) (c c' : Nat) (l : List Sp) (ms : List Mv) (w : World), SpL w A c l → MvL w A' c' ms → Calls Try.prog 10 #[.slice A l.length c, .slice A' ms.length c'] w (PostR (repF l ms) w)
  diff : ∀ (A A' : Option Addr) (c c' : Nat) (l m : List Sp) (w : World), SpL w A c l → SpL w A' c' m → Calls Try.prog 16 #[.slice A l.length c, .slice A' m.length c'] w (GivesM (diffF l m) w)
  condense : ∀ (A : Option Addr) (c : Nat) (l : List Sp) (w : World), SpL w A c l → Calls Try.prog 12 #[.slice A l.length c] w (GivesM (diffF [] l) w)
  bytes : ∀ (A : Option Addr) (c : Nat) (ms : List Mv) (w : World), MvL w A c ms → Calls Try.prog 18 #[.slice A ms.length c] w (PostB (bytesM ms) w)
  read : ∀ (A : Option Addr) (c : Nat) (l : List UInt8) (w : World), ByL w A c l → Calls Try.prog 20 #[.slice A l.length c] w (PostM (readM l) w)
theorem PostR.sp {o : Option (Int → Bool)} {w w' : World} {e : Ending} (h : PostR o w e w') : ∃ A c, e = .returned (.tuple #[.slice A (repL o).length c, .int .i64 (repC o)]) ∧ SpL w' A c (repL o) ∧ Below w.heap.size w w' := by
  obtain ⟨A, c, he, h1, h2, hb⟩ := h
  exact ⟨A, c, he, ⟨h1, repL_ok o, h2, Nat.le_trans (repL_len o) (by omega)⟩, hb⟩
theorem GivesM.mv {l m : List Sp} {w w' : World} {e : Ending} (h : GivesM (diffF l m) w e w') : ∃ A c, e = .returned (.slice A (diffF l m).length c) ∧ MvL w' A c (diffF l m) ∧ Below w.heap.size w w' := by
  obtain ⟨A, c, he, h1, h2, hb⟩ := h
  exact ⟨A, c, he, ⟨h1, diff_ok l m, h2, Nat.le_trans (diff_len l m) (by omega)⟩, hb⟩
theorem PostB.by_ {l : List Mv} {w w' : World} {e : Ending} (h : PostB (bytesM l) w e w') : ∃ A c, e = .returned (.tuple #[.slice A ((bytesM l).getD []).length c, .int .i64 (code8 (bytesM l))]) ∧ ByL w' A c ((bytesM l).getD []) ∧ Below w.heap.size w w' := by
  obtain ⟨A, c, he, h1, h2, hb⟩ := h
  exact ⟨A, c, he, ⟨h1, h2, Nat.le_trans (bytes_len l) (by omega)⟩, hb⟩
theorem PostM.mv {l : List UInt8} {w w' : World} {e : Ending} (h : PostM (readM l) w e w') : ∃ A c, e = .returned (.tuple #[.slice A ((readM l).getD []).length c, .int .i64 (code8 (readM l))]) ∧ MvL w' A c ((readM l).getD []) ∧ Below w.heap.size w w' := by
  obtain ⟨A, c, he, h1, h2, hb⟩ := h
  exact ⟨A, c, he, ⟨h1, read_ok l, h2, Nat.le_trans (read_len l) (by omega)⟩, hb⟩
section
variable {w : World} {A A' : Option Addr} {c c' : Nat}
theorem rep_call (L : LogCalls) {l : List Sp} {ms : List Mv} (h : SpL w A c l) (k : MvL w A' c' ms) : Calls Try.prog 10 #[.slice A l.length c, .slice A' ms.length c'] w fun e w' =>
    ∃ B d, e = .returned (.tuple #[.slice B (repL (repF l ms)).length d, .int .i64 (repC (repF l ms))]) ∧ SpL w' B d (repL (repF l ms)) ∧ Below w.heap.size w w' := (L.replay A A' c c' l ms w h k).mono fun _ _ h => h.sp
theorem rrep_call {l : List Sp} {ms : List Mv} (h : SpL w A c l) (k : MvL w A' c' ms) : Calls Try.prog 13 #[.slice A l.length c, .slice A' ms.length c'] w fun e w' =>
    ∃ B d, e = .returned (.tuple #[.slice B (repL (repF l ms)).length d, .int .i64 (repC (repF l ms))]) ∧ SpL w' B d (repL (repF l ms)) ∧ Below w.heap.size w w' := (jreplay_any A A' c c' l ms w h.rd h.ok h.len k.rd k.ok k.len).mono fun _ _ h => h.sp
theorem diff_call (L : LogCalls) {l m : List Sp} (h : SpL w A c l) (k : SpL w A' c' m) : Calls Try.prog 16 #[.slice A l.length c, .slice A' m.length c'] w fun e w' =>
    ∃ B d, e = .returned (.slice B (diffF l m).length d) ∧ MvL w' B d (diffF l m) ∧ Below w.heap.size w w' := (L.diff A A' c c' l m w h k).mono fun _ _ h => h.mv
theorem rdiff_call {l m : List Sp} (h : SpL w A c l) (k : SpL w A' c' m) : Calls Try.prog 17 #[.slice A l.length c, .slice A' m.length c'] w fun e w' =>
    ∃ B d, e = .returned (.slice B (diffF l m).length d) ∧ MvL w' B d (diffF l m) ∧ Below w.heap.size w w' := (jdiff_any A A' c c' l m w h.rd h.ok h.len k.rd k.ok k.len).mono fun _ _ h => h.mv
theorem cond_call (L : LogCalls) {l : List Sp} (h : SpL w A c l) : Calls Try.prog 12 #[.slice A l.length c] w fun e w' =>
    ∃ B d, e = .returned (.slice B (diffF [] l).length d) ∧ MvL w' B d (diffF [] l) ∧ Below w.heap.size w w' := (L.condense A c l w h).mono fun _ _ h => h.mv
theorem bytes_call (L : LogCalls) {ms : List Mv} (h : MvL w A c ms) : Calls Try.prog 18 #[.slice A ms.length c] w fun e w' =>
    ∃ B d, e = .returned (.tuple #[.slice B ((bytesM ms).getD []).length d, .int .i64 (code8 (bytesM ms))]) ∧ ByL w' B d ((bytesM ms).getD []) ∧ Below w.heap.size w w' := (L.bytes A c ms w h).mono fun _ _ h => h.by_
theorem rbytes_call {ms : List Mv} (h : MvL w A c ms) : Calls Try.prog 19 #[.slice A ms.length c] w fun e w' =>
    ∃ B d, e = .returned (.tuple #[.slice B ((bytesM ms).getD []).length d, .int .i64 (code8 (bytesM ms))]) ∧ ByL w' B d ((bytesM ms).getD []) ∧ Below w.heap.size w w' := (jbytes_any A c ms w h.rd h.ok h.len).mono fun _ _ h => h.by_
theorem read_call (L : LogCalls) {l : List UInt8} (h : ByL w A c l) : Calls Try.prog 20 #[.slice A l.length c] w fun e w' =>
    ∃ B d, e = .returned (.tuple #[.slice B ((readM l).getD []).length d, .int .i64 (code8 (readM l))]) ∧ MvL w' B d ((readM l).getD []) ∧ Below w.heap.size w w' := (L.read A c l w h).mono fun _ _ h => h.mv
theorem rread_call {l : List UInt8} (h : ByL w A c l) : Calls Try.prog 21 #[.slice A l.length c] w fun e w' =>
    ∃ B d, e = .returned (.tuple #[.slice B ((readM l).getD []).length d, .int .i64 (code8 (readM l))]) ∧ MvL w' B d ((readM l).getD []) ∧ Below w.heap.size w w' := (jread_any A c l w h.rd h.cap (by have := h.len; omega)).mono fun _ _ h => h.mv
theorem jsame_call {l m : List Mv} (h : MvL w A c l) (k : MvL w A' c' m) : Calls Try.prog 15 #[.slice A l.length c, .slice A' m.length c'] w fun e w' =>
    e = .returned (.bool (decide (l = m))) ∧ Below w.heap.size w w' := jsame_any A A' c c' l m w h.rd k.rd (by have := h.len; omega)
theorem ssame_call {l m : List Sp} (h : SpL w A c l) (k : SpL w A' c' m) : Calls Try.prog 14 #[.slice A l.length c, .slice A' m.length c'] w fun e w' =>
    e = .returned (.bool (decide (l = m))) ∧ Below w.heap.size w w' := same_any A A' c c' l m w h.rd k.rd h.len
theorem right_call {l : List Sp} (h : SpL w A c l) : Calls Try.prog 22 #[.slice A l.length c] w fun e w' => e = .returned (.bool (rightF 0 l)) ∧ Below w.heap.size w w' := rright_any A c l w h.rd h.ok h.len
end
end Go.Proofs.Ytklccgmhllpjkaa
