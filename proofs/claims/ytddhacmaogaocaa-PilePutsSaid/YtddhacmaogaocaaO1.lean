/- Piles as plain mathematics: a device that keeps its power, a map, two stamps; what each call does to them. No function of the program. -/
import Derived.Test.YtddhacmaogaocaaV10
import Derived.Test.YtddhacmaogaocaaSP
import Derived.Test.YtddhacmaogaocaaN3
set_option maxRecDepth 10000
namespace Go.Proofs.Ytddhacmaogaocaa
open Go.RowKit

/-- Bytes as a sector, zeros behind. -/
def blockS (l : List UInt8) : Sec := ⟨(l ++ List.replicate 128 0).take 128, by rw [List.length_take, List.length_append, List.length_replicate]; omega⟩
def sumS (x : Sec) : Nat := moreF 0 x.l
theorem blockS_at (l : List UInt8) (j : Nat) (hj : j < 128) : (blockS l).l[j]'(by rw [(blockS l).h]; exact hj) = l.getD j 0 := by
  simp only [blockS, List.getElem_take, List.getD]
  by_cases h : j < l.length
  · rw [List.getElem_append_left h, List.getElem?_eq_getElem h]
    rfl
  · rw [List.getElem_append_right (by omega), List.getElem?_eq_none (by omega), List.getElem_replicate]
    rfl
abbrev PtrV := Int × Int × Int
def hole0 : PtrV := (0, 0, 0)
/-- What can be told of a pile whose device keeps its power: what is read of it, the map, the stamp, the base; at most so many writes aren't stable. -/
structure Pw where
  nw : List Sec
  m : Mp
  st : Nat
  ba : Nat
  N : Nat
def newPw (x : Int) : Pw := ⟨List.replicate (min (max x 0) 1024).toNat zsec, newMp x, 1, 0, 0⟩
def putC (P : Pw) (l : List UInt8) : Int := if 128 < l.length then 92 else match P.m.next with
  | none => 71
  | some _ => 0
def putQ (P : Pw) (l : List UInt8) : PtrV := if 128 < l.length then hole0 else match P.m.next with
  | none => hole0
  | some i => ((i : Int), (P.st : Int), (sumS (blockS l) : Int))
def putP (P : Pw) (l : List UInt8) : Pw := if 128 < l.length then P else match P.m.next with
  | none => P
  | some i => ⟨P.nw.set i (blockS l), P.m.put i 1, P.st, P.ba, P.N + 1⟩
def putAtC (P : Pw) (i : Int) (l : List UInt8) : Int := if 128 < l.length then 92 else if 0 ≤ i ∧ P.m.is 1 i.toNat = true then 0 else 72
def putAtQ (P : Pw) (i : Int) (l : List UInt8) : PtrV := if putAtC P i l = 0 then (i, (P.st : Int), (sumS (blockS l) : Int)) else hole0
def putAtP (P : Pw) (i : Int) (l : List UInt8) : Pw := if putAtC P i l = 0 then ⟨P.nw.set i.toNat (blockS l), P.m, P.st, P.ba, P.N + 1⟩ else P
def getS (P : Pw) (q : PtrV) : Sec × Int :=
  if q = hole0 then (zsec, 0)
  else if hasF P.nw.length q.1 = true then
    if (sumS (P.nw.getD q.1.toNat zsec) : Int) = q.2.2 then (P.nw.getD q.1.toNat zsec, 0) else (zsec, 91)
  else (zsec, 91)
def dropT (P : Pw) (q : PtrV) : Nat := if (P.ba : Int) < q.2.1 then 0 else 2
def dropC (P : Pw) (q : PtrV) : Int := if q = hole0 then 0 else turnC P.m q.1 1 (dropT P q)
def dropP (P : Pw) (q : PtrV) : Pw := if q = hole0 then P else ⟨P.nw, turnM P.m q.1 1 (dropT P q), P.st, P.ba, P.N⟩
def comP (P : Pw) : Pw := ⟨P.nw, P.m.commit, P.st + 1, P.st, P.N⟩
def rotW (P : Pw) (i : Int) (x : Sec) : Pw := if hasF P.nw.length i = true then ⟨P.nw.set i.toNat x, P.m, P.st, P.ba, P.N⟩ else P
theorem pput_no {P : Pw} {l : List UInt8} (h : 128 < l.length) : putC P l = 92 ∧ putQ P l = hole0 ∧ putP P l = P := by
  unfold putC putQ putP
  rw [if_pos h, if_pos h, if_pos h]
  exact ⟨rfl, rfl, rfl⟩
theorem put_full {P : Pw} {l : List UInt8} (h : ¬ 128 < l.length) (hm : P.m.next = none) : putC P l = 71 ∧ putQ P l = hole0 ∧ putP P l = P := by
  unfold putC putQ putP
  rw [if_neg h, if_neg h, if_neg h, hm]
  exact ⟨rfl, rfl, rfl⟩
theorem pput_yes {P : Pw} {l : List UInt8} {i : Nat} (h : ¬ 128 < l.length) (hm : P.m.next = some i) : putC P l = 0 ∧ putQ P l = ((i : Int), (P.st : Int), (sumS (blockS l) : Int)) ∧ putP P l = ⟨P.nw.set i (blockS l), P.m.put i 1, P.st, P.ba, P.N + 1⟩ := by
  unfold putC putQ putP
  rw [if_neg h, if_neg h, if_neg h, hm]
  exact ⟨rfl, rfl, rfl⟩
theorem putAt_no {P : Pw} {i : Int} {l : List UInt8} (h : putAtC P i l ≠ 0) : putAtQ P i l = hole0 ∧ putAtP P i l = P := by
  unfold putAtQ putAtP
  rw [if_neg h, if_neg h]
  exact ⟨rfl, rfl⟩
theorem putAt_yes {P : Pw} {i : Nat} {l : List UInt8} (h : ¬ 128 < l.length) (hm : P.m.is 1 i = true) : putAtC P i l = 0 ∧ putAtQ P i l = ((i : Int), (P.st : Int), (sumS (blockS l) : Int)) ∧ putAtP P i l = ⟨P.nw.set i (blockS l), P.m, P.st, P.ba, P.N + 1⟩ := by
  have e : putAtC P i l = 0 := by unfold putAtC; rw [if_neg h, if_pos ⟨by omega, by simpa using hm⟩]
  refine ⟨e, ?_, ?_⟩
  · unfold putAtQ; rw [if_pos e]
  · unfold putAtP; rw [if_pos e]; simp
theorem get_hole (P : Pw) : getS P hole0 = (zsec, 0) := if_pos rfl
theorem get_same {P : Pw} {i : Nat} {b : Int} {x : Sec} (hq : ((i : Int), b, (sumS x : Int)) ≠ hole0) (hi : i < P.nw.length) (hx : P.nw.getD i zsec = x) : getS P ((i : Int), b, (sumS x : Int)) = (x, 0) := by
  unfold getS
  rw [if_neg hq, if_pos (by unfold hasF; rw [decide_eq_true_iff]; omega)]
  simp only [Int.toNat_natCast, hx, if_true]
theorem get_other {P : Pw} {i : Nat} {b s : Int} {x : Sec} (hq : ((i : Int), b, s) ≠ hole0) (hi : i < P.nw.length) (hx : P.nw.getD i zsec = x) (hs : (sumS x : Int) ≠ s) : getS P ((i : Int), b, s) = (zsec, 91) := by
  unfold getS
  rw [if_neg hq, if_pos (by unfold hasF; rw [decide_eq_true_iff]; omega)]
  simp only [Int.toNat_natCast, hx]
  rw [if_neg hs]
theorem drop_hole (P : Pw) : dropC P hole0 = 0 ∧ dropP P hole0 = P := ⟨if_pos rfl, if_pos rfl⟩
theorem drop_yes {P : Pw} {i : Nat} {b s : Int} (hq : ((i : Int), b, s) ≠ hole0) (hi : P.m.is 1 i = true) :
    dropC P ((i : Int), b, s) = 0 ∧ dropP P ((i : Int), b, s) = ⟨P.nw, P.m.put i (if (P.ba : Int) < b then 0 else 2), P.st, P.ba, P.N⟩ := by
  unfold dropC dropP
  rw [if_neg hq, if_neg hq]
  have h : P.m.turn ((i : Int)) 1 (dropT P ((i : Int), b, s)) = some (P.m.put i (dropT P ((i : Int), b, s))) := by
    unfold Mp.turn
    rw [if_pos ⟨by omega, by simpa using hi⟩, Int.toNat_natCast]
  unfold turnC turnM
  simp only [h]
  exact ⟨trivial, rfl⟩
theorem drop_no {P : Pw} {i : Nat} {b s : Int} (hq : ((i : Int), b, s) ≠ hole0) (hi : P.m.is 1 i = false) : dropC P ((i : Int), b, s) = 72 ∧ dropP P ((i : Int), b, s) = P := by
  unfold dropC dropP
  rw [if_neg hq, if_neg hq]
  have h : P.m.turn ((i : Int)) 1 (dropT P ((i : Int), b, s)) = none := by
    unfold Mp.turn
    rw [if_neg]
    rintro ⟨_, h⟩
    rw [Int.toNat_natCast, hi] at h
    cases h
  unfold turnC turnM
  simp only [h]
  exact ⟨trivial, trivial⟩
theorem hole_ne {a b s : Int} (h : b ≠ 0) : (a, b, s) ≠ hole0 := fun e => h (congrArg (fun q : PtrV => q.2.1) e)
end Go.Proofs.Ytddhacmaogaocaa
