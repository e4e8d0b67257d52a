
/- Walks: the reference's Mix, List, Has, First; the program's Count, First. -/
import Derived.Test.YtddhacmaogaocaaW4
set_option maxRecDepth 10000
namespace Go.Proofs.Ytddhacmaogaocaa
open Go.RowKit

def mixF (how : Int) (S T : Int → Bool) (n : Int) : Bool := if how = 0 then S n || T n else if how = 1 then S n && !T n else S n && T n
def mixK (how : Int) (S T : Int → Bool) (k n : Int) : Bool := if n < k then mixF how S T n else S n

/-- The numbers below k, rising. -/
def numsTo (S : Int → Bool) : Nat → List Int
  | 0 => []
  | k + 1 => if S k then numsTo S k ++ [(k : Int)] else numsTo S k
theorem numsTo_len (S : Int → Bool) : ∀ k, (numsTo S k).length ≤ k
  | 0 => by simp [numsTo]
  | k + 1 => by
    have := numsTo_len S k
    simp only [numsTo]
    split
    · simp; omega
    · omega
def OwnI (w : World) (base : Nat) (v : Value) (l : List Int) : Prop := w.ownsRow base 3 1 v l.length (ints l)
theorem ints_app (a b : List Int) : ints (a ++ b) = ints a ++ ints b := by simp [ints]
theorem ints_one {l : List Int} : ∀ u ∈ ints l, u.oneCell' = true := by
  intro u hu
  simp only [ints, List.mem_map] at hu
  obtain ⟨n, _, rfl⟩ := hu
  rfl
/-- append of one number that lies in the newest block. -/
theorem app_int {ops : Array Oper} {rest : List Oper} {o : Oper} {a : Act} {w : World} {Q : Exit → Act → World → Prop} (hgd : o.guard = none) (s x : Nat)
    (ho : o.op = .call { callee := .builtin .append, args := #[.tmp s, .tmp x], argTypes := #[93, 93] })
    (base : Nat) (v : Value) (l : List Int) (hs : a.eval (.tmp s) = v) (hown : OwnI w base v l) (n : Int)
    (hx : a.eval (.tmp x) = .slice (some ⟨w.heap.size, 0, none⟩) 1 1) (hbase : base ≤ w.heap.size) (hR : l.length ≤ 1048576)
    (h : ∀ v' w', OwnI w' base v' (l ++ [n]) → (w.alloc (.cells #[.int .i64 n] 3)).grownBy w' v.ownBlock → wpList Try.prog ops Q rest (a.put o.dst v') w') :
    wpList Try.prog ops Q (o :: rest) a (w.alloc (.cells #[.int .i64 n] 3)) := by
  obtain ⟨i0, hi0, hz0, hz1, hz2⟩ := info_parts infoInt
  refine wpList_append_own _ hgd (.tmp s) (.tmp x) _ ho base 3 i0 _ 1 8 Try.underlying93 hi0 hz0 hz1 hz2 rfl (by omega) v l.length (ints l) hs (World.ownsRow.alloc hown _)
    ⟨w.heap.size, 0, none⟩ 1 1 [.int .i64 n] hx rfl (cells_new w #[.int .i64 n] 3) (by simp [Value.oneCell']) (by simp only [maxLen]; omega) (by omega) (by simp; omega) ?_
  intro v' w' h1 h2 _
  refine h v' w' ?_ h2
  show w'.ownsRow base 3 1 v' (l ++ [n]).length (ints (l ++ [n]))
  rw [ints_app, List.length_append]
  exact h1

/-- The first span of at least so many. -/
def firstF (l : List Sp) (many : Int) : Option Sp := if many < 1 then none else l.find? fun p => decide (many ≤ p.2)
def firstV (l : List Sp) (many : Int) : Value := match firstF l many with
  | none => .tuple #[.agg #[.int .i64 0, .int .i64 0], .bool false]
  | some p => .tuple #[.agg #[.int .i64 p.1, .int .i64 many], .bool true]
theorem first_low {l : List Sp} {many : Int} (h : many < 1) : firstV l many = .tuple #[.agg #[.int .i64 0, .int .i64 0], .bool false] := by
  simp [firstV, firstF, h]
theorem first_miss {l : List Sp} {many : Int} (h : ∀ p ∈ l, p.2 < many) : firstV l many = .tuple #[.agg #[.int .i64 0, .int .i64 0], .bool false] := by
  by_cases hm : many < 1
  · exact first_low hm
  · have : l.find? (fun p => decide (many ≤ p.2)) = none := by
      rw [List.find?_eq_none]
      intro p hp
      have := h p hp
      simp; omega
    simp [firstV, firstF, hm, this]
theorem first_hit {l : List Sp} {many : Int} (hm : 1 ≤ many) {k : Nat} (hk : k < l.length) (h : ∀ p ∈ l.take k, p.2 < many) (hh : many ≤ l[k].2) : firstV l many = .tuple #[.agg #[.int .i64 l[k].1, .int .i64 many], .bool true] := by
  have : l.find? (fun p => decide (many ≤ p.2)) = some l[k] := by
    rw [List.find?_eq_some_iff_getElem]
    refine ⟨by simpa using hh, k, hk, rfl, fun j hj => ?_⟩
    have := h l[j] (by rw [List.mem_take_iff_getElem]; exact ⟨j, by omega, rfl⟩)
    simp; omega
  simp [firstV, firstF, show ¬ many < 1 by omega, this]
theorem take_lt {l : List Sp} {many : Int} {k : Nat} (hk : k < l.length) (h : ∀ p ∈ l.take k, p.2 < many) (hh : l[k].2 < many) : ∀ p ∈ l.take (k + 1), p.2 < many := by
  rw [List.take_succ_eq_append_getElem hk]
  intro p hp
  rcases List.mem_append.1 hp with hp | hp
  · exact h p hp
  · rw [List.mem_singleton] at hp; rw [hp]; exact hh

end Go.Proofs.Ytddhacmaogaocaa
