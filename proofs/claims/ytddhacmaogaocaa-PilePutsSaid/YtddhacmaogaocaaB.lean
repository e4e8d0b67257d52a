import Derived.Test.YtddhacmaogaocaaG

/- Bytes in memory: a slice of bytes that is read, one of the call's own, appends. No function of the program; the type's numbers alone. -/
import Derived.Deep.QuietTactic
import Derived.BigQuiet
import Derived.Maps.AppendAt
import Derived.Laws.BitsAllLaws
set_option maxRecDepth 10000
namespace Go.Proofs.Ytddhacmaogaocaa
open Go.RowKit

theorem infoByte : (Try.prog.info? 5).map (fun i => (i.zero, i.size, i.bytes)) = some (some (.int .u8 0), 1, 1) := by kernel_rfl
/-- A slice of bytes of the call's own. -/
def OwnB (w : World) (base : Nat) (v : Value) (l : List UInt8) : Prop := w.ownsRow base 5 1 v l.length (bys l)
theorem ownB_snoc {w : World} {base : Nat} {v : Value} {l : List UInt8} {m : Nat} {b : UInt8} {x : Int} (hm : m = l.length + 1) (hx : x = (b.toNat : Int)) (h : w.ownsRow base 5 1 v m (bys l ++ [.int .u8 x])) : OwnB w base v (l ++ [b]) := by
  subst hm hx
  unfold OwnB
  rw [List.length_append, bys_app]
  exact h
theorem ownB_app {w : World} {base : Nat} {v : Value} {l m : List UInt8} (h : w.ownsRow base 5 1 v (l.length + m.length) (bys l ++ bys m)) : OwnB w base v (l ++ m) := by
  unfold OwnB
  rw [List.length_append, bys_app]
  exact h
theorem ownB_nil (w : World) (base : Nat) (hb : base ≤ w.heap.size) : OwnB (w.alloc (.cells #[] 5)) base (.slice (some ⟨w.heap.size, 0, none⟩) 0 0) [] := by
  have h := World.ownsRow_lit (base := base) (e := 5) (size := 1) w #[] 0 hb (by simp [maxLen]) rfl
  simpa [OwnB, bys] using h
theorem text_own {w : World} {base m s : Nat} {v : Value} {t : List UInt8} (ht : t.length = s) (h : w.ownsRow base 5 1 v m (bys [] ++ bys t)) : ∃ A c, v = .slice A s c ∧ Hid (OwnB w base (.slice A t.length c) t) := by
  have hm : m = t.length := by
    have := h.1
    simp [bys] at this
    omega
  subst hm
  have h' : OwnB w base v t := h
  obtain ⟨A, c, rfl, _⟩ := own_rd h'
  exact ⟨A, c, by rw [ht], h'⟩
/-- append([]byte{}, t...): the copy is a slice of the call's own. -/
theorem app_copy {ops : Array Oper} {rest : List Oper} {o : Oper} {a : Act} {w : World} {Q : Exit → Act → World → Prop} (hgd : o.guard = none) (s x : Nat)
    (ho : o.op = .call { callee := .builtin .append, args := #[.tmp s, .tmp x], argTypes := #[37, 37] })
    (hs : a.eval (.tmp s) = .slice (some ⟨w.heap.size, 0, none⟩) 0 0) (B : Nat) (A : Option Addr) (m n c : Nat) (t : List UInt8)
    (hx : a.eval (.tmp x) = .slice A m c) (hm : t.length = n) (hmn : m = n) (hr : Rd (w.alloc (.cells #[] 5)) B A (bys t)) (hn : n ≤ 140737488355328)
    (h : ∀ A' c' w', OwnB w' w.heap.size (.slice A' n c') t → Below w.heap.size w w' → wpList Try.prog ops Q rest (a.put o.dst (.slice A' n c')) w') :
    wpList Try.prog ops Q (o :: rest) a (w.alloc (.cells #[] 5)) := by
  subst hmn
  have hE := ownB_nil w w.heap.size (Nat.le_refl _)
  refine app_all Try.underlying37 infoByte rfl hgd s x ho w.heap.size _ 0 (bys []) hs hE B A m c _ hx (by rw [bys_len, hm]) hr bys_one (by simp) (by omega) (by omega) ?_
  intro v' w' h1 h2
  obtain ⟨A', c', rfl, hX⟩ := text_own hm h1
  exact h A' c' w' (by have h := hX.out; rwa [hm] at h) (below_own ((Below.refl _ _).alloc (Nat.le_refl _) _) hE (Nat.le_refl _) (by simp) h2)
/-- append(t, b): one byte more behind a copy. -/
theorem app_more {ops : Array Oper} {rest : List Oper} {o : Oper} {a : Act} {w : World} {Q : Exit → Act → World → Prop} (hgd : o.guard = none) (s x : Nat)
    (ho : o.op = .call { callee := .builtin .append, args := #[.tmp s, .tmp x], argTypes := #[37, 37] })
    (A : Option Addr) (n c base : Nat) (t : List UInt8) (b : UInt8) (z : Int) (hs : a.eval (.tmp s) = .slice A n c) (hn : t.length = n) (hown : OwnB w base (.slice A n c) t) (hz : z = (b.toNat : Int))
    (hx : a.eval (.tmp x) = .slice (some ⟨w.heap.size, 0, none⟩) 1 1) (hbase : base ≤ w.heap.size) (hl : n + 1 ≤ 140737488355328)
    (h : ∀ A' c' w', Rd w' w'.heap.size A' (bys (t ++ [b])) → n + 1 ≤ c' → Below base w w' → wpList Try.prog ops Q rest (a.put o.dst (.slice A' (n + 1) c')) w') :
    wpList Try.prog ops Q (o :: rest) a (w.alloc (.cells #[.int .u8 z] 5)) := by
  subst hn
  refine app_one Try.underlying37 infoByte rfl hgd s x ho base _ _ _ hs hown _ rfl hx hbase (by omega) (by omega) ?_
  intro v' w' h1 h2
  have h3 := ownB_snoc rfl hz h1
  obtain ⟨A', c', rfl, h4, h5⟩ := own_rd h3
  rw [List.length_append] at h5 ⊢
  exact h A' c' w' h4 h5 (below_own ((Below.refl _ _).alloc hbase _) (World.ownsRow.alloc hown _) (Nat.le_refl _) (by simp; omega) h2)
end Go.Proofs.Ytddhacmaogaocaa
