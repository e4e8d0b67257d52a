/- Walks: the laws on numbers as bytes and back. -/
import Derived.Test.YtccmannmbldghaaF14
namespace Go.Proofs.Ytccmannmbldghaa
open Go.RowKit

/-- append([]T{}, l...): a copy of a list. -/
theorem app_fresh {P : Program} {T E : TypeId} {z : Value} {bytes : Nat} (hT : P.underlying T = some (.slice E)) (hinfo : (P.info? E).map (fun i => (i.zero, i.size, i.bytes)) = some (some z, 1, bytes)) (hz1 : z.cells.size = 1)
    {ops : Array Oper} {rest : List Oper} {o : Oper} {a : Act} {w : World} {Q : Exit → Act → World → Prop} (hgd : o.guard = none) (s x : Nat)
    (ho : o.op = .call { callee := .builtin .append, args := #[.tmp s, .tmp x], argTypes := #[T, T] })
    (hs : a.eval (.tmp s) = .slice (some ⟨w.heap.size, 0, none⟩) 0 0) (B : Nat) (A : Option Addr) (m c : Nat) (news : List Value)
    (hx : a.eval (.tmp x) = .slice A m c) (hm : news.length = m) (hr : Rd (w.alloc (.cells #[] E)) B A news) (h1 : ∀ u ∈ news, u.oneCell' = true) (hb0 : 0 < bytes) (hn : m * bytes ≤ 140737488355328)
    (h : ∀ A' c' w', Rd w' w'.heap.size A' news → m ≤ c' → Below w.heap.size w w' → wpList P ops Q rest (a.put o.dst (.slice A' m c')) w') :
    wpList P ops Q (o :: rest) a (w.alloc (.cells #[] E)) := by
  have hE : (w.alloc (.cells #[] E)).ownsRow w.heap.size E 1 (.slice (some ⟨w.heap.size, 0, none⟩) 0 0) 0 [] := World.ownsRow_lit (base := w.heap.size) (e := E) (size := 1) w #[] 0 (Nat.le_refl _) (by simp [maxLen]) rfl
  refine app_all hT hinfo hz1 hgd s x ho w.heap.size _ 0 [] hs hE B A m c news hx hm hr h1 (by simp) hb0 (by simpa using hn) ?_
  intro v' w' h1 h2
  simp only [Nat.zero_add, List.nil_append] at h1
  obtain ⟨A', c', rfl, hX, hc⟩ := own_rd h1
  exact h A' c' w' hX hc (below_own ((Below.refl _ _).alloc (Nat.le_refl _) _) hE (Nat.le_refl _) (by simp) h2)

theorem code_same {α : Type} (o : Option α) : (codeF o == codeF o) = true := by simp

set_option maxHeartbeats 1000000 in
theorem fieldPuts_any (w : World) (A : Option Addr) (c : Nat) (ws : List Int) (hs : Rd w w.heap.size A (wds ws)) (hl : ws.length * 8 ≤ 140737488351232) (A' : Option Addr) (c' : Nat) (ns : List Nat) (ht : Rd w w.heap.size A' (uns ns)) (hN : ∀ n ∈ ns, n < 18446744073709551616) (hl' : ns.length * 8 ≤ 140737488351232) :
    Calls Try.prog 4 #[.slice A ws.length c, .slice A' ns.length c'] w fun e w' => e = .returned (.bool true) ∧ Below w.heap.size w w' := by
  have hb0 : Below w.heap.size w (w.alloc (.cells #[] 3)) := (Below.refl _ _).alloc (Nat.le_refl _) _
  have HB0 := Lib.hid hb0
  have HN := Lib.hid hN
  have hl1 : ws.length ≤ 17592186044416 := by omega
  have hl2 : ns.length ≤ 17592186044416 := by omega
  clear hb0 hN
  go_enter Try.func4, Try.ntmps4
  go_wp2_with (first
    | (at_builtin; go_loud (refine app_fresh Try.underlying28 infoInt rfl rfl 10 11 rfl rfl w.heap.size A ws.length c (wds ws) rfl (wds_len _) (hs.below HB0.out) wds_one (by omega) (by omega) ?_); intro A1 c1 w1 hr1 hc1 hb1; have HR1 := Lib.hid hr1; have HB1 := Lib.hid hb1; clear hr1 hb1)
    | (at_builtin; go_loud (refine app_fresh Try.underlying22 infoUn rfl rfl 13 14 rfl rfl w.heap.size A' ns.length c' (uns ns) rfl (uns_len _) (ht.below (HB1.out.alloc HB1.out.size _)) uns_one (by omega) (by omega) ?_); intro A2 c2 w2 hr2 hc2 hb2; have HR2 := Lib.hid hr2; have HB2 := Lib.hid hb2; clear hr2 hb2)
    | (go_at_call 12; go_loud (refine (put_any A1 A2 c1 c2 ws ns w2 ((HR1.out.below HB2.out).mono HB2.out.size) HR2.out HN.out hl1).mono ?_); rintro e w3 ⟨A3, c3, rfl, h3, hc3, hb3⟩; have HR3 := Lib.hid h3; have HB3 := Lib.hid ((HB1.out.trans (HB2.out.mono HB1.out.size)).trans (hb3.mono (Nat.le_trans HB1.out.size HB2.out.size))); clear h3 hb3)
    | (go_at_call 13; go_loud (refine (rput_any A A' c c' ws ns w3 ((hs.below HB3.out).mono HB3.out.size) ((ht.below HB3.out).mono HB3.out.size) HN.out hl1).mono ?_); rintro e w4 ⟨A4, c4, rfl, h4, hc4, hb4⟩; have HR4 := Lib.hid h4; have HB4 := Lib.hid hb4; clear h4 hb4)
    | (go_at_call 11; go_loud (refine (alive_any w4).mono ?_); rintro e w5 ⟨rfl, hb5⟩; have HB5 := Lib.hid hb5; have hk1 := conv_bytes (c := c3) ((HR3.out.below HB4.out).below (HB5.out.mono HB4.out.size)); have hk2 := conv_bytes (c := c4) (HR4.out.below HB5.out); clear hb5))
  go_ret
  exact ⟨rfl, (HB3.out.trans (HB4.out.mono HB3.out.size)).trans (HB5.out.mono (Nat.le_trans HB3.out.size HB4.out.size))⟩
end Go.Proofs.Ytccmannmbldghaa
