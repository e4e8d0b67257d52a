/- Texts in memory. Walks: a clone; texts side by side, the program's. -/
import Derived.Test.YtccmannmbldghaaF7
namespace Go.Proofs.Ytccmannmbldghaa
open Go.RowKit

/-- A text in memory: where it lies, its room, its bytes. -/
abbrev Tx := Option Addr × Nat × List UInt8
def txv (t : Tx) : Value := .slice t.1 t.2.2.length t.2.1
def txs (l : List Tx) : List Value := l.map txv
def byt (l : List Tx) : List (List UInt8) := l.map fun t => t.2.2
def TxIn (w : World) (B : Nat) (l : List Tx) : Prop := ∀ t ∈ l, Rd w B t.1 (bys t.2.2) ∧ t.2.2.length ≤ t.2.1
theorem txs_len (l : List Tx) : (txs l).length = l.length := by simp [txs]
theorem byt_len (l : List Tx) : (byt l).length = l.length := by simp [byt]
theorem txs_app (a b : List Tx) : txs (a ++ b) = txs a ++ txs b := by simp [txs]
theorem byt_app (a b : List Tx) : byt (a ++ b) = byt a ++ byt b := by simp [byt]
theorem byt_take (l : List Tx) (k : Nat) : byt (l.take k) = (byt l).take k := by simp [byt, List.map_take]
theorem txs_at (l : List Tx) (k : Nat) (h : k < l.length) : (txs l)[k]? = some (.slice l[k].1 l[k].2.2.length l[k].2.1) := by simp [txs, txv, h]
theorem tx_at {w : World} {B : Nat} {A : Option Addr} {l : List Tx} (h : Rd w B A (txs l)) (k : Nat) (hk : k < l.length) :
    ∃ b off, A = some ⟨b, off, none⟩ ∧ b < B ∧ w.cell? ⟨b, off + k, none⟩ = some (.slice l[k].1 l[k].2.2.length l[k].2.1) := h.at_ k _ (txs_at l k hk)
theorem TxIn.below {w w' : World} {B : Nat} {l : List Tx} (h : TxIn w B l) (hb : Below B w w') : TxIn w' B l := fun t ht => ⟨(h t ht).1.below hb, (h t ht).2⟩
theorem TxIn.mono {w : World} {B B' : Nat} {l : List Tx} (h : TxIn w B l) (hB : B ≤ B') : TxIn w B' l := fun t ht => ⟨(h t ht).1.mono hB, (h t ht).2⟩

/-- What a call owns stays where only a row of other elements turns. -/
theorem own_other {w w' : World} {base base' e e' size size' n n' : Nat} {v v' : Value} {xs xs' : List Value} (h : w.ownsRow base e size v n xs) (h' : w.ownsRow base' e' size' v' n' xs') (hne : e ≠ e') (hg : w.grownBy w' v'.ownBlock) : w'.ownsRow base e size v n xs := by
  refine ⟨h.1, ?_⟩
  rcases h.2 with h0 | ⟨g, cap, cur, rfl, hbg, hgg, hrest⟩
  · exact .inl h0
  · refine .inr ⟨g, cap, cur, rfl, hbg, ?_, hrest⟩
    have hlt := (h.lt g rfl).2
    refine (hg.block g hlt ?_).trans hgg
    rcases h'.2 with ⟨rfl, _⟩ | ⟨g', cap', cur', rfl, _, hgg', _⟩
    · simp [Value.ownBlock]
    · intro he
      have : g = g' := by simpa [Value.ownBlock] using he
      subst this
      rw [hgg] at hgg'
      injection hgg' with hgg'
      injection hgg' with _ ht
      exact hne ht
/-- A slice of texts of the call's own, each in a row of its own. -/
def OwnT (w : World) (base : Nat) (v : Value) (l : List Tx) : Prop := w.ownsRow base 26 1 v l.length (txs l) ∧ ∀ t ∈ l, OwnB w base (txv t) t.2.2
theorem OwnT.below {w w' : World} {base : Nat} {v : Value} {l : List Tx} (h : OwnT w base v l) (hb : Below w.heap.size w w') : OwnT w' base v l := ⟨own_far h.1 hb, fun t ht => own_far (h.2 t ht) hb⟩
theorem OwnT.snoc {w w' : World} {base : Nat} {v v' : Value} {l : List Tx} {t : Tx} {o : Obj} (h : OwnT w base v l) (ht : OwnB w base (txv t) t.2.2) (hown : w'.ownsRow base 26 1 v' (l.length + 1) (txs l ++ [txv t])) (hg : (w.alloc o).grownBy w' v.ownBlock) : OwnT w' base v' (l ++ [t]) := by
  refine ⟨?_, fun u hu => ?_⟩
  · rw [List.length_append, txs_app]
    exact hown
  · have hu' : OwnB w base (txv u) u.2.2 := by
      rcases List.mem_append.1 hu with hu | hu
      · exact h.2 u hu
      · rw [List.mem_singleton] at hu
        rw [hu]
        exact ht
    exact own_other (World.ownsRow.alloc hu' o) (World.ownsRow.alloc h.1 o) (by decide) hg
theorem OwnT.rd {w : World} {base : Nat} {v : Value} {l : List Tx} (h : OwnT w base v l) : ∃ A c, v = .slice A l.length c ∧ Rd w w.heap.size A (txs l) ∧ TxIn w w.heap.size l ∧ l.length ≤ c := by
  obtain ⟨A, c, rfl, h1, h2⟩ := own_rd h.1
  refine ⟨A, c, rfl, h1, fun t ht => ?_, h2⟩
  obtain ⟨A', c', he, h3, h4⟩ := own_rd (h.2 t ht)
  have he' : Value.slice t.1 t.2.2.length t.2.1 = .slice A' t.2.2.length c' := he
  simp only [Value.slice.injEq, true_and] at he'
  obtain ⟨rfl, rfl⟩ := he'
  exact ⟨h3, h4⟩

set_option maxHeartbeats 400000 in
theorem clone_any (A : Option Addr) (c : Nat) (l : List UInt8) (w : World) (hs : Rd w w.heap.size A (bys l)) (hl : l.length ≤ 140737488355328) :
    Calls Try.prog 27 #[.slice A l.length c] w fun e w' => ∃ A' c', e = .returned (.slice A' l.length c') ∧ OwnB w' w.heap.size (.slice A' l.length c') l ∧ Below w.heap.size w w' := by
  rcases A with _ | ad
  · obtain rfl : l = [] := by
      rcases l with _ | ⟨b, r⟩
      · rfl
      · obtain ⟨_, _, h, _⟩ := hs (by simp [bys])
        cases h
    have hq : ∀ W, (binOp .eql 26 (.slice none 0 c) (.slice none 0 0)).run Try.prog W = .ok (.bool true) W := fun W => Lib.run_eql_slice_nil W 26 5 none 0 c 0 0 Try.underlying26
    go_enter Try.func27, Try.ntmps27
    go_wp2_with fail
    go_ret
    exact ⟨none, 0, rfl, World.ownsRow_nil _ _ _ _, Below.refl _ _⟩
  · have hq : ∀ W, (binOp .eql 26 (.slice (some ad) l.length c) (.slice none 0 0)).run Try.prog W = .ok (.bool false) W := fun W => Lib.run_eql_slice_nil W 26 5 (some ad) l.length c 0 0 Try.underlying26
    have hbn : Below w.heap.size w (w.alloc (.cells #[] 5)) := (Below.refl _ _).alloc (Nat.le_refl _) _
    have HB := Lib.hid hbn; clear hbn
    have HE : Hid (OwnB (w.alloc (.cells #[] 5)) w.heap.size (.slice (some ⟨w.heap.size, 0, none⟩) 0 0) []) := ownB_nil w w.heap.size (Nat.le_refl _)
    go_enter Try.func27, Try.ntmps27
    go_wp2_with (at_builtin; go_loud (refine app_all Try.underlying26 infoByte rfl rfl 5 6 rfl w.heap.size _ _ _ rfl HE.out w.heap.size (some ad) l.length c _ rfl (bys_len _) (hs.below HB.out) bys_one (by simp) (by omega) (by simp; omega) ?_); intro v3 w3 hown3 hgr)
    go_ret
    have h3 : OwnB w3 w.heap.size v3 l := by
      have h := ownB_app (l := []) hown3
      exact h
    obtain ⟨A', c', rfl, _, _⟩ := own_rd h3
    exact ⟨A', c', rfl, h3, below_own HB.out HE.out (Nat.le_refl _) (by simp) hgr⟩
end Go.Proofs.Ytccmannmbldghaa
