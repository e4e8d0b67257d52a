
/- Walks: a pointer as bytes, the reference's. -/
import Derived.Test.YtgbghmgipnphkaaQ3
set_option maxRecDepth 10000
namespace Go.Proofs.Ytgbghmgipnphkaa
open Go.RowKit

theorem rnum4 (n : Nat) (hn : n < 18446744073709551616) (z : Int) (hz : z = n) (w : World) :
    Calls Try.prog 29 #[.int .u64 z, .int .i64 4] w fun e w' => ∃ v y, e = .returned (.tuple #[v, .bool y]) ∧ OwnB w' w.heap.size v (bytesF 4 n) ∧ Below w.heap.size w w' := by
  subst hz
  exact (rnumber_any 4 n w (by omega) hn).mono fun e w' ⟨v, h1, h2, h3⟩ => ⟨v, _, h1, h2, h3⟩
theorem rnum8 (n : Nat) (hn : n < 18446744073709551616) (z : Int) (hz : z = n) (w : World) :
    Calls Try.prog 29 #[.int .u64 z, .int .i64 8] w fun e w' => ∃ v y, e = .returned (.tuple #[v, .bool y]) ∧ OwnB w' w.heap.size v (bytesF 8 n) ∧ Below w.heap.size w w' := by
  subst hz
  exact (rnumber_any 8 n w (by omega) hn).mono fun e w' ⟨v, h1, h2, h3⟩ => ⟨v, _, h1, h2, h3⟩
theorem own_lt {w : World} {base : Nat} {v v' : Value} {l : List UInt8} (h : OwnB w base v l) (hb : ∀ k, v'.ownBlock = some k → k < base) : ∀ k, v.ownBlock = some k → v'.ownBlock ≠ some k := by
  intro k hk he
  have h1 := (World.ownsRow.lt h k hk).1
  have h2 := hb k he
  omega
theorem own_rd_at {w : World} {base e size n c : Nat} {A : Option Addr} {xs : List Value} (h : w.ownsRow base e size (.slice A n c) n xs) : Rd w w.heap.size A xs := by
  obtain ⟨A', c', he, hr, _⟩ := own_rd h
  injection he with h1 _ _
  subst h1
  exact hr
theorem ptr_bys (n b s : Nat) : bys (bytesF 4 n) ++ bys (bytesF 8 b) ++ bys (bytesF 4 s) = bys (ptrBytes n b s) := by
  simp [ptrBytes, bys_app]
theorem rbytes_yes {n b s : Nat} (hr : rightF n b s = true) (hn : n ≤ 1023) (hb : b ≤ 281474976710655) (hs : s < 4294967296) (w : World) :
    Calls Try.prog 21 #[ptv n b s] w fun e w' => ∃ A2 c2, e = .returned (.tuple #[.slice A2 16 c2, .int .i64 0]) ∧ Rd w' w'.heap.size A2 (bys (ptrBytes n b s)) ∧ 16 ≤ c2 ∧ Below w.heap.size w w' := by
  have right := rright_any n b s (by omega)
  rw [hr] at right
  have H := Lib.hid right
  have H1 := Lib.hid (rnum4 n (by omega))
  have H2 := Lib.hid (rnum8 b (by omega))
  have H3 := Lib.hid (rnum4 s (by omega))
  have hn' : (n : Int) ≤ 1023 := by omega
  have hb' : (b : Int) ≤ 281474976710655 := by omega
  have hs' : (s : Int) ≤ 4294967295 := by omega
  clear right hr hn hb hs
  go_enter Try.func21, Try.ntmps21
  go_wp2_with (go_at_call 28; refine (H.out _).mono ?_; rintro e w1 ⟨rfl, hb1⟩; obtain ⟨hc0, hc1, hc2⟩ := ptr_here hb1)
  have hb := (Below.refl w.heap.size w).trans ((((Below.refl w.heap.size w).alloc (by omega) _).trans (hb1.mono (by simp))))
  have hlt : w.heap.size < w1.heap.size := by have := hb1.size; simp at this; omega
  have HB := Lib.hid hb
  clear hb1 hb
  refine (H1.out _ rfl _).mono ?_
  rintro e w2 ⟨v1, y1, rfl, hv1, hb2⟩
  obtain ⟨g1, -⟩ := bcell hb2
  have hlt2 : w.heap.size < w2.heap.size := Nat.lt_of_lt_of_le hlt hb2.size
  have V1 := Lib.hid hv1
  have HB2 := Lib.hid hb2
  clear hv1 hb2
  go_wp2_with fail
  refine (H2.out _ rfl _).mono ?_
  rintro e w3 ⟨v2, y2, rfl, hv2, hb3⟩
  obtain ⟨g2, -⟩ := bcell hb3
  have hlt3 : w.heap.size < w3.heap.size := Nat.lt_of_lt_of_le hlt2 hb3.size
  have W1 := Lib.hid (own_far V1.out hb3)
  have V2 := Lib.hid hv2
  have HB3 := Lib.hid hb3
  clear hv2 hb3 V1
  go_wp2_with fail
  refine (H3.out _ rfl _).mono ?_
  rintro e w4 ⟨v3, y3, rfl, hv3, hb4⟩
  have X1 := Lib.hid (own_far W1.out hb4)
  have X2 := own_far V2.out hb4
  have V3 := Lib.hid hv3
  have hlt1 := Lib.hid (W1.out.lt)
  have hle : w.heap.size ≤ w4.heap.size := by have := hb4.size; omega
  have HB4 := Lib.hid hb4
  clear hv3 hb4 W1 V2
  obtain ⟨A2, c2, rfl, hr2, -⟩ := own_rd X2
  obtain ⟨A3, c3, rfl, -, -⟩ := own_rd V3.out
  clear X2
  rw [bytesF_len]
  rw [bytesF_len] at V3
  have Y1 : Hid (w4.ownsRow w.heap.size 5 1 v1 4 (bys (bytesF 4 n))) := by
    have := own_base X1.out (show w.heap.size ≤ w1.heap.size by omega)
    unfold OwnB at this
    rwa [bytesF_len] at this
  go_wp2_with (first
    | (at_builtin; refine app_all Try.underlying46 infoByte rfl rfl 33 34 rfl w.heap.size v1 4 _ rfl Y1.out _ A2 8 c2 _ rfl (by rw [bys_len, bytesF_len]) hr2 bys_one hle (by omega) (by omega) ?_; intro v4 w5 hown4 hgr; have hr3 := own_rd_at (own_apart V3.out hgr (own_lt V3.out fun k hk => (hlt1.out k hk).2)); have hle5 := Nat.le_trans hle hgr.size; have Y2 := Lib.hid hown4; clear hown4)
    | (at_builtin; refine app_all Try.underlying46 infoByte rfl rfl 35 36 rfl w.heap.size v4 12 _ rfl Y2.out _ A3 4 c3 _ rfl (by rw [bys_len, bytesF_len]) hr3 bys_one hle5 (by omega) (by omega) ?_; intro v5 w6 hown5 hgr2))
  have hb6 := below_own ((((HB.out.trans (HB2.out.mono (by omega))).trans (HB3.out.mono (by omega))).trans (HB4.out.mono (by omega)))) Y1.out (Nat.le_refl _) hle hgr
  have hb7 := below_own hb6 Y2.out (Nat.le_refl _) hle5 hgr2
  rw [ptr_bys] at hown5
  obtain ⟨A5, c5, rfl, hr5, hc5⟩ := own_rd hown5
  go_wp2_with fail
  go_ret2
  exact ⟨A5, c5, rfl, hr5, hc5, hb7⟩
end Go.Proofs.Ytgbghmgipnphkaa
