
/- Walks: a number out of bytes and bytes out of a number, the reference's; bytes put behind others; appends. -/
import Derived.Test.YtgbghmgipnphkaaF1
set_option maxRecDepth 10000
namespace Go.Proofs.Ytgbghmgipnphkaa
open Go.RowKit

theorem val_step (l : List UInt8) (j : Nat) (hj : j < l.length) (h8 : l.length ≤ 8) (x : Nat) (hx : x = l[j].toNat) : IntKind.u64.wrap (IntKind.u64.wrap ((numF (l.drop (j + 1)) : Int) * 256) + x) = (numF (l.drop j) : Int) := by
  have h1 := numF_drop l j hj
  have h2 := numF_lt8 (l := l.drop j) (by rw [List.length_drop]; omega)
  rw [IntKind.wrap_u64, IntKind.wrap_u64, h1]
  rw [h1] at h2
  subst hx
  omega

set_option maxHeartbeats 400000 in
theorem value_any (A : Option Addr) (c : Nat) (l : List UInt8) (w : World) (hs : Rd w w.heap.size A (bys l)) (hl : l.length ≤ 8) :
    Calls Try.prog 31 #[.slice A l.length c] w fun e w' => e = .returned (.int .u64 (numF l : Int)) ∧ Below w.heap.size w w' := by
  go_enter Try.func31, Try.ntmps31
  go_wp2_with fail
  go_loopw [3, 4] (fun s i wr => ∃ (k : Nat) (z : Int), k ≤ l.length ∧ i = .int .i64 z ∧ z + 1 ≤ k ∧ k ≤ z + 1 ∧ s = .int .u64 (numF (l.drop k) : Int) ∧ Below w.heap.size w wr) (fun _ i _ => (intOf i + 1).toNat)
  case atStart => exact ⟨l.length, (l.length : Int) - 1, by omega, rfl, by omega, by omega, by rw [List.drop_length]; rfl, Below.refl _ _⟩
  case round =>
    obtain ⟨k, z, hk, rfl, hz1, hz2, rfl, hb⟩ := hrel
    rcases k with _ | j
    · obtain rfl : z = -1 := by omega
      go_wp2_with fail
      go_ret
      exact ⟨rfl, hb⟩
    · obtain rfl : z = (j : Int) := by omega
      obtain ⟨b, off, rfl, hbB, hc1⟩ := by_at hs j (by omega)
      obtain ⟨hc, hf⟩ := bcell hb
      have hst := val_step l j (by omega) hl _ rfl
      have HO := Lib.hid hst; clear hst
      have hbt := l[j].toNat_lt
      generalize l[j].toNat = x at *
      go_wp2_with fail
      go_roundw
      case rel => exact ⟨j, (j : Int) - 1, by omega, by go_num, by omega, by omega, by rw [← HO.out], hb⟩
      case measure => simp [intOf]

/-- append of one element of one cell that lies in the newest block. -/
theorem app_one {P : Program} {T E : TypeId} {z : Value} {bytes : Nat} (hT : P.underlying T = some (.slice E)) (hinfo : (P.info? E).map (fun i => (i.zero, i.size, i.bytes)) = some (some z, 1, bytes)) (hz1 : z.cells.size = 1)
    {ops : Array Oper} {rest : List Oper} {o : Oper} {a : Act} {w : World} {Q : Exit → Act → World → Prop} (hgd : o.guard = none) (s x : Nat)
    (ho : o.op = .call { callee := .builtin .append, args := #[.tmp s, .tmp x], argTypes := #[T, T] })
    (base : Nat) (v : Value) (n : Nat) (xs : List Value) (hs : a.eval (.tmp s) = v) (hown : w.ownsRow base E 1 v n xs) (u : Value) (hu : u.oneCell' = true)
    (hx : a.eval (.tmp x) = .slice (some ⟨w.heap.size, 0, none⟩) 1 1) (hbase : base ≤ w.heap.size) (hb0 : 0 < bytes) (hn : (n + 1) * bytes ≤ 140737488355328)
    (h : ∀ v' w', w'.ownsRow base E 1 v' (n + 1) (xs ++ [u]) → (w.alloc (.cells #[u] E)).grownBy w' v.ownBlock → wpList P ops Q rest (a.put o.dst v') w') :
    wpList P ops Q (o :: rest) a (w.alloc (.cells #[u] E)) := by
  obtain ⟨i0, hi0, hz0, hz2, hz3⟩ := info_parts hinfo
  have hn1 : n + 1 ≤ 140737488355328 := Nat.le_trans (Nat.le_mul_of_pos_right _ hb0) hn
  refine wpList_append_own _ hgd (.tmp s) (.tmp x) _ ho base E i0 _ 1 bytes hT hi0 hz0 hz2 hz3 hz1 (by omega) v n xs hs (World.ownsRow.alloc hown _)
    ⟨w.heap.size, 0, none⟩ 1 1 [u] hx rfl (cell_one_new w u E) (by simpa using hu) (by simp only [maxLen]; omega) hn (by simp; omega) ?_
  intro v' w' h1 h2 _
  exact h v' w' h1 h2

theorem rd_add {w : World} {B : Nat} {b off : Nat} {xs : List Value} (h : Rd w B (some ⟨b, off, none⟩) xs) : ∀ j u, xs[j]? = some u → w.cell? ((⟨b, off, none⟩ : Addr).add j) = some u := by
  intro j u hu
  have hn : 0 < xs.length := by
    have := (List.getElem?_eq_some_iff.1 hu).1
    omega
  obtain ⟨b', off', e, _, hc⟩ := h hn
  simp only [Option.some.injEq, Addr.mk.injEq, and_true] at e
  obtain ⟨rfl, rfl⟩ := e
  have e : (⟨b, off, none⟩ : Addr).add j = ⟨b, off + j, none⟩ := by unfold Addr.add; split <;> simp_all
  rw [e]
  exact hc j u hu

theorem run_app_none {P : Program} (w : World) (base : Nat) (t ty e : TypeId) (i : TypeInfo) (size : Nat) (ht : P.underlying t = some (.slice e)) (hi : P.info? e = some i)
    (v : Value) (n : Nat) (xs : List Value) (hown : w.ownsRow base e size v n xs) (A : Option Addr) (c : Nat) : (Builtin.append_ #[t, t] ty #[v, .slice A 0 c]).run P w = .ok v w := by
  rcases hown.2 with ⟨rfl, rfl⟩ | ⟨g, cap, cur, rfl, _, _, hnc, _⟩
  · rcases A with _ | A <;> simp [Builtin.append_, run_underlying ht, sizeOf, typeInfo, hi, Builtin.lenOf, Builtin.firstCells, loadCells, loadCellsFrom]
  · rcases A with _ | A <;> simp [Builtin.append_, run_underlying ht, sizeOf, typeInfo, hi, Builtin.lenOf, Builtin.firstCells, loadCells, loadCellsFrom, hnc, storeCells]

/-- append of all elements, of one cell each, of a slice that is read as a list. -/
theorem app_all {P : Program} {T E : TypeId} {z : Value} {bytes : Nat} (hT : P.underlying T = some (.slice E)) (hinfo : (P.info? E).map (fun i => (i.zero, i.size, i.bytes)) = some (some z, 1, bytes)) (hz1 : z.cells.size = 1)
    {ops : Array Oper} {rest : List Oper} {o : Oper} {a : Act} {w : World} {Q : Exit → Act → World → Prop} (hgd : o.guard = none) (s x : Nat)
    (ho : o.op = .call { callee := .builtin .append, args := #[.tmp s, .tmp x], argTypes := #[T, T] })
    (base : Nat) (v : Value) (n : Nat) (xs : List Value) (hs : a.eval (.tmp s) = v) (hown : w.ownsRow base E 1 v n xs) (B : Nat) (A : Option Addr) (m c : Nat) (news : List Value)
    (hx : a.eval (.tmp x) = .slice A m c) (hm : news.length = m) (hr : Rd w B A news) (h1 : ∀ u ∈ news, u.oneCell' = true) (hbase : base ≤ w.heap.size) (hb0 : 0 < bytes) (hn : (n + m) * bytes ≤ 140737488355328)
    (h : ∀ v' w', w'.ownsRow base E 1 v' (n + m) (xs ++ news) → w.grownBy w' v.ownBlock → wpList P ops Q rest (a.put o.dst v') w') :
    wpList P ops Q (o :: rest) a w := by
  obtain ⟨i0, hi0, hz0, hz2, hz3⟩ := info_parts hinfo
  have hn1 : n + m ≤ 140737488355328 := Nat.le_trans (Nat.le_mul_of_pos_right _ hb0) hn
  rcases Nat.eq_zero_or_pos m with h0 | h0
  · subst h0
    obtain rfl : news = [] := List.eq_nil_of_length_eq_zero hm
    refine wpList_plain hgd fun K hK => ?_
    have hrun := run_app_none (P := P) w base T o.type E i0 1 hT hi0 v n xs hown A c
    unfold Oper.wp execOp
    simp only [ho, resolve, invoke, builtin, Sem.run_bind, Sem.run_pure, Result.andThen_ok, List.map_toArray, List.map_cons, List.map_nil, hs, hx, hrun]
    refine hK _ _ (h v w (by simpa using hown) ⟨rfl, rfl, rfl, Nat.le_refl _, fun _ _ _ => rfl⟩)
  · obtain ⟨b, off, rfl, _, _⟩ := hr (by omega)
    refine wpList_append_own _ hgd (.tmp s) (.tmp x) _ ho base E i0 _ 1 bytes hT hi0 hz0 hz2 hz3 hz1 (by omega) v n xs hs hown
      ⟨b, off, none⟩ m c news hx (by omega) (rd_add hr) h1 (by simp only [maxLen]; omega) hn hbase ?_
    intro v' w' h1 h2 _
    exact h v' w' h1 h2

theorem infoByte : (Try.prog.info? 5).map (fun i => (i.zero, i.size, i.bytes)) = some (some (.int .u8 0), 1, 1) := by kernel_rfl
theorem infoUn : (Try.prog.info? 27).map (fun i => (i.zero, i.size, i.bytes)) = some (some (.int .u64 0), 1, 8) := by kernel_rfl
theorem infoInt : (Try.prog.info? 3).map (fun i => (i.zero, i.size, i.bytes)) = some (some (.int .i64 0), 1, 8) := by kernel_rfl
theorem infoText : (Try.prog.info? 46).map (fun i => (i.zero, i.size, i.bytes)) = some (some (.slice none 0 0), 1, 24) := by kernel_rfl

/-- A slice of bytes of the call's own. -/
def OwnB (w : World) (base : Nat) (v : Value) (l : List UInt8) : Prop := w.ownsRow base 5 1 v l.length (bys l)
def OwnU (w : World) (base : Nat) (v : Value) (l : List Nat) : Prop := w.ownsRow base 27 1 v l.length (uns l)
theorem ownB_snoc {w : World} {base : Nat} {v : Value} {l : List UInt8} {m : Nat} {b : UInt8} {x : Int} (hm : m = l.length + 1) (hx : x = (b.toNat : Int)) (h : w.ownsRow base 5 1 v m (bys l ++ [.int .u8 x])) : OwnB w base v (l ++ [b]) := by
  subst hm hx
  unfold OwnB
  rw [List.length_append, bys_app]
  exact h
theorem ownB_app {w : World} {base : Nat} {v : Value} {l m : List UInt8} (h : w.ownsRow base 5 1 v (l.length + m.length) (bys l ++ bys m)) : OwnB w base v (l ++ m) := by
  unfold OwnB
  rw [List.length_append, bys_app]
  exact h
theorem ownU_snoc {w : World} {base : Nat} {v : Value} {l : List Nat} {n : Nat} (h : w.ownsRow base 27 1 v (l.length + 1) (uns l ++ [.int .u64 (n : Int)])) : OwnU w base v (l ++ [n]) := by
  unfold OwnU
  rw [List.length_append, uns_app]
  exact h

theorem byte_shr (n k : Nat) : (n : Int) / 2 ^ (8 * k) % 256 = ((UInt8.ofNat (n / 256 ^ k)).toNat : Int) := by
  rw [UInt8.toNat_ofNat', ← pow8]
  simp

set_option maxHeartbeats 400000 in
theorem fadd_any (base : Nat) (v : Value) (l : List UInt8) (x n : Nat) (w : World) (hown : OwnB w base v l) (hbase : base ≤ w.heap.size) (hx : x ≤ 8) (hl : l.length + x ≤ 140737488355328) (hn : n < 18446744073709551616) :
    Calls Try.prog 33 #[v, .int .i64 x, .int .u64 n] w fun e w' => ∃ v', e = .returned v' ∧ OwnB w' base v' (l ++ bytesF x n) ∧ Below base w w' := by
  have HN := Lib.hid hn; clear hn
  have HO0 := Lib.hid hown; clear hown
  go_enter Try.func33, Try.ntmps33
  go_wp2_with fail
  go_loopw [0, 9] (fun s i wr => ∃ (k : Nat), k ≤ x ∧ i = .int .i64 k ∧ OwnB wr base s (l ++ bytesF k n) ∧ Below base w wr) (fun _ i _ => x - (intOf i).toNat)
  case atStart => exact ⟨0, by omega, rfl, by rw [bytesF, List.append_nil]; exact HO0.out, Below.refl _ _⟩
  case round =>
    obtain ⟨k, hk, rfl, hown, hb⟩ := hrel
    have hsz := hb.size
    have HO := Lib.hid hown; clear hown
    by_cases hlt : k < x
    · have HL : Hid ((l ++ bytesF k n).length = l.length + k) := by show _ = _; rw [List.length_append, bytesF_len]
      have HB : Hid (l ++ bytesF k n ++ [UInt8.ofNat (n / 256 ^ k)] = l ++ bytesF (k + 1) n) := by show _ = _; rw [bytesF_snoc, List.append_assoc]
      go_wp2_with (at_builtin; go_loud (refine app_one Try.underlying46 infoByte rfl rfl 12 18 rfl base u0 _ _ rfl HO.out _ rfl rfl (by omega) (by omega) (by rw [HL.out]; omega) ?_); intro v' w' hown' hgr)
      go_roundw
      case rel => exact ⟨k + 1, by omega, by go_num, by rw [← HB.out]; exact ownB_snoc rfl (byte_shr n k) hown', below_own (hb.alloc (by omega) _) (World.ownsRow.alloc HO.out _) (Nat.le_refl _) (by simp; omega) hgr⟩
      case measure => simp [intOf]; omega
    · obtain rfl : k = x := by omega
      go_wp2_with fail
      go_ret
      exact ⟨_, rfl, HO.out, hb⟩
end Go.Proofs.Ytgbghmgipnphkaa
