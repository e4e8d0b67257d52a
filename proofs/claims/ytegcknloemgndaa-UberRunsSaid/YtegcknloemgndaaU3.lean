/- An uber's bytes: plain mathematics; copies into a sector; the widths. -/
import Derived.Test.YtegcknloemgndaaU2
import Derived.Test.YtegcknloemgndaaS1
import Derived.Test.YtegcknloemgndaaQ8
import Derived.Lib.LazyBuf
import Derived.Laws.IdiomCopy
set_option maxRecDepth 10000
namespace Go.Proofs.Ytegcknloemgndaa
open Go.RowKit

def magicL : List UInt8 := [65, 81, 70, 82]
/-- What a sector has ahead of the zeros. -/
def frontU (u : Ub) : List UInt8 := magicL ++ (bytesF 8 u.txg ++ (bytesF 8 u.stamp ++ (ptrBytes u.at_.toNat u.birth u.sum ++ (bytesF 4 u.len.toNat ++ bytesF 4 u.secs.toNat))))
theorem front_len (u : Ub) : (frontU u).length = 44 := by simp [frontU, magicL, bytesF_len, ptrBytes_len]
def headU (u : Ub) : List UInt8 := frontU u ++ List.replicate 80 0
theorem head_len (u : Ub) : (headU u).length = 124 := by simp [headU, front_len]
theorem moreU_lt (l : List UInt8) : moreF 0 l < 4294967296 := by unfold moreF notF; omega
def secU (u : Ub) : Sec := ⟨headU u ++ bytesF 4 (moreF 0 (headU u)), by simp [head_len, bytesF_len]⟩
def bytesS (u : Ub) : Sec := if rightU u then secU u else zsec
def bytesC (u : Ub) : Int := if rightU u then 0 else 61
theorem bytesS_t {u : Ub} (h : rightU u = true) : bytesS u = secU u := if_pos h
theorem bytesC_t {u : Ub} (h : rightU u = true) : bytesC u = 0 := if_pos h
theorem bytesS_f {u : Ub} (h : rightU u = false) : bytesS u = zsec := if_neg (by simp [h])
theorem bytesC_f {u : Ub} (h : rightU u = false) : bytesC u = 61 := if_neg (by simp [h])

/-- A list written over from a place on. -/
def spl (L : List UInt8) (k : Nat) (l : List UInt8) : List UInt8 := L.take k ++ (l ++ L.drop (k + l.length))
theorem spl_len {L l : List UInt8} {k : Nat} (h : k + l.length ≤ L.length) : (spl L k l).length = L.length := by
  simp only [spl, List.length_append, List.length_take, List.length_drop]
  omega
theorem spl_end {P l : List UInt8} {k m j : Nat} (hk : P.length = k) (hj : m = l.length + j) : spl (P ++ List.replicate m 0) k l = (P ++ l) ++ List.replicate j 0 := by
  subst hk hj
  unfold spl
  rw [List.take_left' rfl, ← List.drop_drop, List.drop_left' rfl, List.drop_replicate, Nat.add_sub_cancel_left, List.append_assoc]
theorem spl_at {L l : List UInt8} {k : Nat} (h : k + l.length ≤ L.length) (i : Nat) : (spl L k l)[i]? = if k ≤ i ∧ i < k + l.length then l[i - k]? else L[i]? := by
  unfold spl
  by_cases h1 : i < k
  · rw [if_neg (by omega), List.getElem?_append_left (by rw [List.length_take]; omega), List.getElem?_take, if_pos h1]
  · rw [List.getElem?_append_right (by rw [List.length_take]; omega), List.length_take, Nat.min_eq_left (by omega)]
    by_cases h2 : i < k + l.length
    · rw [if_pos (by omega), List.getElem?_append_left (by omega)]
    · rw [if_neg (by omega), List.getElem?_append_right (by omega), List.getElem?_drop]
      congr 1
      omega
theorem bys_get (l : List UInt8) (i : Nat) : (bys l)[i]? = l[i]?.map fun b : UInt8 => .int .u8 (b.toNat : Int) := by simp [bys]
theorem Blk.spl {w : World} {g : Nat} {t : TypeId} {L : List UInt8} (h : Blk w g t (bys L).toArray) (k : Nat) (l : List UInt8) (hk : k + l.length ≤ L.length) : Blk (w.setCells g k (bys l)) g t (bys (spl L k l)).toArray :=
  h.setTo _ _ (by rw [bys_len, List.size_toArray, bys_len]; exact hk) fun i => by
    rw [List.getElem?_toArray, List.getElem?_toArray, bys_len, bys_get, bys_get, bys_get, spl_at hk]
    split <;> rfl
theorem infoB1 : (Try.prog.info? 5).map (·.size) = some 1 := by kernel_rfl
/-- copy of bytes into a block of bytes. -/
theorem cp_bys {ops : Array Oper} {rest : List Oper} {o : Oper} {a : Act} {w : World} {Q : Exit → Act → World → Prop} (hgd : o.guard = none) (x y : Operand)
    (ho : o.op = .call { callee := .builtin .copy, args := #[x, y], argTypes := #[76, 76] }) (g k m c n c' B : Nat) (A : Option Addr) (t : TypeId) (L l L' : List UInt8) (hL : spl L k l = L')
    (hx : a.eval x = .slice (some ⟨g, k, none⟩) m c) (hy : a.eval y = .slice A n c') (hB : Blk w g t (bys L).toArray) (hr : Rd w B A (bys l)) (hn : l.length = n) (h0 : 0 < n) (hnm : n ≤ m) (hk : k + n ≤ L.length)
    (h : ∀ w', Hid (Blk w' g t (bys L').toArray ∧ Chg w w' (· = g)) → wpList Try.prog ops Q rest (a.put o.dst (goInt n)) w') : wpList Try.prog ops Q (o :: rest) a w := by
  subst hn hL
  obtain ⟨b, off, rfl, _, hc⟩ := hr (by rw [bys_len]; exact h0)
  have ht := hB.there k l.length (by rw [List.size_toArray, bys_len]; exact hk)
  have hrun := run_copy_cells (P := Try.prog) w 76 76 o.type 5 g k m c ⟨b, off, none⟩ l.length c' (bys l) Try.underlying76 infoB1 (by rw [bys_len]; exact (Nat.min_eq_left hnm).symm)
    (fun j v hv => by rw [Addr.add_mid]; exact hc j v hv) (fun j hj => (ht j (by rwa [bys_len] at hj)).1) (fun j hj => (ht j (by rwa [bys_len] at hj)).2) bys_one
  rw [bys_len] at hrun
  refine wpList_plain hgd fun _ hK => ?_
  unfold Oper.wp execOp
  simp only [ho, resolve, invoke, builtin, Sem.run_bind, Sem.run_pure, Result.andThen_ok, List.map_toArray, List.map_cons, List.map_nil, hx, hy, hrun]
  exact hK _ _ (h _ ⟨hB.spl k l hk, Chg.setCells (O := (· = g)) (.inl rfl) _ _ (Chg.refl _ _)⟩)
/-- copy of the word into a block of bytes. -/
theorem cp_magic {ops : Array Oper} {rest : List Oper} {o : Oper} {a : Act} {w : World} {Q : Exit → Act → World → Prop} (hgd : o.guard = none) (x y : Operand)
    (ho : o.op = .call { callee := .builtin .copy, args := #[x, y], argTypes := #[76, 9] }) (g m c : Nat) (t : TypeId) (L L' : List UInt8) (hL : spl L 0 magicL = L')
    (hx : a.eval x = .slice (some ⟨g, 0, none⟩) m c) (hy : a.eval y = .string ⟨#[65, 81, 70, 82]⟩) (hB : Blk w g t (bys L).toArray) (hnm : 4 ≤ m) (hk : 4 ≤ L.length)
    (h : ∀ w', Hid (Blk w' g t (bys L').toArray ∧ Chg w w' (· = g)) → wpList Try.prog ops Q rest (a.put o.dst (goInt 4)) w') : wpList Try.prog ops Q (o :: rest) a w := by
  subst hL
  have ht := hB.there 0 4 (by rw [List.size_toArray, bys_len]; omega)
  have hz : ∀ w, (Go.sizeOf 5).run Try.prog w = .ok 1 w := Try.sizeOf5
  have hrun := run_copy_string (P := Try.prog) w 76 9 o.type 5 g 0 m c ⟨#[65, 81, 70, 82]⟩ Try.underlying76 hz hnm (fun j hj => (ht j hj).1) (fun j hj => (ht j hj).2)
  have e1 : (ByteArray.mk #[65, 81, 70, 82]).size = 4 := rfl
  have e2 : (ByteArray.mk #[65, 81, 70, 82]).data.toList.map (fun x => Value.int .u8 (x.toNat : Int)) = bys magicL := rfl
  rw [e1, e2] at hrun
  refine wpList_plain hgd fun _ hK => ?_
  unfold Oper.wp execOp
  simp only [ho, resolve, invoke, builtin, Sem.run_bind, Sem.run_pure, Result.andThen_ok, List.map_toArray, List.map_cons, List.map_nil, hx, hy, hrun]
  exact hK _ _ (h _ ⟨hB.spl 0 magicL (by simpa [magicL] using hk), Chg.setCells (O := (· = g)) (.inl rfl) _ _ (Chg.refl _ _)⟩)

/-! ### The widths -/
theorem stw_any (w : World) : Calls Try.prog 35 #[] w fun e w' => e = .returned (.slice (some ⟨w.heap.size, 0, none⟩) 2 2) ∧ w' = w.alloc (.cells #[.int .i64 8, .int .i64 8] 3) := by
  go_enter Try.func35, Try.ntmps35
  go_wp2_with fail
  go_ret
  exact ⟨rfl, rfl⟩
theorem szw_any (w : World) : Calls Try.prog 37 #[] w fun e w' => e = .returned (.slice (some ⟨w.heap.size, 0, none⟩) 2 2) ∧ w' = w.alloc (.cells #[.int .i64 4, .int .i64 4] 3) := by
  go_enter Try.func37, Try.ntmps37
  go_wp2_with fail
  go_ret
  exact ⟨rfl, rfl⟩
theorem put2 {k : Nat} {a b : Nat} (hk : 1 ≤ k ∧ k ≤ 8) (ha : a < 256 ^ k) (hb : b < 256 ^ k) : putF [(k : Int), (k : Int)] [a, b] = some (bytesF k a ++ bytesF k b) := by
  simp only [putF, Int.toNat_natCast]
  rw [if_pos ⟨by omega, by omega, ha⟩, if_pos ⟨by omega, by omega, hb⟩]
  simp
theorem put1 {k : Nat} {a : Nat} (hk : 1 ≤ k ∧ k ≤ 8) (ha : a < 256 ^ k) : putF [(k : Int)] [a] = some (bytesF k a) := by
  simp only [putF, Int.toNat_natCast]
  rw [if_pos ⟨by omega, by omega, ha⟩]
  simp
/-- field.Put of what has bytes. -/
theorem put_ok {ws : List Int} {ns : List Nat} {b : List UInt8} {n m k : Nat} (hp : putF ws ns = some b) (hk : b.length = k) (hn : ws.length = n) (hm : ns.length = m) (hN : ∀ x ∈ ns, x < 18446744073709551616) (hl : ws.length ≤ 100)
    (A A' : Option Addr) (c c' : Nat) (w : World) (h1 : Rd w w.heap.size A (wds ws)) (h2 : Rd w w.heap.size A' (uns ns)) :
    Calls Try.prog 34 #[.slice A n c, .slice A' m c'] w fun e w' => ∃ A2 c2, e = .returned (.tuple #[.slice A2 k c2, .int .i64 0]) ∧ Rd w' w'.heap.size A2 (bys b) ∧ k ≤ c2 ∧ Below w.heap.size w w' := by
  subst hn hm hk
  refine (put_any A A' c c' ws ns w h1 h2 hN (by omega)).mono ?_
  rintro e w' ⟨A2, c2, he, h3, h4, h5⟩
  rw [hp] at he h3 h4
  exact ⟨A2, c2, he, h3, h4, h5⟩
theorem get_ok {ws : List Int} {ns : List Nat} {b : List UInt8} {n m k : Nat} (hp : getF ws b = some ns) (hk : ns.length = k) (hn : ws.length = n) (hm : b.length = m) (hl : ws.length ≤ 100)
    (A A' : Option Addr) (c c' : Nat) (hc : m ≤ c') (w : World) (h1 : Rd w w.heap.size A (wds ws)) (h2 : Rd w w.heap.size A' (bys b)) :
    Calls Try.prog 66 #[.slice A n c, .slice A' m c'] w fun e w' => ∃ A2 c2, e = .returned (.tuple #[.slice A2 k c2, .int .i64 0]) ∧ Rd w' w'.heap.size A2 (uns ns) ∧ Below w.heap.size w w' := by
  subst hn hm hk
  refine (get_any A A' c c' ws b w h1 h2 hc (by omega)).mono ?_
  rintro e w' ⟨A2, c2, he, h3, _, h5⟩
  rw [hp] at he h3
  exact ⟨A2, c2, he, h3, h5⟩
theorem get2 {k : Nat} {b : List UInt8} (hk : 1 ≤ k ∧ k ≤ 8) (hb : b.length = k + k) : getF [(k : Int), (k : Int)] b = some [numF (b.take k), numF (b.drop k)] := by
  simp only [getF, Int.toNat_natCast]
  rw [if_pos ⟨by omega, by omega, by omega⟩, if_pos ⟨by omega, by omega, by rw [List.length_drop]; omega⟩]
  have h1 : (b.drop k).drop k = [] := by rw [List.drop_drop]; exact List.drop_of_length_le (by omega)
  have h2 : (b.drop k).take k = b.drop k := List.take_of_length_le (by rw [List.length_drop]; omega)
  rw [h2, if_pos h1]
  rfl
theorem Blk.rdB {w : World} {g : Nat} {t : TypeId} {L : List UInt8} (h : Blk w g t (bys L).toArray) (k n : Nat) : Rd w w.heap.size (some ⟨g, k, none⟩) (bys ((L.drop k).take n)) := fun _ =>
  ⟨g, k, rfl, h.lt, fun j v hv => by
    rw [h.cell, List.getElem?_toArray]
    rw [bys_get] at hv ⊢
    have hj : j < ((L.drop k).take n).length := by
      obtain ⟨x, hx, _⟩ := Option.map_eq_some_iff.1 hv
      exact (List.getElem?_eq_some_iff.1 hx).1
    rw [List.length_take, List.length_drop] at hj
    rw [List.getElem?_take, if_pos (by omega), List.getElem?_drop] at hv
    exact hv⟩
theorem rd_a (w : World) (cs : Array Value) (t : TypeId) (o : Obj) : Rd ((w.alloc (.cells cs t)).alloc o) ((w.alloc (.cells cs t)).alloc o).heap.size (some ⟨w.heap.size, 0, none⟩) cs.toList :=
  ((rd_new w cs t).below (((Below.refl _ _).alloc (Nat.le_refl _) o))).mono (by simp)
theorem rd_b (w : World) (cs : Array Value) (t : TypeId) (o : Obj) : Rd ((w.alloc o).alloc (.cells cs t)) ((w.alloc o).alloc (.cells cs t)).heap.size (some ⟨w.heap.size + 1, 0, none⟩) cs.toList := by
  have h := rd_new (w.alloc o) cs t
  simpa using h
theorem spl_magic : spl (List.replicate 128 0) 0 magicL = magicL ++ List.replicate 124 0 := rfl
theorem chg_below {w w' : World} {g B : Nat} (h : Chg w w' (· = g)) (hg : B ≤ g) (hB : B ≤ w.heap.size) : Below B w w' := h.below (fun k hk => by omega) hB
end Go.Proofs.Ytegcknloemgndaa
