
/- Walks: the reference's Mix, List, Has, First; the program's Count, First. -/
import Derived.Test.YtklccgmhllpjkaaW4
set_option maxRecDepth 10000
namespace Go.Proofs.Ytklccgmhllpjkaa
open Go.RowKit

def mixF (how : Int) (S T : Int → Bool) (n : Int) : Bool := if how = 0 then S n || T n else if how = 1 then S n && !T n else S n && T n
def mixK (how : Int) (S T : Int → Bool) (k n : Int) : Bool := if n < k then mixF how S T n else S n

set_option maxHeartbeats 2000000 in
theorem mix_any (A A' : Option Addr) (c c' : Nat) (l m : List Sp) (how : Int) (w : World) (hs : Rd w w.heap.size A (spc l)) (hr : rightF 0 l = true) (hs' : Rd w w.heap.size A' (spc m)) (hr' : rightF 0 m = true)
    (hh : how = 0 ∨ how = 1 ∨ how = 2) :
    Calls Try.prog 33 #[.slice A l.length c, .slice A' m.length c', .int .i64 how] w fun e w' => ∃ v, e = .returned v ∧ OwnR w' w.heap.size v (canon (mixF how (memF l) (memF m))).reverse ∧ Below w.heap.size w w' := by
  have hz : ∀ w, Sem.run Try.prog (zeroValue 48) w = .ok (.agg (barr noB)) w := by unfold noB; rw [← falses_eq]; exact zeroArr
  have hb1 := bits_any A c l w hs hr
  have hb2 := fun W (hW : Below w.heap.size w W) => bits_any A' c' m W ((hs'.below hW).mono hW.size) hr'
  have H1 := Lib.hid hb1
  have H2 := Lib.hid hb2
  clear hb1 hb2 hs hs' hr hr'
  generalize memF l = S at *
  generalize memF m = T at *
  go_enter Try.func33, Try.ntmps33
  go_wp2_with fail
  refine H1.out.mono ?_
  rintro e w1 ⟨rfl, hb1⟩
  go_wp2_with ((with_reducible refine st_arr rfl _ _ rfl w1.heap.size noB S rfl rfl (Blk.new w1 _ _) ?_); intro w2 hbl2 hsz2 hbb2)
  have hb2 : Below w.heap.size w w2 := (hb1.alloc hb1.size _).trans (hbb2 _ hb1.size)
  refine (H2.out w2 hb2).mono ?_
  rintro e w3 ⟨rfl, hb3⟩
  go_wp2_with ((with_reducible refine st_arr rfl _ _ rfl w3.heap.size noB T rfl rfl (Blk.new w3 _ _) ?_); intro w4 hbl4 hsz4 hbb4)
  have hgx : w.heap.size ≤ w1.heap.size := hb1.size
  have hgy : w1.heap.size < w3.heap.size := by have := hb3.size; rw [hsz2] at this; simp at this; omega
  have hbx : Blk w4 w1.heap.size 48 (barr S) := ((hbl2.below hb3 (by rw [hsz2]; simp)).below ((Below.refl w3.heap.size _).alloc (Nat.le_refl _) _) hgy).below (hbb4 _ (Nat.le_refl _)) hgy
  have hb4 : Below w.heap.size w w4 := ((hb2.trans (hb3.mono hb2.size)).alloc (by omega) _).trans (hbb4 _ (by omega))
  generalize w1.heap.size = gx at *
  generalize w3.heap.size = gy at *
  clear H1 H2 hz hb1 hbl2 hsz2 hbb2 hb2 hb3 hsz4 hbb4
  go_loopw [9] (fun i wr => ∃ (k : Nat), k ≤ 4096 ∧ i = .int .i64 k ∧ Blk wr gx 48 (barr (mixK how S T k)) ∧ Blk wr gy 48 (barr T) ∧ Below w.heap.size w wr) (fun i _ => 4096 - (intOf i).toNat)
  case atStart =>
    refine ⟨0, by omega, rfl, ?_, hbl4, hb4⟩
    rw [barr_congr (S := mixK how S T (0 : Nat)) (T := S) (fun n h0 h1 => by unfold mixK; rw [if_neg (by omega)])]
    exact hbx
  case round =>
    clear hbx hbl4 hb4
    obtain ⟨k, hk, rfl, hbx, hby, hb⟩ := hrel
    by_cases hlt : k < 4096
    · have hc1 : wr.cell? ⟨gx, k, none⟩ = some (.bool (S k)) := (hbx.cell k).trans ((barr_at _ k hlt).trans (by unfold mixK; rw [if_neg (by omega)]))
      have hc2 : wr.cell? ⟨gy, k, none⟩ = some (.bool (T k)) := (hby.cell k).trans (barr_at _ k hlt)
      have hfz := hbx.frozen k
      have hset : ∀ b, mixF how S T k = b → (barr (mixK how S T k)).setIfInBounds k (.bool b) = barr (mixK how S T (k + 1 : Nat)) := fun b hbb =>
        barr_set k hlt (by unfold mixK; rw [if_pos (by omega)]; exact hbb) (fun n h0 h1 hn => by
          unfold mixK
          by_cases h : n < k
          · rw [if_pos h, if_pos (by omega)]
          · rw [if_neg h, if_neg (by omega)])
      have hmf : mixF how S T k = if how = 0 then S k || T k else if how = 1 then S k && !T k else S k && T k := rfl
      have HS := Lib.hid hset
      have hlt' : (k : Int) < 4096 := by omega
      have HK := Lib.hid (And.intro hk hlt); clear hk hlt
      clear hset
      generalize S k = x at hc1 hmf
      generalize T k = y at hc2 hmf
      have HM := Lib.hid hmf; clear hmf
      rcases hh with rfl | rfl | rfl <;> cases x <;> cases y
      all_goals
        go_wp2_with fail
        go_roundw
        case rel => exact ⟨k + 1, HK.out.2, by go_num, by rw [← HS.out _ HM.out]; exact hbx.set_ _ _, hby.far (by simp; omega) _, hb.setCell hgx _⟩
        case measure => simp [intOf]; have := HK.out; omega
    · obtain rfl : k = 4096 := by omega
      rw [barr_congr (S := mixK how S T (4096 : Nat)) (T := mixF how S T) (fun n h0 h1 => by unfold mixK; rw [if_pos (by omega)])] at hbx
      have hsz := hbx.lt
      go_wp2_with (first
        | ((with_reducible refine ld_arr rfl _ rfl gx (mixF how S T) rfl hbx ?_))
        | (go_at_call 30; refine (set_any (mixF how S T) _).mono ?_; rintro e w2 ⟨v2, rfl, ho2, hb2⟩))
      go_ret
      exact ⟨_, rfl, own_base ho2 (by omega), hb.trans (hb2.mono (by omega))⟩

/-- The numbers below k, rising. -/
def numsTo (S : Int → Bool) : Nat → List Int
  | 0 => []
  | k + 1 => if S k then numsTo S k ++ [(k : Int)] else numsTo S k
theorem numsTo_len (S : Int → Bool) : ∀ k, (numsTo S k).length ≤ k
  | 0 => by simp [numsTo]
  | k + 1 => by
    have := numsTo_len S k
    simp only [numsTo]
    split
    · simp; omega
    · omega
def OwnI (w : World) (base : Nat) (v : Value) (l : List Int) : Prop := w.ownsRow base 3 1 v l.length (ints l)
theorem ints_app (a b : List Int) : ints (a ++ b) = ints a ++ ints b := by simp [ints]
theorem ints_one {l : List Int} : ∀ u ∈ ints l, u.oneCell' = true := by
  intro u hu
  simp only [ints, List.mem_map] at hu
  obtain ⟨n, _, rfl⟩ := hu
  rfl
/-- append of one number that lies in the newest block. -/
theorem app_int {ops : Array Oper} {rest : List Oper} {o : Oper} {a : Act} {w : World} {Q : Exit → Act → World → Prop} (hgd : o.guard = none) (s x : Nat)
    (ho : o.op = .call { callee := .builtin .append, args := #[.tmp s, .tmp x], argTypes := #[49, 49] })
    (base : Nat) (v : Value) (l : List Int) (hs : a.eval (.tmp s) = v) (hown : OwnI w base v l) (n : Int)
    (hx : a.eval (.tmp x) = .slice (some ⟨w.heap.size, 0, none⟩) 1 1) (hbase : base ≤ w.heap.size) (hR : l.length ≤ 1048576)
    (h : ∀ v' w', OwnI w' base v' (l ++ [n]) → (w.alloc (.cells #[.int .i64 n] 3)).grownBy w' v.ownBlock → wpList Try.prog ops Q rest (a.put o.dst v') w') :
    wpList Try.prog ops Q (o :: rest) a (w.alloc (.cells #[.int .i64 n] 3)) := by
  obtain ⟨i0, hi0, hz0, hz1, hz2⟩ := info_parts infoInt
  refine wpList_append_own _ hgd (.tmp s) (.tmp x) _ ho base 3 i0 _ 1 8 Try.underlying49 hi0 hz0 hz1 hz2 rfl (by omega) v l.length (ints l) hs (World.ownsRow.alloc hown _)
    ⟨w.heap.size, 0, none⟩ 1 1 [.int .i64 n] hx rfl (cells_new w #[.int .i64 n] 3) (by simp [Value.oneCell']) (by simp only [maxLen]; omega) (by omega) (by simp; omega) ?_
  intro v' w' h1 h2 _
  refine h v' w' ?_ h2
  show w'.ownsRow base 3 1 v' (l ++ [n]).length (ints (l ++ [n]))
  rw [ints_app, List.length_append]
  exact h1

/-- The first span of at least so many. -/
def firstF (l : List Sp) (many : Int) : Option Sp := if many < 1 then none else l.find? fun p => decide (many ≤ p.2)
def firstV (l : List Sp) (many : Int) : Value := match firstF l many with
  | none => .tuple #[.agg #[.int .i64 0, .int .i64 0], .bool false]
  | some p => .tuple #[.agg #[.int .i64 p.1, .int .i64 many], .bool true]
theorem first_low {l : List Sp} {many : Int} (h : many < 1) : firstV l many = .tuple #[.agg #[.int .i64 0, .int .i64 0], .bool false] := by
  simp [firstV, firstF, h]
theorem first_miss {l : List Sp} {many : Int} (h : ∀ p ∈ l, p.2 < many) : firstV l many = .tuple #[.agg #[.int .i64 0, .int .i64 0], .bool false] := by
  by_cases hm : many < 1
  · exact first_low hm
  · have : l.find? (fun p => decide (many ≤ p.2)) = none := by
      rw [List.find?_eq_none]
      intro p hp
      have := h p hp
      simp; omega
    simp [firstV, firstF, hm, this]
theorem first_hit {l : List Sp} {many : Int} (hm : 1 ≤ many) {k : Nat} (hk : k < l.length) (h : ∀ p ∈ l.take k, p.2 < many) (hh : many ≤ l[k].2) : firstV l many = .tuple #[.agg #[.int .i64 l[k].1, .int .i64 many], .bool true] := by
  have : l.find? (fun p => decide (many ≤ p.2)) = some l[k] := by
    rw [List.find?_eq_some_iff_getElem]
    refine ⟨by simpa using hh, k, hk, rfl, fun j hj => ?_⟩
    have := h l[j] (by rw [List.mem_take_iff_getElem]; exact ⟨j, by omega, rfl⟩)
    simp; omega
  simp [firstV, firstF, show ¬ many < 1 by omega, this]
theorem take_lt {l : List Sp} {many : Int} {k : Nat} (hk : k < l.length) (h : ∀ p ∈ l.take k, p.2 < many) (hh : l[k].2 < many) : ∀ p ∈ l.take (k + 1), p.2 < many := by
  rw [List.take_succ_eq_append_getElem hk]
  intro p hp
  rcases List.mem_append.1 hp with hp | hp
  · exact h p hp
  · rw [List.mem_singleton] at hp; rw [hp]; exact hh

end Go.Proofs.Ytklccgmhllpjkaa
