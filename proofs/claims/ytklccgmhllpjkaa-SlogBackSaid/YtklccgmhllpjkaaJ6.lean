/- The reference's Read. -/
import Derived.Test.YtklccgmhllpjkaaJ5
set_option maxRecDepth 10000
namespace Go.Proofs.Ytklccgmhllpjkaa
open Go.RowKit

set_option maxHeartbeats 400000 in
theorem value_same (A : Option Addr) (c B : Nat) (l : List UInt8) (w : World) (hs : Rd w B A (bys l)) (hl : l.length ≤ 8) :
    Calls Try.prog 38 #[.slice A l.length c] w fun e w' => e = .returned (.int .u64 (numF l : Int)) ∧ w' = w := by
  go_enter Try.func38, Try.ntmps38
  go_wp2_with fail
  go_loop [3, 4] (fun s i => ∃ (k : Nat) (z : Int), k ≤ l.length ∧ i = .int .i64 z ∧ z + 1 ≤ k ∧ k ≤ z + 1 ∧ s = .int .u64 (numF (l.drop k) : Int)) (fun _ i => (intOf i + 1).toNat)
  case atStart => exact ⟨l.length, (l.length : Int) - 1, by omega, rfl, by omega, by omega, by rw [List.drop_length]; rfl⟩
  case round =>
    obtain ⟨k, z, hk, rfl, hz1, hz2, rfl⟩ := hrel
    rcases k with _ | j
    · obtain rfl : z = -1 := by omega
      go_wp2_with fail
      go_ret
      exact ⟨rfl, rfl⟩
    · obtain rfl : z = (j : Int) := by omega
      obtain ⟨b, off, rfl, hbB, hc1⟩ := by_at hs j (by omega)
      have hst := val_step l j (by omega) hl _ rfl
      have HO := Lib.hid hst; clear hst
      have hbt := l[j].toNat_lt
      generalize l[j].toNat = x at *
      go_wp2_with fail
      go_round
      case rel => exact ⟨j, (j : Int) - 1, by omega, by go_num, by omega, by omega, by rw [← HO.out]⟩
      case measure => simp [intOf]
/-- The number of two bytes. -/
def twoN (l : List UInt8) (p : Nat) : Nat := numF ((l.drop p).take 2)
theorem twoN_lt (l : List UInt8) (p : Nat) : twoN l p < 65536 := by
  have h := numF_lt ((l.drop p).take 2)
  have h2 : ((l.drop p).take 2).length ≤ 2 := by rw [List.length_take]; omega
  have h3 : 256 ^ ((l.drop p).take 2).length ≤ 256 ^ 2 := Nat.pow_le_pow_right (by omega) h2
  unfold twoN
  omega
theorem val_two {w : World} {B g off : Nat} {l : List UInt8} (hs : Rd w B (some ⟨g, off, none⟩) (bys l)) (p : Nat) (hp : p + 2 ≤ l.length) : ∀ c W, Below B w W →
    Calls Try.prog 38 #[.slice (some ⟨g, off + p, none⟩) 2 c] W fun e w' => e = .returned (.int .u64 (twoN l p : Int)) ∧ w' = W := by
  intro c W hb
  have := value_same (some ⟨g, off + p, none⟩) c B ((l.drop p).take 2) W (by rw [← bys_take, ← bys_drop]; exact ((hs.below hb).drop).take 2) (by rw [List.length_take]; omega)
  rwa [List.length_take, List.length_drop, Nat.min_eq_left (by omega)] at this
def kindN (l : List UInt8) (p : Nat) : Nat := (l.getD p 0).toNat
def moveAt (l : List UInt8) (p : Nat) : Mv := ⟨kindN l p == 1, twoN l (p + 1), twoN l (p + 3)⟩
def okAt (l : List UInt8) (p : Nat) : Bool := decide (kindN l p ≤ 1) && rightM (moveAt l p)
def movesOf (l : List UInt8) (m : Nat) : List Mv := (List.range m).map fun k => moveAt l (5 * k)
def readM (l : List UInt8) : Option (List Mv) :=
  if l.length % 5 = 0 ∧ l.length ≤ 20480 ∧ (List.range (l.length / 5)).all (fun k => okAt l (5 * k)) = true then some (movesOf l (l.length / 5)) else none
theorem movesOf_len (l : List UInt8) (m : Nat) : (movesOf l m).length = m := by simp [movesOf]
theorem movesOf_succ (l : List UInt8) (m : Nat) : movesOf l (m + 1) = movesOf l m ++ [moveAt l (5 * m)] := by simp [movesOf, List.range_succ]
theorem ok_succ {l : List UInt8} {k : Nat} (h : (List.range k).all (fun k => okAt l (5 * k)) = true) (hk : okAt l (5 * k) = true) : (List.range (k + 1)).all (fun k => okAt l (5 * k)) = true := by
  rw [List.range_succ, List.all_append, h]
  simp [hk]
theorem readM_bad {l : List UInt8} {k : Nat} (hk : k < l.length / 5) (h : okAt l (5 * k) = false) : readM l = none := by
  refine if_neg fun hh => ?_
  have := List.all_eq_true.1 hh.2.2 k (List.mem_range.2 hk)
  rw [h] at this
  cases this
/-- Moves, or none, and an error's number. -/
def PostM (o : Option (List Mv)) (w : World) (e : Ending) (w' : World) : Prop :=
  ∃ A c, e = .returned (.tuple #[.slice A (o.getD []).length c, .int .i64 (code8 o)]) ∧ Rd w' w'.heap.size A (mvs (o.getD [])) ∧ (o.getD []).length ≤ c ∧ Below w.heap.size w w'
theorem postM_none {w w' : World} {e : Ending} (he : e = .returned (.tuple #[.slice none 0 0, .int .i64 81])) (hb : Below w.heap.size w w') : PostM none w e w' := ⟨none, 0, he, Rd.nil, Nat.le_refl _, hb⟩
theorem MInv.post {w w' : World} {v : Value} {l : List Mv} {e : Ending} (h : MInv w w' w.heap.size v l) (he : e = .returned (.tuple #[v, .int .i64 0])) : PostM (some l) w e w' := by
  obtain ⟨A, c, rfl, h1, h2⟩ := own_rd h.own
  exact ⟨A, c, he, h1, h2, h.below⟩
theorem wrapI {n : Nat} (h : n < 65536) : IntKind.i64.wrap (n : Int) = n := by
  simp [IntKind.wrap, IntKind.signed, IntKind.bits]; omega
theorem kind_at {w : World} {B : Nat} {A : Option Addr} {l : List UInt8} (hs : Rd w B A (bys l)) (p : Nat) (hp : p < l.length) : ∃ b off, A = some ⟨b, off, none⟩ ∧ b < B ∧ w.cell? ⟨b, off + p, none⟩ = some (.int .u8 (kindN l p : Int)) := by
  obtain ⟨b, off, e, h1, h2⟩ := by_at hs p hp
  refine ⟨b, off, e, h1, ?_⟩
  rw [h2]
  unfold kindN
  rw [List.getD_eq_getElem?_getD, List.getElem?_eq_getElem hp]
  rfl
theorem wrap_add (p k : Nat) (h : p + k < 65536) : IntKind.i64.wrap ((p : Int) + (k : Int)) = ((p + k : Nat) : Int) := by
  rw [← Int.natCast_add]
  exact wrapI h
theorem below_al (w : World) (o : Obj) : Below w.heap.size w (w.alloc o) := (Below.refl _ _).alloc (Nat.le_refl _) _
theorem bit_eq (x : Nat) : ((x : Int) == 1) = (x == 1) := by
  by_cases h : x = 1
  · subst h; rfl
  · rw [show (x == 1) = false from beq_eq_false_iff_ne.2 h]; exact beq_eq_false_iff_ne.2 (by omega)
set_option maxHeartbeats 4000000 in
theorem jread_any (A : Option Addr) (c : Nat) (l : List UInt8) (w : World) (hs : Rd w w.heap.size A (bys l)) (hc : l.length ≤ c) (hl : l.length ≤ 4503599627370496) :
    Calls Try.prog 21 #[.slice A l.length c] w (PostM (readM l) w) := by
  by_cases h5 : l.length % 5 = 0
  · by_cases h20 : l.length ≤ 20480
    · have h5i : ((l.length : Int) % 5 != 0) = false := by rw [bne_eq_false_iff_eq]; omega
      have h20i : (l.length : Int) ≤ 20480 := by omega
      have HS := Lib.hid hs
      have HN := Lib.hid (nil_MInv w)
      have H5 := Lib.hid h5
      have H20 := Lib.hid h20
      have hci : (l.length : Int) ≤ c := by omega
      clear hs hl h5 h20 hc
      go_enter Try.func21, Try.ntmps21
      go_wp2_with fail
      generalize hbase : w.heap.size = base at *
      have HB := Lib.hid hbase
      clear hbase
      generalize (Value.slice (some ⟨base, 0, none⟩) 0 0) = v0 at *
      go_loopw [5, 4] (fun i v wr => ∃ (k p : Nat), p = 5 * k ∧ p ≤ l.length ∧ i = .int .i64 p ∧ (List.range k).all (fun k => okAt l (5 * k)) = true ∧ MInv w wr base v (movesOf l k)) (fun i _ _ => l.length - (intOf i).toNat)
      case atStart => exact ⟨0, 0, rfl, Nat.zero_le _, rfl, rfl, HN.out⟩
      case round =>
        clear HN
        obtain ⟨k, p, hp, hk, rfl, hA, hI⟩ := hrel
        have HI := Lib.hid hI
        have HA := Lib.hid hA
        have HP := Lib.hid hp
        clear hI hA hp
        by_cases hlt : p < l.length
        · have hp5 : p + 5 ≤ l.length := by have := HP.out; have := H5.out; omega
          have hki : (p : Int) < l.length := by omega
          obtain ⟨g, off, rfl, hg, hcell0⟩ := kind_at HS.out p hlt
          have hcell : wr.cell? ⟨g, off + p, none⟩ = some (.int .u8 (kindN l p : Int)) := (HI.out.below.cell (p := ⟨g, off + p, none⟩) hg).trans hcell0
          have V1 := Lib.hid (fun cc W (hW : Below wr.heap.size wr W) => val_two HS.out (p + 1) (by omega) cc W (HI.out.below.trans (hW.mono HI.out.le)))
          have V2 := Lib.hid (fun cc W (hW : Below wr.heap.size wr W) => val_two HS.out (p + 3) (by omega) cc W (HI.out.below.trans (hW.mono HI.out.le)))
          have W1 := Lib.hid (wrapI (twoN_lt l (p + 1)))
          have W2 := Lib.hid (wrapI (twoN_lt l (p + 3)))
          have hm : moveAt l p = ⟨kindN l p == 1, twoN l (p + 1), twoN l (p + 3)⟩ := rfl
          have hok : okAt l p = (decide (kindN l p ≤ 1) && rightM (moveAt l p)) := rfl
          rw [hm] at hok
          have HM := Lib.hid hm
          have HOK := Lib.hid hok
          have HBAD : Hid (okAt l p = false → readM l = none) := (by rw [HP.out]; exact readM_bad (by have := HP.out; omega))
          have HGO : Hid (okAt l p = true → (List.range (k + 1)).all (fun k => okAt l (5 * k)) = true) := (by rw [HP.out]; exact ok_succ HA.out)
          have HSU : Hid (movesOf l (k + 1) = movesOf l k ++ [moveAt l p]) := (by rw [HP.out]; exact movesOf_succ l k)
          have hj := jright_any (moveAt l p) (by rw [hm]; have := twoN_lt l (p + 1); have := twoN_lt l (p + 3); unfold Mv.ok I64; simp only; omega)
          rw [hm] at hj
          have HJ := Lib.hid hj
          obtain ⟨q1, e1⟩ : ∃ q1, q1 = p + 1 := ⟨_, rfl⟩
          obtain ⟨q3, e3⟩ : ∃ q3, q3 = p + 3 := ⟨_, rfl⟩
          obtain ⟨q5, e5⟩ : ∃ q5, q5 = p + 5 := ⟨_, rfl⟩
          have hw1 : IntKind.i64.wrap ((p : Int) + 1) = (q1 : Int) := by rw [e1]; exact wrap_add p 1 (by omega)
          have hw3 : IntKind.i64.wrap ((p : Int) + 3) = (q3 : Int) := by rw [e3]; exact wrap_add p 3 (by omega)
          have hw5 : IntKind.i64.wrap ((p : Int) + 5) = (q5 : Int) := by rw [e5]; exact wrap_add p 5 (by omega)
          have l13 : (q1 : Int) ≤ q3 := by omega
          have l35 : (q3 : Int) ≤ q5 := by omega
          have l1c : (q1 : Int) ≤ c := by omega
          have l3c : (q3 : Int) ≤ c := by omega
          have l5c : (q5 : Int) ≤ c := by omega
          have d13 : q3 - q1 = 2 := by omega
          have d35 : q5 - q3 = 2 := by omega
          have i13 : (q3 : Int) - q1 = 2 := by omega
          have i35 : (q5 : Int) - q3 = 2 := by omega
          have n1 : c ≠ q1 := by omega
          have n3 : c ≠ q3 := by omega
          have hb := HI.out.le
          have HSB : Hid (∀ (y : Value) W, wr.cell? ⟨g, off + p, none⟩ = some y → Below wr.heap.size wr W → Below wr.heap.size wr W ∧ W.cell? ⟨g, off + p, none⟩ = some y) := fun y W hy hW => ⟨hW, (hW.cell (p := ⟨g, off + p, none⟩) (Nat.lt_of_lt_of_le hg hb)).trans hy⟩
          have HE5 := Lib.hid e5
          have HP5 := Lib.hid hp5
          clear hm hok hj hg hcell0 hp5 hk hlt
          obtain ⟨x, hx⟩ : ∃ x, x = kindN l p := ⟨_, rfl⟩
          obtain ⟨s, hs⟩ : ∃ s, s = twoN l (p + 1) := ⟨_, rfl⟩
          obtain ⟨n, hn⟩ : ∃ n, n = twoN l (p + 3) := ⟨_, rfl⟩
          rw [← hx] at hcell HM HOK
          rw [← hs] at V1 W1 HM HOK HJ
          rw [← hn] at V2 W2 HM HOK HJ
          rw [← hx] at HJ
          rw [← e1] at V1
          rw [← e3] at V2
          clear hx hs hn e1 e3 e5
          obtain ⟨t, ht⟩ : ∃ t, t = (x == 1) := ⟨_, rfl⟩
          rw [← ht] at HM HOK HJ
          have HTT := Lib.hid ht
          clear ht
          go_upto_region 7 with fail
          go_region_held3 (fun w' => Below wr.heap.size wr w' ∧ w'.cell? ⟨g, off + p, none⟩ = some (.int .u8 (x : Int)))
            (first
              | exact HSB.out _ _ hcell (Below.refl _ _).drew
              | assumption
              | (refine HSB.out _ _ hcell ?_; first | exact below_al _ _ | exact (below_al _ _).drew | (go_split_ands; assumption) | exact (Below.refl _ _).drew))
            (first
              | (go_at_call 38; (with_reducible refine Calls.mono (V1.out _ _ (by first | exact below_al _ _ | exact (below_al _ _).drew | exact (Below.refl _ _).drew | assumption)) ?_); rintro e w1 ⟨rfl, rfl⟩)
              | (go_at_call 38; (with_reducible refine Calls.mono (V2.out _ _ (by first | exact below_al _ _ | exact (below_al _ _).drew | exact (Below.refl _ _).drew | assumption)) ?_); rintro e w1 ⟨rfl, rfl⟩))
          all_goals
            rw [W1.out, W2.out, bit_eq, ← HTT.out]
            have P7 := Lib.hid (show Blk (wr.alloc (.cells #[.bool t, .int .i64 (s : Int), .int .i64 (n : Int)] 54)).drew wr.heap.size 54 (Mv.cs ⟨t, (s : Int), (n : Int)⟩).toArray from Blk.new wr 54 (Mv.cs ⟨t, (s : Int), (n : Int)⟩).toArray)
            have HI7 := Lib.hid (HI.out.fresh (below_al wr (.cells #[.bool t, .int .i64 (s : Int), .int .i64 (n : Int)] 54)).drew)
            have c7 := (HSB.out _ _ hcell (below_al wr (.cells #[.bool t, .int .i64 (s : Int), .int .i64 (n : Int)] 54)).drew).2
            clear W1 W2 V1 V2 hcell HSB hb HTT HI
            generalize (wr.alloc (.cells #[.bool t, .int .i64 (s : Int), .int .i64 (n : Int)] 54)).drew = w7 at *
            generalize wr.heap.size = g6 at *
            by_cases hx : 1 < x
            · have hxi : (1 : Int) < x := by omega
              have HE := Lib.hid (HBAD.out (by rw [HOK.out, decide_eq_false (by omega)]; rfl))
              clear hx HOK HGO HBAD
              go_wp2_with fail
              go_ret2
              rw [HE.out]
              have HB := HB.out
              subst HB
              exact postM_none rfl HI7.out.below
            · have hxi : ¬ (1 : Int) < x := by omega
              have HOK' := Lib.hid (HOK.out.trans (by rw [decide_eq_true (show x ≤ 1 by omega), Bool.true_and]))
              clear hx HOK
              cases hrm : rightM ⟨t, (s : Int), (n : Int)⟩ with
              | false =>
                rw [hrm] at HJ HOK'
                have HE := Lib.hid (HBAD.out HOK'.out)
                clear hrm HGO HBAD HOK'
                go_wp2_with (first
                  | (refine wpList_val (by rfl) (.agg (Mv.cs ⟨t, (s : Int), (n : Int)⟩).toArray) (ex_ldM (.tmp 6) rfl g6 0 ⟨t, (s : Int), (n : Int)⟩ rfl P7.out.mvIs) ?_)
                  | (go_at_call 29; (with_reducible refine Calls.mono (HJ.out _) ?_); rintro e w8 ⟨rfl, hb8⟩; have HI8 := Lib.hid (HI7.out.fresh hb8); clear hb8))
                go_ret2
                rw [HE.out]
                have HB := HB.out
                subst HB
                exact postM_none rfl HI8.out.below
              | true =>
                rw [hrm] at HJ HOK'
                have HG := Lib.hid (HGO.out HOK'.out)
                have HML : Hid ((movesOf l k).length ≤ 1000000) := Lib.hid (by rw [movesOf_len]; have := HP.out; have := HP5.out; omega)
                clear hrm HGO HBAD HOK'
                go_wp2_with (first
                  | (with_reducible refine ld_mv rfl (.tmp 6) rfl g6 0 ⟨t, (s : Int), (n : Int)⟩ rfl P8.out.mvIs ?_)
                  | (refine wpList_val (by rfl) (.agg (Mv.cs ⟨t, (s : Int), (n : Int)⟩).toArray) (ex_ldM (.tmp 6) rfl g6 0 ⟨t, (s : Int), (n : Int)⟩ rfl P7.out.mvIs) ?_)
                  | (go_at_call 29; (with_reducible refine Calls.mono (HJ.out _) ?_); rintro e w8 ⟨rfl, hb8⟩; have HI8 := Lib.hid (HI7.out.fresh hb8); have P8 := Lib.hid (P7.out.below hb8 P7.out.lt); clear hb8)
                  | (refine wpList_val (by rfl) (.slice (some ⟨w8.heap.size, 0, none⟩) 1 1) (ex_bslM (.tmp 57) rfl ⟨t, (s : Int), (n : Int)⟩ rfl) ?_)
                  | (at_builtin; refine app_mv rfl 56 58 rfl base _ _ rfl HI8.out.own ⟨t, (s : Int), (n : Int)⟩ rfl HI8.out.le HML.out ?_; intro v' w9 ho9 hg9 _; have HI9 := Lib.hid (HI8.out.app ho9 hg9)))
                go_roundw
                case rel => exact ⟨k + 1, q5, by have := HP.out; have := HE5.out; omega, by have := HE5.out; have := HP5.out; omega, by go_num, HG.out, by rw [HSU.out, HM.out]; exact HI9.out⟩
                case measure => have := HE5.out; simp [intOf]; omega
        · obtain rfl : p = l.length := by omega
          have hk5 : k = l.length / 5 := by have := HP.out; omega
          subst hk5
          have HE : Hid (readM l = some (movesOf l (l.length / 5))) := if_pos ⟨H5.out, H20.out, HA.out⟩
          have HB := HB.out
          subst HB
          clear hk hlt HA
          go_wp2_with fail
          go_ret2
          rw [HE.out]
          exact HI.out.post rfl
    · have h5i : ((l.length : Int) % 5 != 0) = false := by rw [bne_eq_false_iff_eq]; omega
      have h20i : (20480 : Int) < l.length := by omega
      have HE : Hid (readM l = none) := if_neg fun h => h20 h.2.1
      clear hs hl h5 h20 hc
      go_enter Try.func21, Try.ntmps21
      go_wp2_with fail
      go_ret2
      rw [HE.out]
      exact postM_none rfl (Below.refl _ _)
  · have h5i : ((l.length : Int) % 5 != 0) = true := by rw [bne_iff_ne]; omega
    have HE : Hid (readM l = none) := if_neg fun h => h5 h.1
    clear hs h5 hc
    go_enter Try.func21, Try.ntmps21
    go_wp2_with fail
    go_ret2
    rw [HE.out]
    exact postM_none rfl (Below.refl _ _)
end Go.Proofs.Ytklccgmhllpjkaa
