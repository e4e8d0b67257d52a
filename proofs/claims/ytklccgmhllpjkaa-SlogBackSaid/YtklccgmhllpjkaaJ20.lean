/- The program's Read; its calls all together. -/
import Derived.Test.YtklccgmhllpjkaaJ19
set_option maxRecDepth 10000
namespace Go.Proofs.Ytklccgmhllpjkaa
open Go.RowKit

theorem kindD5 (l : List UInt8) (p : Nat) : kindN ((l.drop p).take 5) 0 = kindN l p := by
  unfold kindN
  rw [List.getD_eq_getElem?_getD, List.getD_eq_getElem?_getD, List.getElem?_take, if_pos (by omega), List.getElem?_drop, Nat.add_zero]
theorem twoD5 (l : List UInt8) (p q : Nat) (hq : q ≤ 3) : twoN ((l.drop p).take 5) q = twoN l (p + q) := by
  unfold twoN
  rw [List.drop_take, List.take_take, List.drop_drop, Nat.min_eq_left (by omega)]
theorem moveD5 (l : List UInt8) (p : Nat) : moveAt ((l.drop p).take 5) 0 = moveAt l p := by
  unfold moveAt
  rw [kindD5, twoD5 l p (0 + 1) (by omega), twoD5 l p (0 + 3) (by omega)]
theorem okD5 (l : List UInt8) (p : Nat) : okAt ((l.drop p).take 5) 0 = okAt l p := by
  unfold okAt
  rw [kindD5, moveD5]
theorem nilMI (w : World) : MInv w w w.heap.size (.slice none 0 0) [] := nilM w
set_option maxHeartbeats 4000000 in
theorem read_anyP (A : Option Addr) (c : Nat) (l : List UInt8) (w : World) (h : ByL w A c l) :
    Calls Try.prog 20 #[.slice A l.length c] w (PostM (readM l) w) := by
  have hlen := h.len
  have hlb : l.length ≤ 140737488355328 := by omega
  by_cases h5 : l.length % 5 = 0
  · have h5i : ((l.length : Int) % 5 != 0) = false := by rw [bne_eq_false_iff_eq]; omega
    by_cases h20 : l.length ≤ 20480
    · have h20i : (l.length : Int) / 5 ≤ 4096 := by omega
      have HS := Lib.hid h.rd
      have HN := Lib.hid (nilMI w)
      have H5 := Lib.hid h5
      have H20 := Lib.hid h20
      have hcap := h.cap
      have hzm : ∀ w, Sem.run Try.prog (zeroValue 54) w = .ok (.agg zmv.cs.toArray) w := zeroMv
      clear h hlen hlb h5 h20
      go_enter Try.func20, Try.ntmps20
      go_wp2_with fail
      generalize hbase : w.heap.size = base at *
      have HB := Lib.hid hbase
      clear hbase
      go_loopw [0, 4] (fun q v wr => ∃ (k : Nat) (r : List UInt8) (A1 : Option Addr) (c1 : Nat), 5 * k ≤ l.length ∧ Hid (r = l.drop (5 * k)) ∧ q = .slice A1 r.length c1 ∧ r.length ≤ c1 ∧ c1 ≤ c ∧ Rd w base A1 (bys r) ∧ (List.range k).all (fun k => okAt l (5 * k)) = true ∧ MInv w wr base v (movesOf l k)) (fun q _ _ => match q with | .slice _ n _ => n | _ => 0)
      case atStart => exact ⟨0, l, A, c, Nat.zero_le _, rfl, rfl, hcap, Nat.le_refl _, HS.out, rfl, HN.out⟩
      case round =>
        clear HN
        obtain ⟨k, r, A1, c1, hk, HR, rfl, hrc, hcc, hrd, hA, hI⟩ := hrel
        have HI := Lib.hid hI
        have HA := Lib.hid hA
        have hrl : r.length + 5 * k = l.length := by rw [HR.out, List.length_drop]; omega
        clear hI hA
        by_cases hlt : 0 < r.length
        · have hr5 : 5 ≤ r.length := by have := H5.out; omega
          have hr0 : (0 : Int) < r.length := by omega
          have hc5 : (5 : Int) ≤ c1 := by omega
          have hmv := move_any A1 c1 (r.take 5) (by rw [List.length_take]; omega) (by omega) wr (by rw [← bys_take]; exact ((hrd.below HI.out.below).mono HI.out.le).take 5)
          unfold PostMv at hmv
          rw [HR.out, okD5, moveD5] at hmv
          have HMV := Lib.hid hmv
          have HSU := Lib.hid (movesOf_succ l k)
          have HGO := Lib.hid (fun h : okAt l (5 * k) = true => ok_succ HA.out h)
          have HBAD := Lib.hid (fun h : okAt l (5 * k) = false => readM_bad (l := l) (k := k) (by omega) h)
          have HML : Hid ((movesOf l k).length ≤ 1000000) := Lib.hid (by rw [movesOf_len]; have := H20.out; omega)
          have hrd2 := hrd
          obtain ⟨b', off', rfl, hbB', hc1'⟩ := by_at hrd 0 (by omega)
          clear hc1' hmv
          have hrd3 := hrd2.drop (k := 5)
          rw [bys_drop] at hrd3
          have Hrd := Lib.hid hrd3
          have HRL := Lib.hid (And.intro hrl (And.intro hr5 (And.intro hrc (And.intro hcc hk))))
          have HR2 : Hid (r.drop 5 = l.drop (5 * (k + 1))) := by show _ = _; rw [HR.out, List.drop_drop, Nat.mul_succ]
          have hr5i : (5 : Int) ≤ r.length := by omega
          clear hrd hrd2 hrd3 hrl hr5 hrc hcc hk HA hlt hbB'
          generalize okAt l (5 * k) = ok at *
          generalize moveAt l (5 * k) = mv at *
          cases ok with
          | false =>
            have HE := Lib.hid (HBAD.out rfl)
            clear HBAD HGO
            go_wp2_with (first
              | (go_at_call 37; (with_reducible refine Calls.mono HMV.out ?_); rintro e w2 ⟨m, rfl, hm, hb2⟩; have HI2 := Lib.hid (HI.out.fresh hb2); clear hb2)
              | (with_reducible refine st_mv rfl _ _ rfl w2.heap.size 0 m rfl rfl (Blk.mvHas (m := zmv) (Blk.new w2 _ _)) ?_; intro w4 hw4
                 have HI4 := Lib.hid (HI2.out.fresh (new_mv hw4.out).2)))
            go_ret2
            rw [HE.out]
            have HB := HB.out
            subst HB
            exact postM_none rfl HI4.out.below
          | true =>
            have HG := Lib.hid (HGO.out rfl)
            clear HBAD HGO
            by_cases hcx : c1 = 5
            · subst hcx
              go_wp2_with (first
                | (go_at_call 37; (with_reducible refine Calls.mono HMV.out ?_); rintro e w2 ⟨m, rfl, hm, hb2⟩; have HM2 := Lib.hid (hm rfl); have HI2 := Lib.hid (HI.out.fresh hb2); clear hb2 hm)
                | (with_reducible refine st_mv rfl _ _ rfl w2.heap.size 0 m rfl rfl (Blk.mvHas (m := zmv) (Blk.new w2 _ _)) ?_; intro w4 hw4
                   have HI4 := Lib.hid (HI2.out.fresh (new_mv hw4.out).2)
                   have HM4 := Lib.hid (new_mv hw4.out).1)
                | (with_reducible refine ld_mv rfl _ rfl w2.heap.size 0 m rfl HM4.out.mvIs ?_)
                | (refine wpList_val (by rfl) (.slice (some ⟨w4.heap.size, 0, none⟩) 1 1) (ex_bslM (.tmp 31) rfl m rfl) ?_)
                | (at_builtin; refine app_mv rfl 30 32 rfl base _ _ rfl HI4.out.own m rfl HI4.out.le HML.out ?_; intro v' w9 ho9 hg9 _; have HI9 := Lib.hid (HI4.out.app ho9 hg9)))
              go_roundw
              case rel => exact ⟨k + 1, r.drop 5, some ⟨b', off', none⟩, 0, by have := HRL.out; omega, HR2.out, by rw [List.length_drop, show r.length - 5 = 0 by have := HRL.out; omega], by rw [List.length_drop]; have := HRL.out; omega, by omega, (fun h => absurd h (by rw [bys_len, List.length_drop]; have := HRL.out; omega)), HG.out, by rw [HSU.out, ← HM2.out]; exact HI9.out⟩
              case measure => have := HRL.out; simp; omega
            · have hcx' : ¬ (c1 : Int) = 5 := by omega
              go_wp2_with (first
                | (go_at_call 37; (with_reducible refine Calls.mono HMV.out ?_); rintro e w2 ⟨m, rfl, hm, hb2⟩; have HM2 := Lib.hid (hm rfl); have HI2 := Lib.hid (HI.out.fresh hb2); clear hb2 hm)
                | (with_reducible refine st_mv rfl _ _ rfl w2.heap.size 0 m rfl rfl (Blk.mvHas (m := zmv) (Blk.new w2 _ _)) ?_; intro w4 hw4
                   have HI4 := Lib.hid (HI2.out.fresh (new_mv hw4.out).2)
                   have HM4 := Lib.hid (new_mv hw4.out).1)
                | (with_reducible refine ld_mv rfl _ rfl w2.heap.size 0 m rfl HM4.out.mvIs ?_)
                | (refine wpList_val (by rfl) (.slice (some ⟨w4.heap.size, 0, none⟩) 1 1) (ex_bslM (.tmp 31) rfl m rfl) ?_)
                | (at_builtin; refine app_mv rfl 30 32 rfl base _ _ rfl HI4.out.own m rfl HI4.out.le HML.out ?_; intro v' w9 ho9 hg9 _; have HI9 := Lib.hid (HI4.out.app ho9 hg9)))
              go_roundw
              case rel => exact ⟨k + 1, r.drop 5, some ⟨b', off' + 5, none⟩, c1 - 5, by have := HRL.out; omega, HR2.out, by rw [List.length_drop], by rw [List.length_drop]; have := HRL.out; omega, by have := HRL.out; omega, Hrd.out, HG.out, by rw [HSU.out, ← HM2.out]; exact HI9.out⟩
              case measure => have := HRL.out; simp; omega
        · have hk5 : k = l.length / 5 := by omega
          have hr0 : r.length = 0 := by omega
          subst hk5
          have HE : Hid (readM l = some (movesOf l (l.length / 5))) := if_pos ⟨H5.out, H20.out, HA.out⟩
          have HB := HB.out
          subst HB
          rw [hr0] at *
          clear hk hlt HA hrl hrc hcc hrd
          go_wp2_with fail
          go_ret2
          rw [HE.out]
          exact HI.out.post rfl
    · have h20i : (4096 : Int) < (l.length : Int) / 5 := by omega
      have HE : Hid (readM l = none) := if_neg fun h => h20 h.2.1
      clear h h5 h20
      go_enter Try.func20, Try.ntmps20
      go_wp2_with fail
      go_ret2
      rw [HE.out]
      exact postM_none rfl (Below.refl _ _)
  · have h5i : ((l.length : Int) % 5 != 0) = true := by rw [bne_iff_ne]; omega
    have HE : Hid (readM l = none) := if_neg fun h => h5 h.1
    clear h h5
    go_enter Try.func20, Try.ntmps20
    go_wp2_with fail
    go_ret2
    rw [HE.out]
    exact postM_none rfl (Below.refl _ _)
/-- The landed calls are as the document has them. -/
theorem logCalls : LogCalls :=
  ⟨fun A A' c c' l ms w h k => replay_any A A' c c' l ms w h k, fun A A' c c' l m w h k => diff_any A A' c c' l m w h k, fun A c l w h => condense_any A c l w h, fun A c ms w h => bytes_any A c ms w h, fun A c l w h => read_anyP A c l w h⟩
end Go.Proofs.Ytklccgmhllpjkaa
