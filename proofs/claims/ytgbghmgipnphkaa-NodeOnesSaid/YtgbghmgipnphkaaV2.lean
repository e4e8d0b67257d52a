
/- The device: its state as plain data, what each call does to it, and how it lies in memory. -/
import Derived.Test.YtgbghmgipnphkaaV1
set_option maxRecDepth 10000
namespace Go.Proofs.Ytgbghmgipnphkaa
open Go.RowKit

theorem infoSec : (Try.prog.info? 23).map (fun i => (i.zero, i.size, i.bytes)) = some (some (.agg zsec.cs.toArray), 128, 128) := by kernel_rfl
theorem sizeSec : (Try.prog.info? 23).map (·.size) = some 128 := by kernel_rfl
theorem sizeSec' (s : Sec) : (Try.prog.info? 23).map (·.size) = some s.cs.length := by rw [Sec.cs_len]; exact sizeSec
theorem sizeSec'' (s : Sec) : (Try.prog.info? 23).map (·.size) = some s.cs.toArray.size := by rw [List.size_toArray, Sec.cs_len]; exact sizeSec
theorem zeroSec (w : World) : Sem.run Try.prog (zeroValue 23) w = .ok (.agg zsec.cs.toArray) w := by
  obtain ⟨i, hi, hz, _, _⟩ := info_parts infoSec
  simp [zeroValue, typeInfo, hi, hz]
theorem all_one {cs : List Value} (h : ∀ v ∈ cs, v.oneCell' = true) : cs.toArray.all (·.oneCell') = true := all_oneCell_toArray h

/-! ### Arrays and structs put together -/
theorem foldl_zip (off : Nat) : ∀ (l : List Value) (m : Nat) (z : Array Value), off + m + l.length ≤ z.size →
    ((l.zipIdx m).foldl (fun cs x => cs.setIfInBounds (off + x.2) x.1) z).size = z.size ∧
    ∀ k, ((l.zipIdx m).foldl (fun cs x => cs.setIfInBounds (off + x.2) x.1) z)[k]? = if off + m ≤ k ∧ k < off + m + l.length then l[k - (off + m)]? else z[k]?
  | [], m, z, _ => ⟨rfl, fun k => by rw [if_neg (by simp)]; rfl⟩
  | v :: r, m, z, hl => by
    simp only [List.length_cons] at hl
    obtain ⟨h1, h2⟩ := foldl_zip off r (m + 1) (z.setIfInBounds (off + m) v) (by simp; omega)
    simp only [List.zipIdx_cons, List.foldl_cons, List.length_cons]
    refine ⟨by rw [h1]; simp, fun k => ?_⟩
    rw [h2 k]
    rcases Nat.lt_trichotomy k (off + m) with hk | hk | hk
    · rw [if_neg (by omega), if_neg (by omega), Array.getElem?_setIfInBounds_ne (by omega)]
    · subst hk
      rw [if_neg (by omega), if_pos (by omega)]
      simp only [Nat.sub_self, List.getElem?_cons_zero]
      rw [Array.getElem?_setIfInBounds_self_of_lt (by omega)]
    · by_cases hk2 : k < off + m + (r.length + 1)
      · rw [if_pos (by omega), if_pos (by omega), show k - (off + m) = (k - (off + (m + 1))) + 1 by omega, List.getElem?_cons_succ]
      · rw [if_neg (by omega), if_neg (by omega), Array.getElem?_setIfInBounds_ne (by omega)]
theorem buildZ (w : World) : (Instr.build 23 #[]).run Try.prog w = .ok (.agg zsec.cs.toArray) w := by
  refine run_build w _ _ _ ?_
  kernel_rfl
def osec (b : UInt8) : Sec := ⟨b :: List.replicate 127 0, by rw [List.length_cons, List.length_replicate]⟩
/-! ### Two sectors held against each other -/
theorem run_eqSec (s t : Sec) (w : World) : (Op.equal 23 (.agg s.cs.toArray) (.agg t.cs.toArray)).run Try.prog w = .ok (s.same t) w := by
  have hq : ∀ s : Sec, ∀ i ∈ List.range 128, Try.prog.keyLits 1 5 ((s.cs.toArray.toList.drop (i * Try.prog.cellsOf 5)).take (Try.prog.cellsOf 5)) = some [.int .u8 ((s.l.getD i 0).toNat : Int)] := by
    intro s i hi
    have hi := List.mem_range.1 hi
    have hc : Try.prog.cellsOf 5 = 1 := by kernel_rfl
    rw [hc, Nat.mul_one]
    have hd : (s.cs.toArray.toList.drop i).take 1 = [.int .u8 ((s.l.getD i 0).toNat : Int)] := by
      have h1 : i < s.cs.length := by rw [Sec.cs_len]; exact hi
      rw [List.drop_eq_getElem_cons h1, List.take_succ_cons, List.take_zero]
      have h2 := s.at_ i hi
      rw [List.getElem?_eq_getElem h1] at h2
      simp only [Option.some.injEq] at h2
      rw [h2]
      simp [List.getD, List.getElem?_eq_getElem (show i < s.l.length by rw [s.h]; exact hi)]
    rw [hd]
    unfold Program.keyLits
    simp only [Try.underlying5]
    have hw : (Lit.int .u8 ((s.l.getD i 0).toNat : Int)).wf = true := by
      have := (s.l.getD i 0).toNat_lt
      generalize (s.l.getD i 0).toNat = q at *
      simp [Lit.wf, IntKind.min, IntKind.max, IntKind.signed, IntKind.bits]
      omega
    simp only [hw, and_true, if_true]
  have hm : ∀ s : Sec, (List.range 128).mapM (fun i => Try.prog.keyLits 1 5 ((s.cs.toArray.toList.drop (i * Try.prog.cellsOf 5)).take (Try.prog.cellsOf 5))) = some ((List.range 128).map fun i => [Lit.int .u8 ((s.l.getD i 0).toNat : Int)]) := by
    intro s
    have gen : ∀ is : List Nat, (∀ i ∈ is, i ∈ List.range 128) → is.mapM (fun i => Try.prog.keyLits 1 5 ((s.cs.toArray.toList.drop (i * Try.prog.cellsOf 5)).take (Try.prog.cellsOf 5))) = some (is.map fun i => [Lit.int .u8 ((s.l.getD i 0).toNat : Int)]) := by
      intro is
      induction is with
      | nil => intro _; rfl
      | cons i is ih =>
        intro h
        rw [List.mapM_cons, hq s i (h i (by simp)), ih fun j hj => h j (by simp [hj])]
        rfl
    exact gen _ fun _ h => h
  obtain ⟨iu, hiu⟩ : ∃ i, Try.prog.info? 5 = some i := info_of_underlying Try.underlying5
  obtain ⟨r, hr, hiff⟩ := run_eqItems_plain (P := Try.prog) w 9998 (e := 5) (by simp [Program.plainKey, Try.underlying5]) s.cs.toArray t.cs.toArray _ _ _ (hm s) (hm t)
  unfold Op.equal Op.maxDepth
  rw [run_equalIn_array (P := Try.prog) w 9999 _ _ Try.underlying23 hiu, hr]
  suffices e0 : r = s.same t by rw [e0]
  have e1 : (r = true) ↔ (s.same t = true) := by
    rw [hiff, Sec.same_iff]
    constructor
    · intro h
      have hs : ∀ u : Sec, ((List.range 128).map fun i => [Lit.int .u8 ((u.l.getD i 0).toNat : Int)]).flatten = (List.range 128).map fun i => Lit.int .u8 ((u.l.getD i 0).toNat : Int) := by
        intro u
        generalize List.range 128 = is
        induction is with
        | nil => rfl
        | cons i is ih => simp only [List.map_cons, List.flatten_cons, ih]; rfl
      rw [hs, hs] at h
      refine Sec.eq (List.ext_getElem (by rw [s.h, t.h]) fun i hi hi' => ?_)
      have hi2 : i < 128 := by rw [s.h] at hi; exact hi
      have := congrArg (fun l => l[i]?) h
      simp only [List.getElem?_map, List.getElem?_range hi2, Option.map_some, Option.some.injEq, Lit.int.injEq, true_and, List.getD, List.getElem?_eq_getElem hi, List.getElem?_eq_getElem hi', Option.getD_some] at this
      exact UInt8.toNat_inj.1 (by omega)
    · intro h
      rw [h]
  cases r <;> cases h : s.same t <;> simp_all

/-! ### What a device is, and what each call does to it -/
section
variable {w w' : World} {B n : Nat} {pv : Value} {O : Nat → Prop}
theorem blk_ne {g g' : Nat} {t t' : TypeId} {cs cs' : Array Value} (h : Blk w g t cs) (h' : Blk w g' t' cs') (ht : t ≠ t') : g ≠ g' := by
  rintro rfl
  unfold Blk at h h'
  rw [h] at h'
  cases h'
  exact ht rfl
theorem own_blk {base e size m : Nat} {v : Value} {xs : List Value} (h : w.ownsRow base e size v m xs) {g : Nat} (hg : v.ownBlock = some g) : ∃ cs, Blk w g e cs := by
  rcases h.2 with ⟨rfl, _⟩ | ⟨g', cap, cur, rfl, _, hc, _⟩
  · cases hg
  · simp only [Value.ownBlock, Option.some.injEq] at hg
    subst hg
    exact ⟨cur, hc⟩
end
end Go.Proofs.Ytgbghmgipnphkaa
