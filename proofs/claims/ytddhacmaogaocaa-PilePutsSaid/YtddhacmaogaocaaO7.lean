/- The laws on piles, walked over the calls' contracts: PilePuts. -/
import Derived.Test.YtddhacmaogaocaaO6
import Derived.Deep.RegionHeld
set_option maxRecDepth 10000
namespace Go.Proofs.Ytddhacmaogaocaa
open Go.RowKit

/-- An array of 64 bools. -/
def b64 (S : Nat → Bool) : Array Value := (Array.range 64).map fun n : Nat => .bool (S n)
theorem b64_size (S : Nat → Bool) : (b64 S).size = 64 := by simp [b64]
theorem b64_at (S : Nat → Bool) (k : Nat) (hk : k < 64) : (b64 S)[k]? = some (.bool (S k)) := by simp [b64, hk]
theorem b64_congr {S T : Nat → Bool} (h : ∀ n, n < 64 → S n = T n) : b64 S = b64 T := by
  unfold b64
  refine Array.map_congr_left fun n hn => ?_
  rw [Array.mem_range] at hn
  rw [h n hn]
theorem b64_set {S T : Nat → Bool} {b : Bool} (k : Nat) (hk : k < 64) (h1 : T k = b) (h : ∀ n, n < 64 → n ≠ k → S n = T n) : (b64 S).setIfInBounds k (.bool b) = b64 T := by
  refine Array.ext_getElem? fun i => ?_
  rw [Array.getElem?_setIfInBounds]
  rcases Nat.lt_or_ge i 64 with hi | hi
  · rw [b64_at T i hi, b64_at S i hi]
    split
    · rename_i e; subst e; rw [h1]; simp [b64_size, hk]
    · rename_i e; rw [h i hi (by omega)]
  · rw [if_neg (by omega)]
    simp [b64, hi]
theorem b64_one (S : Nat → Bool) : (b64 S).all (·.oneCell') = true := by
  rw [Array.all_eq_true_iff_forall_mem]
  intro v hv
  simp only [b64, Array.mem_map] at hv
  obtain ⟨n, _, rfl⟩ := hv
  rfl
theorem build120 (w : World) : (Instr.build 23 #[(0, .int .u8 120)]).run Try.prog w = .ok (.agg (blockS [120]).cs.toArray) w := by
  refine run_build w _ _ _ ?_
  kernel_rfl
def noS : Nat → Bool := fun _ => false
theorem build64 (w : World) : (Instr.build 50 #[]).run Try.prog w = .ok (.agg (b64 noS)) w := by
  refine run_build w _ _ _ ?_
  kernel_rfl
theorem zero64 (w : World) : Sem.run Try.prog (zeroValue 50) w = .ok (.agg (b64 noS)) w := by
  have h : (Try.prog.info? 50).map (fun i => i.zero) = some (some (.agg (b64 noS))) := by kernel_rfl
  obtain ⟨i, hi, hz⟩ := Option.map_eq_some_iff.1 h
  simp [zeroValue, typeInfo, hi, hz]
theorem size64 : (Try.prog.info? 50).map (·.size) = some 64 := by kernel_rfl
theorem size64' (S : Nat → Bool) : (Try.prog.info? 50).map (·.size) = some (b64 S).size := by rw [b64_size]; exact size64
theorem ex_b64 {o : Oper} {a : Act} {w : World} (ho : o.op = .build 50 #[]) : (execOp a.eval o).run Try.prog w = .ok (.value (.agg (b64 noS))) w := by
  have hb := build64 w
  unfold execOp
  simp only [ho, List.map_toArray, List.map_nil, Sem.run_bind, hb, Sem.run_pure, Result.andThen_ok]
theorem ex_al64 {o : Oper} {a : Act} {w : World} (ho : o.op = .alloc 50) : (execOp a.eval o).run Try.prog w = .ok (.value (.pointer (some ⟨w.heap.size, 0, none⟩))) (w.alloc (.cells (b64 noS) 50)) := by
  have hb := zero64 w
  unfold execOp
  simp [ho, hb, Instr.alloc, go_sem]
theorem st64 {ops : Array Oper} {rest : List Oper} {o : Oper} {a : Act} {w : World} {Q : Exit → Act → World → Prop} (hgd : o.guard = none) (x y : Operand) (ho : o.op = .store 50 x y)
    (g : Nat) (S T : Nat → Bool) (hx : a.eval x = .pointer (some ⟨g, 0, none⟩)) (hy : a.eval y = .agg (b64 T)) (hg : Blk w g 50 (b64 S))
    (h : ∀ w', Blk w' g 50 (b64 T) → w'.heap.size = w.heap.size → (∀ B, B ≤ g → Below B w w') → wpList Try.prog ops Q rest (a.put o.dst undef) w') : wpList Try.prog ops Q (o :: rest) a w :=
  wpList_store_row hgd _ x y ho g (b64 T) hx hy 50 (b64 S) hg (size64' T) (by rw [b64_size, b64_size]) (b64_one T)
    (h _ (by unfold Blk at hg ⊢; simp [World.setRow, Array.getElem?_modify, hg]) (by simp) fun B hB => ⟨rfl, rfl, rfl, by simp, fun k hk => by
      simp only [World.setRow, Array.getElem?_modify]
      rw [if_neg (by omega)]⟩)
/-- A pile in which so many sectors are taken. -/
structure Fill (many : Nat) (P : Pw) : Prop where
  nwl : P.nw.length = 64
  tot : P.m.tot = 64
  st : P.st = 1
  cnt : P.m.count + many = 60
  N : P.N = many
theorem fill_zero : Fill 0 (newPw 64) := ⟨new64_len, rfl, rfl, count_new 64, rfl⟩
theorem Fill.good {many i : Nat} {P : Pw} (h : Fill many P) (hi : P.m.next = some i) (l : List UInt8) : Fill (many + 1) ⟨P.nw.set i (blockS l), P.m.put i 1, P.st, P.ba, P.N + 1⟩ ∧ i < 64 ∧ P.m.is 1 i = false ∧ P.m.is 0 i = true := by
  obtain ⟨h0, h1024, _⟩ := next_some hi
  obtain ⟨g4, gt, g0⟩ := Mp.is_iff.1 h0
  have hi64 : i < 64 := by have := h.tot; omega
  have := count_take h0 h1024 (s := 1) (by omega)
  refine ⟨⟨by show (P.nw.set i _).length = 64; rw [List.length_set, h.nwl], h.tot, h.st, ?_, by show P.N + 1 = _; rw [h.N]⟩, hi64, ?_, h0⟩
  · have := h.cnt
    show (P.m.put i 1).count + (many + 1) = 60
    omega
  · unfold Mp.is
    rw [g0]
    simp
theorem Fill.next {many : Nat} {P : Pw} (h : Fill many P) (hm : many ≠ 60) : ∃ i, P.m.next = some i := by
  cases hx : P.m.next with
  | some i => exact ⟨i, rfl⟩
  | none =>
    have := next_none.1 hx
    have := h.cnt
    omega
theorem Fill.full {many : Nat} {P : Pw} (h : Fill many P) (hm : many = 60) : P.m.next = none := next_none.2 (by have := h.cnt; omega)
theorem no_new (P : Pw) (h : P = newPw 64) : b64 noS = b64 fun i => P.m.is 1 i := b64_congr fun i _ => by
  subst h
  unfold noS
  show false = (newMp 64).is 1 i
  unfold Mp.is
  show false = (decide (4 ≤ i) && decide (i < (newMp 64).tot) && (0 == 1))
  simp
section
variable {At : World → (Nat → Prop) → Nat → Pw → Prop}
set_option maxHeartbeats 4000000 in
theorem pilePuts_any (L : PileCalls At) (w : World) (A : Option Addr) (c : Nat) (l : List Tx) (hR : Rd w w.heap.size A (txs l)) (hT : TxIn w w.heap.size l) (hB : ∀ t ∈ l, t.2.2.length ≤ 140737488355328) (at_ : Int) (hat : I64 at_) :
    Calls Try.prog 6 #[.slice A l.length c, .int .i64 at_] w fun e w' => e = .returned (.bool true) ∧ Below w.heap.size w w' := by
  have HA := Lib.hid (pileAlive_any L w)
  go_enter Try.func6, Try.ntmps6
  go_wp2_with fail
  refine Calls.mono HA.out ?_
  rintro e w1 ⟨rfl, hb1⟩
  have b1 : Below w.heap.size w w1 := hb1
  clear HA hb1
  by_cases hl : l.length ≤ 80
  · have hl' : (l.length : Int) ≤ 80 := by omega
    have HM := Lib.hid (L.made 64 w1 (by unfold I64; omega))
    go_wp2_with fail
    refine Calls.mono HM.out ?_
    rintro e w2 ⟨O2, g, rfl, h2, hO2, hb2⟩
    have m2 := HasP.first b1 h2 hO2 hb2
    clear HM h2 hO2 hb2 b1
    go_upto_region 6 with fail
    go_wp2_with (first
      | (refine wpList_valD 24 rfl _ (ex_b64 rfl) (by rfl) ?_)
      | (refine wpList_valD 6 rfl _ (ex_al64 rfl) (by rfl) ?_)
      | ((with_reducible refine st64 rfl _ _ rfl w2.heap.size noS noS rfl rfl (Blk.new w2 _ _) ?_); intro w3 hbl3 hsz3 hbb3))
    have hb3 : Below w2.heap.size w2 w3 := ((Below.refl w2.heap.size w2).alloc (Nat.le_refl _) _).trans (hbb3 _ (Nat.le_refl _))
    have m3 := m2.far L hb3
    have a3 : BlkA w3 O2 w2.heap.size 50 (b64 fun i => (newPw 64).m.is 1 i) := ⟨by rw [← no_new _ rfl]; exact hbl3, fun ho => by have := L.foot m2.at_ _ ho; omega⟩
    have HGA : Hid (w.heap.size ≤ w2.heap.size) := m2.below.size
    clear hbl3 hsz3 hbb3 hb3 m2
    generalize w2.heap.size = ga at *
    go_loopw [7, 27] (fun mv i wr => ∃ (k many : Nat) (P : Pw) (O : Nat → Prop), k ≤ l.length ∧ i = .int .i64 k ∧ mv = .int .i64 many ∧ HasP At w wr O g P ∧ BlkA wr O ga 50 (b64 fun i => P.m.is 1 i) ∧ Fill many P) (fun _ i _ => l.length - (intOf i).toNat)
    case atStart => exact ⟨0, 0, newPw 64, O2, by omega, rfl, rfl, m3, a3, fill_zero⟩
    case round =>
      clear m3 a3
      obtain ⟨k, many, P, O, hk, rfl, rfl, hm, ha, hp⟩ := hrel
      have hb := hm.below
      obtain ⟨hc, hf⟩ := bcell hb
      by_cases hlt : k < l.length
      · obtain ⟨b, off, rfl, hbB, hc1⟩ := tx_at hR k hlt
        have hTk := hT l[k] (List.getElem_mem hlt)
        have hBk := hB l[k] (List.getElem_mem hlt)
        obtain ⟨tA, tc, tl, htk⟩ : ∃ tA tc tl, l[k] = (tA, tc, tl) := ⟨_, _, _, rfl⟩
        rw [htk] at hTk hBk hc1
        simp only at hTk hBk hc1
        have hcnt := hp.cnt
        have hN : P.N ≤ 1000000 := by have := hp.N; omega
        have HRd := Lib.hid (fun (w' : World) (hb' : Below w.heap.size w w') => (hTk.1.below hb').mono hb'.size)
        have hc1 := (hc b (off + k) hbB).trans hc1
        have HT := Lib.hid (And.intro (hTk.1.below hb) (And.intro hBk (L.foot hm.at_)))
        have HM := Lib.hid (And.intro hm ha)
        have HPut := Lib.hid (fun (w3 : World) (A' : Option Addr) (c' : Nat) (hb3 : Below wr.heap.size wr w3) (hrd : RdA w3 O A' (bys tl)) => L.put A' c' tl (HM.out.1.far L hb3).at_ hrd HT.out.2.1 hN)
        have HK := Lib.hid hk
        have HP := Lib.hid hp
        have hm60 : (many : Int) ≤ 60 := by omega
        have hz := zeroPtr
        clear hp hTk hBk hm ha hN hb hc hf hk hcnt
        by_cases h8 : 128 < tl.length
        · obtain ⟨e1, e2, e3⟩ := pput_no (P := P) h8
          rw [e1, e2, e3] at HPut
          have h8' : (128 : Int) < (tl.length : Int) := by omega
          clear e1 e2 e3
          go_wp2_with (at_builtin; refine app_bytes rfl 33 34 rfl rfl w.heap.size tA tl.length tc tl O rfl rfl (HT.out.1.below ((Below.refl _ _).alloc (by have := HM.out.1.below.size; omega) _)) HT.out.2.1 HT.out.2.2 ?_; intro A3 c3 w3 hrd3 hb3)
          refine Calls.mono (HPut.out w3 A3 c3 hb3 hrd3) ?_
          rintro e w4 ⟨O4, rfl, h4, s4⟩
          have m4 := (HM.out.1.far L hb3).step h4 s4
          have a4 := (HM.out.2.later hb3).step s4
          have HM4 := Lib.hid (And.intro m4 a4)
          have hb5 : Hid (Below w4.heap.size w4 (w4.alloc (.cells (pcs 0 0 0) 32))) := (Below.refl _ _).alloc (Nat.le_refl _) _
          clear HPut hb3 hrd3 h4 s4 HM m4 a4
          go_wp2_with fail
          go_roundw
          case rel => exact ⟨k + 1, many, P, O4, hlt, by go_num, rfl, HM4.out.1.far L hb5.out, HM4.out.2.later hb5.out, HP.out⟩
          case measure => simp [intOf]; omega
        · have h8' : ¬ (128 : Int) < (tl.length : Int) := by omega
          by_cases hf : many = 60
          · subst hf
            obtain ⟨e1, e2, e3⟩ := put_full (P := P) h8 (HP.out.full rfl)
            rw [e1, e2, e3] at HPut
            clear e1 e2 e3
            go_wp2_with (at_builtin; refine app_bytes rfl 33 34 rfl rfl w.heap.size tA tl.length tc tl O rfl rfl (HT.out.1.below ((Below.refl _ _).alloc (by have := HM.out.1.below.size; omega) _)) HT.out.2.1 HT.out.2.2 ?_; intro A3 c3 w3 hrd3 hb3)
            refine Calls.mono (HPut.out w3 A3 c3 hb3 hrd3) ?_
            rintro e w4 ⟨O4, rfl, h4, s4⟩
            have m4 := (HM.out.1.far L hb3).step h4 s4
            have a4 := (HM.out.2.later hb3).step s4
            have HM4 := Lib.hid (And.intro m4 a4)
            have hb5 : Hid (Below w4.heap.size w4 (w4.alloc (.cells (pcs 0 0 0) 32))) := (Below.refl _ _).alloc (Nat.le_refl _) _
            clear HPut hb3 hrd3 h4 s4 HM m4 a4
            go_wp2_with fail
            go_roundw
            case rel => exact ⟨k + 1, 60, P, O4, hlt, by go_num, rfl, HM4.out.1.far L hb5.out, HM4.out.2.later hb5.out, HP.out⟩
            case measure => simp [intOf]; omega
          · obtain ⟨i, hi⟩ := HP.out.next hf
            obtain ⟨e1, e2, e3⟩ := pput_yes (P := P) h8 hi
            obtain ⟨hF, hi64, hn1, h0⟩ := HP.out.good hi tl
            rw [HP.out.st] at e2
            rw [e1, e2, e3] at HPut
            have hget : getS ⟨P.nw.set i (blockS tl), P.m.put i 1, P.st, P.ba, P.N + 1⟩ ((i : Int), 1, (sumS (blockS tl) : Int)) = (blockS tl, 0) :=
              get_same (hole_ne (by decide)) (by show i < (P.nw.set i _).length; rw [List.length_set, HP.out.nwl]; exact hi64) (by show (P.nw.set i (blockS tl)).getD i zsec = _; rw [getD_set _ _ _ _ (by rw [HP.out.nwl]; exact hi64), if_pos rfl])
            have hset := b64_set (S := fun j => P.m.is 1 j) (T := fun j => (P.m.put i 1).is 1 j) (b := true) i hi64 (by
              obtain ⟨g4, gt, _⟩ := Mp.is_iff.1 h0
              show (P.m.put i 1).is 1 i = true
              rw [Mp.put_is_self, decide_eq_true g4, decide_eq_true gt]; rfl) (fun n _ hn => (Mp.put_is_ne hn).symm)
            have hok := putq_ok (i := i) (S := sumS (blockS tl)) (by omega) (sum_lt _)
            have HF := Lib.hid (And.intro hF (And.intro hset (And.intro hn1 (And.intro hget hok))))
            have hmne : ((many : Int) == 60) = false := by rw [beq_eq_false_iff_ne]; omega
            clear e1 e2 e3 hi hF hset hn1 h0 hget hok hf
            have HPM : Hid ((⟨P.nw.set i (blockS tl), P.m.put i 1, P.st, P.ba, P.N + 1⟩ : Pw).m = P.m.put i 1) := rfl
            generalize (⟨P.nw.set i (blockS tl), P.m.put i 1, P.st, P.ba, P.N + 1⟩ : Pw) = P' at *
            obtain ⟨S, hS⟩ : ∃ S : Int, (sumS (blockS tl) : Int) = S := ⟨_, rfl⟩
            rw [hS] at HPut HF
            clear hS
            go_wp2_with (at_builtin; refine app_bytes rfl 33 34 rfl rfl w.heap.size tA tl.length tc tl O rfl rfl (HT.out.1.below ((Below.refl _ _).alloc (by have := HM.out.1.below.size; omega) _)) HT.out.2.1 HT.out.2.2 ?_; intro A3 c3 w3 hrd3 hb3)
            refine Calls.mono (HPut.out w3 A3 c3 hb3 hrd3) ?_
            rintro e w4 ⟨O4, rfl, h4, s4⟩
            have m4 := (HM.out.1.far L hb3).step h4 s4
            have a4 := (HM.out.2.later hb3).step s4
            have hb5 : Below w4.heap.size w4 (w4.alloc (.cells (pcs (i : Int) 1 S) 32)) := (Below.refl _ _).alloc (Nat.le_refl _) _
            have m5 := m4.far L hb5
            have a5 := a4.later hb5
            have p5 : BlkA (w4.alloc (.cells (pcs (i : Int) 1 S) 32)) O4 w4.heap.size 32 (pcs (i : Int) 1 S) := ⟨Blk.new w4 _ _, fun ho => by have := L.foot m4.at_ _ ho; omega⟩
            have HGet := L.get ((i : Int), 1, S) HF.out.2.2.2.2 m5.at_
            rw [HF.out.2.2.2.1] at HGet
            have HGet := Lib.hid HGet
            have HM5 := Lib.hid (And.intro m5 (And.intro a5 p5))
            clear HPut hb3 hrd3 h4 s4 HM m4 a4 hb5 m5 a5 p5
            go_wp2_with fail
            refine Calls.mono HGet.out ?_
            rintro e w6 ⟨O6, rfl, h6, s6⟩
            have m6 := HM5.out.1.step h6 s6
            have a6 := HM5.out.2.1.step s6
            have p6 := HM5.out.2.2.step s6
            generalize w4.heap.size = gp at *
            have hz : ∀ w, Sem.run Try.prog (zeroValue 23) w = .ok (.agg zsec.cs.toArray) w := zeroSec
            have hn : Hid (Blk (w6.alloc (.cells zsec.cs.toArray 23)) w6.heap.size 23 zsec.cs.toArray) := Blk.new _ _ _
            have HM6 := Lib.hid (And.intro m6 (And.intro a6 p6))
            clear HGet HM5 h6 s6 m6 a6 p6 hc1
            go_upto_region 19 with ((with_reducible refine st_sec rfl _ _ rfl w6.heap.size 0 (blockS tl) rfl rfl hn.out.secHas ?_); intro w7 hw7)
            have hb7 : Below w6.heap.size w6 w7 := by rw [hw7.out]; exact Below.setCells _ (Nat.le_refl _) _ _ ((Below.refl _ _).alloc (Nat.le_refl _) _)
            have m7 := HM6.out.1.far L hb7
            have a7 := HM6.out.2.1.later hb7
            have p7 := HM6.out.2.2.later hb7
            have x7 : Blk w7 w6.heap.size 23 (blockS tl).cs.toArray := by rw [hw7.out]; exact hn.out.secAll _
            clear hw7 hn HM6 hb7 hz
            generalize w6.heap.size = gx at *
            have hS7 : w7.drew.cell? ⟨gp, 0, none⟩ = some (.int .i64 (i : Int)) ∧ w7.drew.cell? ⟨ga, i, none⟩ = some (.bool false) ∧ Blk w7.drew gx 23 (blockS tl).cs.toArray ∧ Below w.heap.size w w7.drew := by
              refine ⟨p7.blk.cell 0, ?_, x7, m7.below.drew⟩
              have h := a7.blk.cell i
              rw [b64_at _ i hi64, HF.out.2.2.1] at h
              exact h
            have HM7 := Lib.hid (And.intro m7 (And.intro a7 (And.intro p7 x7)))
            have hlt7 : gp < w7.drew.heap.size ∧ ga < w7.drew.heap.size := ⟨p7.blk.lt, a7.blk.lt⟩
            have hIdx : ((i : Int) < 0 ∨ (64 : Int) ≤ (i : Int)) = False := by simp; omega
            clear m7 a7 p7 x7
            refine wp_region_held_drew (S := fun w' => w'.cell? ⟨gp, 0, none⟩ = some (.int .i64 (i : Int)) ∧ w'.cell? ⟨ga, i, none⟩ = some (.bool false) ∧ Blk w' gx 23 (blockS tl).cs.toArray ∧ Below w.heap.size w w') (by kernel_rfl) hS7 (fun hHeld => ?_)
            clear hS7
            have hi64' : (i : Int) < 64 := by omega
            have hi0 : (0 : Int) ≤ (i : Int) := by omega
            refine wpAnyH_take (i := 0) (v := (.int .i64 0)) rfl (by kernel_rfl) (by kernel_rfl) (by kernel_rfl) (fun _ _ _ h => h) (Or.inl ⟨by rfl, ?_⟩) (by assumption) ?_
            · intro w' hS; go_simp; try with_reducible rfl
            try simp [Act.put]
            refine wpAnyH_take (i := 1) (v := (.bool false)) rfl (by kernel_rfl) (by kernel_rfl) (by kernel_rfl) (fun _ _ _ h => h) (Or.inl ⟨by rfl, ?_⟩) (by assumption) ?_
            · intro w' hS; go_simp; try with_reducible rfl
            try simp [Act.put]
            refine wpAnyH_take (i := 2) (v := (.bool false)) rfl (by kernel_rfl) (by kernel_rfl) (by kernel_rfl) (fun _ _ _ h => h) (Or.inl ⟨by rfl, ?_⟩) (by assumption) ?_
            · intro w' hS; go_simp; try with_reducible rfl
            try simp [Act.put]
            refine wpAnyH_take (i := 3) (v := (.int .i64 0)) rfl (by kernel_rfl) (by kernel_rfl) (by kernel_rfl) (fun _ _ _ h => h) (Or.inl ⟨by rfl, ?_⟩) (by assumption) ?_
            · intro w' hS; go_simp; try with_reducible rfl
            try simp [Act.put]
            refine wpAnyH_take (i := 4) (v := (.bool false)) rfl (by kernel_rfl) (by kernel_rfl) (by kernel_rfl) (fun _ _ _ h => h) (Or.inl ⟨by rfl, ?_⟩) (by assumption) ?_
            · intro w' hS; go_simp; try with_reducible rfl
            try simp [Act.put]
            refine wpAnyH_take (i := 5) (v := (.bool false)) rfl (by kernel_rfl) (by kernel_rfl) (by kernel_rfl) (fun _ _ _ h => h) (Or.inl ⟨by rfl, ?_⟩) (by assumption) ?_
            · intro w' hS; go_simp; try with_reducible rfl
            try simp [Act.put]
            refine wpAnyH_take (i := 6) (v := (.bool false)) rfl (by kernel_rfl) (by kernel_rfl) (by kernel_rfl) (fun _ _ _ h => h) (Or.inl ⟨by rfl, ?_⟩) (by assumption) ?_
            · intro w' hS; go_simp; try with_reducible rfl
            try simp [Act.put]
            refine wpAnyH_take (i := 7) (v := (.pointer (some ⟨gp, 0, none⟩))) rfl (by kernel_rfl) (by kernel_rfl) (by kernel_rfl) (fun _ _ _ h => h) (Or.inl ⟨by rfl, ?_⟩) (by assumption) ?_
            · intro w' hS; go_simp; try with_reducible rfl
            try simp [Act.put]
            refine wpAnyH_take (i := 8) (v := (.int .i64 (i : Int))) rfl (by kernel_rfl) (by kernel_rfl) (by kernel_rfl) (fun _ _ _ h => h) (Or.inl ⟨by rfl, ?_⟩) (by assumption) ?_
            · intro w' hS
              obtain ⟨s1, s2, s3, s4⟩ := hS
              go_simp; try with_reducible rfl
            try simp [Act.put]
            refine wpAnyH_take (i := 9) (v := (.pointer (some ⟨ga, i, none⟩))) rfl (by kernel_rfl) (by kernel_rfl) (by kernel_rfl) (fun _ _ _ h => h) (Or.inl ⟨by rfl, ?_⟩) (by assumption) ?_
            · intro w' hS; go_simp; try with_reducible rfl
            try simp [Act.put]
            refine wpAnyH_take (i := 10) (v := (.bool false)) rfl (by kernel_rfl) (by kernel_rfl) (by kernel_rfl) (fun _ _ _ h => h) (Or.inl ⟨by rfl, ?_⟩) (by assumption) ?_
            · intro w' hS
              obtain ⟨s1, s2, s3, s4⟩ := hS
              go_simp; try with_reducible rfl
            try simp [Act.put]
            refine wpAnyH_take (i := 11) (v := (.bool false)) rfl (by kernel_rfl) (by kernel_rfl) (by kernel_rfl) (fun _ _ _ h => h) (Or.inl ⟨by rfl, ?_⟩) (by assumption) ?_
            · intro w' hS; go_simp; try with_reducible rfl
            try simp [Act.put]
            refine wpAnyH_take (i := 12) (v := (.bool false)) rfl (by kernel_rfl) (by kernel_rfl) (by kernel_rfl) (fun _ _ _ h => h) (Or.inl ⟨by rfl, ?_⟩) (by assumption) ?_
            · intro w' hS; go_simp; try with_reducible rfl
            try simp [Act.put]
            refine wpAnyH_take (i := 13) (v := (.agg (blockS tl).cs.toArray)) rfl (by kernel_rfl) (by kernel_rfl) (by kernel_rfl) (fun _ _ _ h => h) (Or.inl ⟨by rfl, ?_⟩) (by assumption) ?_
            · intro w' hS
              exact ex_ldS (.tmp 12) rfl gx (blockS tl) rfl hS.2.2.1
            try simp [Act.put]
            refine wpAnyH_take (i := 14) (v := (.slice tA tl.length tc)) rfl (by kernel_rfl) (by kernel_rfl) (by kernel_rfl) (fun _ _ _ h => h) (Or.inl ⟨by rfl, ?_⟩) (by assumption) ?_
            · intro w' hS; go_simp; try with_reducible rfl
            try simp [Act.put]
            have HBl := Lib.hid (rblock_any tA tc tl w7.drew (HRd.out _ hHeld.2.2.2) HT.out.2.1)
            refine wpAnyH_ready (rs := [15]) (by kernel_rfl) (by simp) ?_
            refine AllReadyH.cons rfl (fun K hK => ?_) AllReadyH.nil
            go_simp
            refine Calls.mono (HBl.out) ?_
            rintro e w8 ⟨rfl, hb8⟩
            refine hK.out _ _ (⟨(hb8.cell (p := ⟨gp, 0, none⟩) hlt7.1).trans hHeld.1, (hb8.cell (p := ⟨ga, i, none⟩) hlt7.2).trans hHeld.2.1, hHeld.2.2.1.below hb8 hHeld.2.2.1.lt, hHeld.2.2.2.trans (hb8.mono hHeld.2.2.2.size)⟩) (fun hHeld2 => ?_)
            clear hK K
            try simp
            clear hHeld
            have hHeld := hHeld2
            clear hHeld2
            have hsame : Hid ((!(blockS tl).same (blockS tl)) = false) := by show (!(blockS tl).same (blockS tl)) = false; rw [(blockS tl).same_self]; rfl
            refine wpAnyH_take (i := 16) (v := (.bool false)) rfl (by kernel_rfl) (by kernel_rfl) (by kernel_rfl) (fun _ _ _ h => h) (Or.inl ⟨by rfl, ?_⟩) (by assumption) ?_
            · intro w' hS
              refine (ex_neS (.tmp 67) (.tmp 69) rfl (blockS tl) (blockS tl) rfl rfl).trans ?_
              rw [hsame.out]
            try simp [Act.put]
            refine wpAnyH_take (i := 17) (v := (.bool false)) rfl (by kernel_rfl) (by kernel_rfl) (by kernel_rfl) (fun _ _ _ h => h) (Or.inl ⟨by rfl, ?_⟩) (by assumption) ?_
            · intro w' hS; go_simp; try with_reducible rfl
            try simp [Act.put]
            refine wpAnyH_done (by kernel_rfl) ?_ _
            have hb78 : Below w7.heap.size w7 w8 := (Below.refl _ _).drew.trans hb8
            have m8 := HM7.out.1.far L hb78
            have a8 := HM7.out.2.1.later hb78
            have hp0 := hHeld.1
            have hc8 := hHeld.2.1
            have hfa := a8.blk.frozen i
            have hfp := (HM7.out.2.2.1.later hb78).blk.frozen 0
            have hlta := a8.blk.lt
            have HM8 := Lib.hid (And.intro m8 a8)
            clear hHeld HM7 hb8 hb78 m8 a8 HBl hlt7
            generalize w7.drew = wd at *
            go_wp2_with fail
            go_roundw
            case rel =>
              have hcs : Chg w8 (w8.setCell ⟨ga, i, none⟩ (.bool true)) (fun b => b = ga) := (Chg.refl w8 (fun b => b = ga)).setCell (p := ⟨ga, i, none⟩) (.inl rfl) _
              have hlo : w.heap.size ≤ ga := HGA.out
              exact ⟨k + 1, many + 1, P', O6, hlt, by go_num, by go_num, ⟨L.stay HM8.out.1.at_ hcs fun b ho he => HM8.out.2.far (he ▸ ho), HM8.out.1.lo, HM8.out.1.below.setCell hlo _⟩,
                ⟨by have h := HM8.out.2.blk.set_ i (.bool true); rw [HF.out.2.1] at h; rw [HPM.out]; exact h, HM8.out.2.far⟩, HF.out.1⟩
            case measure => simp [intOf]; omega
      · obtain rfl : k = l.length := by omega
        have hcnt := hp.cnt
        have hNN := hp.N
        clear hf hc
        by_cases hr : 0 ≤ at_ ∧ at_ < 64
        · obtain ⟨n, rfl⟩ := Int.eq_ofNat_of_zero_le hr.1
          have hn : n < 64 := by omega
          have h0 : (0 : Int) ≤ (n : Int) := hr.1
          have h1 : (n : Int) < 64 := hr.2
          have hcv := Go.Joins.run_convert_bytes_const_at (P := Try.prog) wr 37 5 #[.int .u8 120] 1 1 wr.heap.size rfl Try.underlying37 Try.underlying5
          have hb3 : Below wr.heap.size wr (wr.alloc (.cells #[.int .u8 120] 5 (1, 2))) := (Below.refl _ _).alloc (Nat.le_refl _) _
          have m3 := hm.far L hb3
          have a3 := ha.later hb3
          have r3 : RdA (wr.alloc (.cells #[.int .u8 120] 5 (1, 2))) O (some ⟨wr.heap.size, 0, none⟩) (bys [120]) := ⟨rd_newf wr #[.int .u8 120] 5 (1, 2), fun b off e _ ho => by
            simp only [Option.some.injEq, Addr.mk.injEq] at e
            have := L.foot hm.at_ b ho
            omega⟩
          have HP := L.putAt (n : Int) _ 1 [120] hat m3.at_ r3 (by decide) (by omega)
          have HM3 := Lib.hid (And.intro m3 a3)
          have hidx : ((n : Int) < 0 ∨ (64 : Int) ≤ (n : Int)) = False := by simp; omega
          have hz := zeroPtr
          by_cases hin : P.m.is 1 n = true
          · obtain ⟨e1, e2, e3⟩ := putAt_yes (P := P) (i := n) (l := [120]) (by decide) hin
            rw [hp.st] at e2
            rw [e1, e2, e3] at HP
            have HPP := Lib.hid HP
            have hget : getS ⟨P.nw.set n (blockS [120]), P.m, P.st, P.ba, P.N + 1⟩ ((n : Int), 1, (sumS (blockS [120]) : Int)) = (blockS [120], 0) :=
              get_same (hole_ne (by decide)) (by show n < (P.nw.set n _).length; rw [List.length_set, hp.nwl]; exact hn) (by show (P.nw.set n (blockS [120])).getD n zsec = _; rw [getD_set _ _ _ _ (by rw [hp.nwl]; exact hn), if_pos rfl])
            have hok := putq_ok (i := n) (S := sumS (blockS [120])) (by omega) (sum_lt _)
            have HG := Lib.hid (And.intro hget hok)
            have HIN := Lib.hid hin
            clear hget hok HP e1 e2 e3 hin hm ha hb3 m3 a3 r3 hb hp
            generalize (⟨P.nw.set n (blockS [120]), P.m, P.st, P.ba, P.N + 1⟩ : Pw) = P' at *
            obtain ⟨S, hS⟩ : ∃ S : Int, (sumS (blockS [120]) : Int) = S := ⟨_, rfl⟩
            rw [hS] at HPP HG
            clear hS
            go_wp2_with fail
            refine Calls.mono HPP.out ?_
            rintro e w4 ⟨O4, rfl, h4, s4⟩
            have m4 := HM3.out.1.step h4 s4
            have a4 := HM3.out.2.step s4
            have hb5 : Below w4.heap.size w4 (w4.alloc (.cells (pcs (n : Int) 1 S) 32)) := (Below.refl _ _).alloc (Nat.le_refl _) _
            have m5 := m4.far L hb5
            have a5 := a4.later hb5
            have p5 : BlkA (w4.alloc (.cells (pcs (n : Int) 1 S) 32)) O4 w4.heap.size 32 (pcs (n : Int) 1 S) := ⟨Blk.new w4 _ _, fun ho => by have := L.foot m4.at_ _ ho; omega⟩
            have HGet := L.get ((n : Int), 1, S) HG.out.2 m5.at_
            rw [HG.out.1] at HGet
            have HGet := Lib.hid HGet
            have hca := a4.blk.cell n
            rw [b64_at _ n hn, HIN.out] at hca
            have hlta := a4.blk.lt
            have hfa := a4.blk.frozen n
            have HM5 := Lib.hid (And.intro m5 (And.intro a5 p5))
            clear HPP h4 s4 HM3 m4 a4 hb5 m5 a5 p5 hcv
            go_wp2_with fail
            refine Calls.mono HGet.out ?_
            rintro e w6 ⟨O6, rfl, h6, s6⟩
            have m6 := HM5.out.1.step h6 s6
            have p6 := HM5.out.2.2.step s6
            generalize w4.heap.size = gp at *
            have hz : ∀ w, Sem.run Try.prog (zeroValue 23) w = .ok (.agg zsec.cs.toArray) w := zeroSec
            have hn6 : Hid (Blk (w6.alloc (.cells zsec.cs.toArray 23)) w6.heap.size 23 zsec.cs.toArray) := Blk.new _ _ _
            have HM6 := Lib.hid (And.intro m6 p6)
            clear HGet HM5 h6 s6 m6 p6 hca hlta hfa
            go_upto_region 30 with ((with_reducible refine st_sec rfl _ _ rfl w6.heap.size 0 (blockS [120]) rfl rfl hn6.out.secHas ?_); intro w7 hw7)
            have hb7 : Below w6.heap.size w6 w7 := by rw [hw7.out]; exact Below.setCells _ (Nat.le_refl _) _ _ ((Below.refl _ _).alloc (Nat.le_refl _) _)
            have m7 := HM6.out.1.far L hb7
            have p7 := HM6.out.2.later hb7
            have x7 : Hid (Blk w7 w6.heap.size 23 (blockS [120]).cs.toArray) := by rw [hw7.out]; exact hn6.out.secAll _
            have hp0 : w7.cell? ⟨gp, 0, none⟩ = some (.int .i64 (n : Int)) := p7.blk.cell 0
            have hfp := p7.blk.frozen 0
            have b7 := Lib.hid m7.below
            have hsame : Hid ((blockS [120]).same (blockS [120]) = true) := (blockS [120]).same_self
            clear hw7 hn6 HM6 hb7 hz m7 p7
            generalize w6.heap.size = gx at *
            go_wp2_with (first
              | (refine wpList_valD 117 rfl _ (ex_ldS (.tmp 16) rfl gx (blockS [120]) rfl x7.out) (by rfl) ?_)
              | (refine wpList_valD 118 rfl _ (ex_build1 (.const (.int .u8 120)) rfl _ rfl (blockS [120]) build120) (by rfl) ?_)
              | (refine wpList_valD 119 rfl _ (ex_eqS (.tmp 117) (.tmp 118) rfl (blockS [120]) (blockS [120]) rfl rfl) (by rfl) ?_; rw [hsame.out]))
            go_ret
            exact ⟨rfl, b7.out⟩
          · have e1 : putAtC P (n : Int) [120] = 72 := by
              unfold putAtC
              rw [if_neg (by decide), if_neg (by rintro ⟨_, h⟩; exact hin (by simpa using h))]
            obtain ⟨e2, e3⟩ := putAt_no (P := P) (i := (n : Int)) (l := [120]) (by rw [e1]; decide)
            rw [e1, e2, e3] at HP
            have HPP := Lib.hid HP
            have HIN := Lib.hid (Bool.eq_false_iff.2 hin)
            clear HP e1 e2 e3 hin hm ha hb3 m3 a3 r3 hb hp
            go_wp2_with fail
            refine Calls.mono HPP.out ?_
            rintro e w4 ⟨O4, rfl, h4, s4⟩
            have m4 := HM3.out.1.step h4 s4
            have a4 := HM3.out.2.step s4
            have hca := a4.blk.cell n
            rw [b64_at _ n hn, HIN.out] at hca
            have hlta := a4.blk.lt
            have hfa := a4.blk.frozen n
            have hb5 : Hid (Below w4.heap.size w4 (w4.alloc (.cells (pcs 0 0 0) 32))) := (Below.refl _ _).alloc (Nat.le_refl _) _
            have b4 := Lib.hid (m4.far L hb5.out).below
            clear HPP h4 s4 HM3 m4 a4 hcv
            go_wp2_with fail
            go_ret
            exact ⟨rfl, b4.out⟩
        · have hn0 : at_ < 0 ∨ 63 < at_ := by omega
          have b4 := Lib.hid hm.below
          obtain ⟨_, _⟩ := hat
          rcases hn0 with h | h
          all_goals
            go_wp2_with fail
            go_ret
            exact ⟨rfl, b4.out⟩
  · have hl' : (80 : Int) < (l.length : Int) := by omega
    go_wp2_with fail
    go_ret
    exact ⟨rfl, b1⟩
end
end Go.Proofs.Ytddhacmaogaocaa
