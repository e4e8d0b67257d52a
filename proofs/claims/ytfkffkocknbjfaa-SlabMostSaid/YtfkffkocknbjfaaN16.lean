/- A map's calls walked: Many; all of them together. -/
import Derived.Test.YtfkffkocknbjfaaN11
import Derived.Test.YtfkffkocknbjfaaN14
import Derived.Test.YtfkffkocknbjfaaN15
set_option maxRecDepth 10000
namespace Go.Proofs.Ytfkffkocknbjfaa
open Go.RowKit

theorem natI_snoc (l : List Nat) (i : Nat) : natI (l ++ [i]) = natI l ++ [(i : Int)] := by simp [natI]
theorem natI_len (l : List Nat) : (natI l).length = l.length := by simp [natI]
theorem many_no {m : Mp} {n : Int} (h : (m.count : Int) < n) : manyL m n = [] ∧ manyC m n = 71 ∧ manyM m n = m := by
  unfold manyL manyC manyM Mp.many
  rw [if_pos h]
  exact ⟨rfl, rfl, rfl⟩
theorem many_yes {m : Mp} {n : Int} (h : ¬ (m.count : Int) < n) : manyL m n = (m.gives n.toNat).1 ∧ manyC m n = 0 ∧ manyM m n = (m.gives n.toNat).2 := by
  unfold manyL manyC manyM Mp.many
  rw [if_neg h]
  exact ⟨rfl, rfl, rfl⟩
section
variable {w : World} {O : Nat → Prop} {g : Nat} {m : Mp}
set_option maxHeartbeats 2000000 in
theorem many_any (n : Int) (hn : I64 n) (h : MapAt w O g m) : Calls Try.prog 12 #[.pointer (some ⟨g, 0, none⟩), .int .i64 n] w fun e w' => ∃ A c, e = .returned (.tuple #[.slice A (natI (manyL m n)).length c, .int .i64 (manyC m n)]) ∧ MapAt w' O g (manyM m n) ∧ RdF w w' O A (ints (natI (manyL m n))) ∧ Step w w' O O := by
  have HC := Lib.hid (count_any h)
  have HH := Lib.hid h
  obtain ⟨hn1, hn2⟩ := hn
  have HCL := Lib.hid (count_le m)
  by_cases hm : (m.count : Int) < n
  · obtain ⟨e1, e2, e3⟩ := many_no hm
    rw [e1, e2, e3]
    clear h e1 e2 e3
    generalize m.count = q at *
    go_enter Try.func12, Try.ntmps12
    go_wp2_with fail
    refine Calls.mono HC.out ?_
    rintro e w1 ⟨rfl, hb1⟩
    go_wp2_with fail
    refine bodyPost_ret (results_tmp2 rfl _ _ _) rfl ?_
    exact ⟨none, 0, rfl, (HH.out.quiet hb1).1, ⟨⟨Rd.nil, fun _ _ e => by cases e⟩, fun _ _ e => by cases e⟩, (HH.out.quiet hb1).2⟩
  · obtain ⟨e1, e2, e3⟩ := many_yes hm
    rw [e1, e2, e3]
    clear h e1 e2 e3
    have HG := Lib.hid (fun (k : Nat) (hk : (k : Int) ≤ max 0 n) => gave m k (by omega))
    have HX := Lib.hid (fun (k : Nat) (hk : (k : Int) < n) => gives_next (m := m) (n := k) (by omega))
    obtain ⟨q, hq⟩ : ∃ q, q = m.count := ⟨_, rfl⟩
    rw [← hq] at hm HC HCL
    clear hq
    go_enter Try.func12, Try.ntmps12
    go_wp2_with fail
    refine Calls.mono HC.out ?_
    rintro e w1 ⟨rfl, hb1⟩
    go_wp2_with fail
    go_loopw [6, 14] (fun v i wr => ∃ (k : Nat), (k : Int) ≤ max 0 n ∧ i = .int .i64 k ∧ OwnI wr w.heap.size v (natI (m.gives k).1) ∧ MapAt wr O g (m.gives k).2 ∧ Chg w wr O) (fun _ i _ => (n - intOf i).toNat)
    case atStart => exact ⟨0, by omega, rfl, World.ownsRow_nil _ _ _ _, HH.out.far hb1, Chg.of_below hb1⟩
    case round =>
      obtain ⟨k, hk, rfl, hown, hat, hc⟩ := hrel
      have hsz := hc.size
      have hgl : g < w.heap.size := HH.out.blk.lt
      have hlen := (HG.out k hk).len
      have hk10 : k ≤ 1024 := by have := HCL.out; omega
      by_cases hlt : (k : Int) < n
      · obtain ⟨i, hi⟩ := HX.out k hlt
        have hstep := gives_succ hi
        have HA : Hid (Calls Try.prog 23 #[.pointer (some ⟨g, 0, none⟩)] wr fun e w' => e = .returned (.tuple #[.int .i64 (i : Int), .int .i64 0]) ∧ MapAt w' O g ((m.gives k).2.put i 1) ∧ Step wr w' O O) := by
          have := alloc_any hat
          have e1 : nextN (m.gives k).2 = i ∧ nextC (m.gives k).2 = 0 ∧ nextM (m.gives k).2 = (m.gives k).2.put i 1 := by unfold nextN nextC nextM; rw [hi]; exact ⟨rfl, rfl, rfl⟩
          rw [e1.1, e1.2.1, e1.2.2] at this
          exact Lib.hid this
        have HS1 : Hid (natI (m.gives (k + 1)).1 = natI (m.gives k).1 ++ [(i : Int)]) := by rw [hstep]; exact natI_snoc _ _
        have HS2 : Hid ((m.gives (k + 1)).2 = (m.gives k).2.put i 1) := by rw [hstep]; exact rfl
        have HL : Hid ((natI (m.gives k).1).length ≤ 1048576) := by rw [natI_len, hlen]; exact Nat.le_trans hk10 (by omega)
        have HO := Lib.hid hown
        have HK := Lib.hid (And.intro hk hk10)
        have hk9 : (k : Int) ≤ 1024 := by omega
        clear hstep hi hat hown hk hk10 hlen
        generalize natI (m.gives k).1 = L at *
        go_wp2_with fail
        refine Calls.mono HA.out ?_
        rintro e w2 ⟨rfl, hat2, hs2⟩
        have hc2 := hc.trans hs2.chg fun _ _ => id
        have hsz2 := hc2.size
        have HO2 : Hid (OwnI w2 w.heap.size _ L) := Lib.hid (own_chg HO.out hs2.chg fun b hb ho => by
          have := (HO.out.lt b hb).1
          have := (HH.out.own b).1 ho
          omega)
        clear HA HO
        go_wp2_with (at_builtin; refine app_int rfl 21 23 rfl w.heap.size _ L rfl HO2.out (i : Int) rfl hsz2 HL.out ?_; intro v' w' hown' hgr)
        go_roundw
        case rel =>
          have hc3 : Chg w2 w' (fun b => u6.ownBlock = some b) := ((Chg.refl w2 _).alloc _).grown hgr fun _ hk => .inl hk
          exact ⟨k + 1, by have := HK.out; omega, by go_num, by rw [HS1.out]; exact hown', by
            rw [HS2.out]
            exact hat2.stay hc3 fun b ho hb => by
              have := (HO2.out.lt b hb).1
              have := (HH.out.own b).1 ho
              omega, hc2.trans hc3 fun b hb ho => by
              have := (HO2.out.lt b ho).1
              omega⟩
        case measure => simp [intOf]; omega
      · have hkn : n.toNat = k ∨ (n < 0 ∧ k = 0) := by omega
        have he : m.gives n.toNat = m.gives k := by
          rcases hkn with e | ⟨e1, e2⟩
          · rw [e]
          · rw [e2, show n.toNat = 0 by omega]
        obtain ⟨A, c, hv, hr, _⟩ := own_rd hown
        have HO := Lib.hid hown
        subst hv
        have HE := Lib.hid he
        clear he hkn hown
        go_wp2_with fail
        refine bodyPost_ret (results_tmp2 rfl _ _ _) rfl ?_
        rw [HE.out]
        refine ⟨A, ⟨c, rfl⟩, hat, ⟨⟨hr, fun b off e hp ho => ?_⟩, fun b off e hp => ?_⟩, hc, fun _ h => .inl h⟩
        all_goals
          rw [ints_len] at hp
          obtain ⟨g2, cap2, e2, hN, _⟩ := own_form HO.out hp
          rw [e] at e2
          simp only [Value.slice.injEq, Option.some.injEq, Addr.mk.injEq] at e2
        · have := (HH.out.own b).1 ho
          omega
        · omega
theorem slabCalls : SlabCalls MapAt where
  foot h := h.foot
  small h := ⟨h.tot, h.two⟩
  stay h := h.stay
  new := new_any
  take i hi h := (take_any i hi h).mono fun _ _ k => ⟨_, k⟩
  free i hi h := (free_any i hi h).mono fun _ _ k => ⟨_, k⟩
  later i hi h := (later_any i hi h).mono fun _ _ k => ⟨_, k⟩
  commit h := (commit_any h).mono fun _ _ k => ⟨_, k⟩
  count h := (count_any h).mono fun _ _ k => ⟨_, k.1, h.quiet k.2⟩
  room i hi h := (room_any i hi h).mono fun _ _ k => ⟨_, k.1, h.quiet k.2⟩
  alloc h := (alloc_any h).mono fun _ _ k => ⟨_, k⟩
  many n hn h := (many_any n hn h).mono fun _ _ ⟨A, c, k⟩ => ⟨_, A, c, k⟩
  taken h := (taken_any h).mono fun _ _ ⟨A, c, e, r, b⟩ => ⟨_, A, c, e, (h.quiet b).1, r, (h.quiet b).2⟩
  waiting h := (waiting_any h).mono fun _ _ ⟨A, c, e, r, b⟩ => ⟨_, A, c, e, (h.quiet b).1, r, (h.quiet b).2⟩
  copy h := (copy_any h).mono fun _ _ ⟨O2, g2, e, h1, h2, h3, b⟩ => ⟨_, O2, g2, e, h1, h2, fun k hk => ⟨h3 k hk, fun ho => by have := h.foot k ho; have := h3 k hk; omega⟩, (h.quiet b).2⟩
end
end Go.Proofs.Ytfkffkocknbjfaa
