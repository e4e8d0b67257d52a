/- The texts M8 M9 M10 M11. -/
import Derived.Test.YtdcegkeaopjbnaaMB
set_option maxRecDepth 10000
namespace Go.Proofs.Ytdcegkeaopjbnaa

section
open Go.RowKit Go.Shelf
attribute [local go_sem] Oper.semAt_some

def lpart (L : List PtrV) (x : Nat) : List PtrV := (L.drop (8 * x)).take 8
def nodeT (L : List PtrV) (x : Nat) : List UInt8 := (nbS (group8 L x)).l
theorem lpart_len (L : List PtrV) (x : Nat) : (lpart L x).length = min 8 (L.length - 8 * x) := by simp [lpart]
theorem lpart_le (L : List PtrV) (x : Nat) : (lpart L x).length ≤ 8 := by rw [lpart_len]; omega
theorem nodeT_len (L : List PtrV) (x : Nat) : (nodeT L x).length = 128 := (nbS _).h
theorem group8_l (L : List PtrV) (x : Nat) : (group8 L x).l = lpart L x ++ List.replicate (8 - (lpart L x).length) hole0 := by
  refine List.ext_getElem? fun j => ?_
  by_cases h8 : j < 8
  · have h1 : (group8 L x).l[j]? = some (L.getD (8 * x + j) hole0) := by simp [group8, h8]
    rw [h1]
    by_cases h2 : j < (lpart L x).length
    · rw [List.getElem?_append_left h2]
      have h3 : 8 * x + j < L.length := by rw [lpart_len] at h2; omega
      simp [lpart, h8, List.getElem?_drop, List.getElem?_eq_getElem h3, List.getD]
    · rw [List.getElem?_append_right (by omega), List.getElem?_replicate, if_pos (by have := lpart_le L x; omega)]
      have h3 : L.length ≤ 8 * x + j := by rw [lpart_len] at h2; omega
      simp [List.getD, List.getElem?_eq_none h3]
  · rw [List.getElem?_eq_none (by rw [(group8 L x).h]; omega), List.getElem?_eq_none (by rw [List.length_append, List.length_replicate]; have := lpart_le L x; omega)]
theorem pqs_app (a b : List PtrV) : pqs (a ++ b) = pqs a ++ pqs b := by simp [pqs]
theorem group8_cs (L : List PtrV) (x : Nat) : (group8 L x).cs = pqs (lpart L x) ++ pqs (List.replicate (8 - (lpart L x).length) hole0) := by
  show pqs (group8 L x).l = _
  rw [group8_l, pqs_app]
theorem zp8_cs (n : Nat) (hn : n ≤ 8) : zp8.cs = pqs (List.replicate n hole0) ++ pqs (List.replicate (8 - n) hole0) := by
  show pqs (List.replicate 8 hole0) = _
  rw [← pqs_app, List.replicate_append_replicate, show n + (8 - n) = 8 by omega]
theorem Blk.group {w : World} {b : Nat} {t : TypeId} (h : Blk w b t zp8.cs.toArray) (L : List PtrV) (x : Nat) : Blk (w.setCells b 0 (pqs (lpart L x))) b t (group8 L x).cs.toArray := by
  have hle := lpart_le L x
  refine h.setTo _ _ (by rw [pqs_len, List.size_toArray, P8.cs_len]; omega) fun i => ?_
  rw [List.getElem?_toArray, List.getElem?_toArray, group8_cs, zp8_cs _ hle]
  by_cases hi : i < (pqs (lpart L x)).length
  · rw [if_pos ⟨Nat.zero_le _, by omega⟩, List.getElem?_append_left hi, Nat.sub_zero]
  · rw [if_neg (by omega), List.getElem?_append_right (by omega), List.getElem?_append_right (by rw [pqs_len, List.length_replicate]; rw [pqs_len] at hi; omega), pqs_len, pqs_len, List.length_replicate]
theorem run_copy_cells3 {P : Program} (w : World) (dT sT ty elem : TypeId) (b o dLen dCap : Nat) (a : Addr) (sLen sCap n : Nat) (cs : List Value)
    (hu : P.underlying dT = some (.slice elem)) (hs : (P.info? elem).map (·.size) = some 3) (hm : Nat.min sLen dLen = n) (hn : cs.length = n * 3)
    (hsrc : ∀ j v, cs[j]? = some v → w.cell? (a.add j) = some v) (hc : ∀ j, j < cs.length → (w.cell? ⟨b, o + j, none⟩).isSome = true) (hf : ∀ j, j < cs.length → w.frozen? ⟨b, o + j, none⟩ = false) (h1 : ∀ v ∈ cs, v.oneCell' = true) :
    (Builtin.copy_ #[dT, sT] ty #[.slice (some ⟨b, o, none⟩) dLen dCap, .slice (some a) sLen sCap]).run P w = .ok (goInt n) (w.setCells b o cs) := by
  have hl := run_loadCells_list (P := P) w a cs hsrc
  have hst := run_storeCells_cells (P := P) b o cs 0 w (by simpa using hc) (by simpa using hf) h1
  rw [hn] at hl
  cases hq : P.info? elem with
  | none => simp [hq] at hs
  | some i =>
    have hi : i.size = 3 := by simpa [hq] using hs
    simp [Builtin.copy_, run_underlying hu, Builtin.lenOf, Builtin.firstCells, sizeOf, typeInfo, hq, hi, hm, hl, hst]
theorem infoP3 : (Try.prog.info? 25).map (·.size) = some 3 := by kernel_rfl
/-- copy of pointers into eight holes. -/
theorem cp_p8 {ops : Array Oper} {rest : List Oper} {o : Oper} {a : Act} {w : World} {Q : Exit → Act → World → Prop} (hgd : o.guard = none) (x y : Operand)
    (ho : o.op = .call { callee := .builtin .copy, args := #[x, y], argTypes := #[40, 40] }) (g b off i c' : Nat) (t : TypeId) (L : List PtrV)
    (hx : a.eval x = .slice (some ⟨g, 0, none⟩) 8 8) (hy : a.eval y = .slice (some ⟨b, off, none⟩) (lpart L i).length c') (hB : Blk w g t zp8.cs.toArray) (hr : ∀ j v, (pqs (lpart L i))[j]? = some v → w.cell? ⟨b, off + j, none⟩ = some v)
    (h : ∀ w', Blk w' g t (group8 L i).cs.toArray → Chg w w' (· = g) → ∀ v, wpList Try.prog ops Q rest (a.put o.dst v) w') : wpList Try.prog ops Q (o :: rest) a w := by
  have hle := lpart_le L i
  have ht := hB.there 0 ((lpart L i).length * 3) (by rw [List.size_toArray, P8.cs_len]; omega)
  have hrun := run_copy_cells3 (P := Try.prog) w 40 40 o.type 25 g 0 8 8 ⟨b, off, none⟩ (lpart L i).length c' (lpart L i).length (pqs (lpart L i)) Try.underlying40 infoP3 (Nat.min_eq_left hle) (pqs_len _)
    (fun j v hv => by rw [Addr.add_mid]; exact hr j v hv) (fun j hj => (ht j (by rwa [pqs_len] at hj)).1) (fun j hj => (ht j (by rwa [pqs_len] at hj)).2) pqs_one
  refine wpList_plain hgd fun _ hK => ?_
  unfold Oper.wp execOp
  simp only [ho, resolve, invoke, builtin, Sem.run_bind, Sem.run_pure, Result.andThen_ok, List.map_toArray, List.map_cons, List.map_nil, hx, hy, hrun]
  exact hK _ _ (h _ (hB.group L i) (Chg.setCells (O := (· = g)) (.inl rfl) _ _ (Chg.refl _ _)) _)
theorem run_wholeP8 (g : Nat) (w : World) :
    (Instr.sliceAt 84 (.pointer (some ⟨g, 0, none⟩)) none none none).run Try.prog w = .ok (.slice (some ⟨g, 0, none⟩) 8 8) w := by
  have e1 : Try.prog.arrayLen 84 = 8 := by simp [Program.arrayLen, Try.underlying84]
  have e2 : Try.prog.elem 84 = 25 := by simp [Program.elem, Try.underlying84]
  have e3 : (sizeOf 25).run Try.prog w = .ok 3 w := by
    have := infoP3
    cases hq : Try.prog.info? 25 with
    | none => rw [hq] at this; cases this
    | some i => rw [hq] at this; simp only [Option.map_some, Option.some.injEq] at this; simp [sizeOf, typeInfo, hq, this]
  rw [run_sliceAt_array_all w _ ⟨g, 0, none⟩ (by simp [Program.arrayLen, Program.elem, Try.underlying84]), e2, e3]
  simp only [Result.andThen_ok, slicedAt, e1, Nat.zero_mul]
  rw [if_neg (by omega), addr_flat, Nat.zero_add]
theorem nodeBytes_ok {L : List PtrV} (h : RightL L) (x : Nat) (w : World) : Calls Try.prog 39 #[.agg (group8 L x).cs.toArray] w fun e w' => e = .returned (.tuple #[.agg (nbS (group8 L x)).cs.toArray, .int .i64 0]) ∧ Below w.heap.size w w' := by
  obtain ⟨h1, h2⟩ := group8_ok h x
  have := nnbytes_any (group8 L x) h1 w
  rw [nbC_iff.2 h2] at this
  exact this
end
section
open Go.RowKit Go.Shelf
attribute [local go_sem] Oper.semAt_some

theorem chunkP_stops (n : Nat) (hn : 1 ≤ n) (b1 b2 len c : Nat) (A : Option Addr) (hlen : len ≤ 600) (hc : len ≤ c) (w : World) (h1 : Blk w b1 40 #[.slice A len c]) (h2 : Blk w b2 3 #[.int .i64 8]) :
    SeqStopsK Fence.wide n Try.prog 51 #[.pointer (some ⟨b1, 0, none⟩), .pointer (some ⟨b2, 0, none⟩)] (fun x : Nat => #[cutV A len 8 3 x]) (Kp2 b1 b2) (fun ys => ys = List.range ((len + 7) / 8)) (fun pre => pre <+: List.range ((len + 7) / 8)) ((len + 7) / 8) w :=
  fun l J Jx W hW hJ _ hY h0 => chunkP1_in n hn l b1 b2 len c A hlen hc J Jx W hJ hY (h1.below hW h1.lt) (h2.below hW h2.lt) h0
theorem put_whole {V' : World} {O' : Nat → Prop} {g : Nat} {Pc : Pw} (i : Nat) (hi : i < 1024) (gs : Nat) (l : List PtrV) (x : Nat) (h' : PileAt V' O' g Pc) (hr : RdA V' O' (some ⟨gs, 0, none⟩) (bys (nodeT l x))) (hN : Pc.N ≤ 1000000) (hc : putAtC Pc (i : Int) (nodeT l x) = 0) :
    Calls Try.prog 37 #[.pointer (some ⟨g, 0, none⟩), .int .i64 (i : Int), .slice (some ⟨gs, 0, none⟩) 128 128] V' fun e w' => ∃ O'', e = .returned (.tuple #[ptq (putAtQ Pc (i : Int) (nodeT l x)), .int .i64 0]) ∧ PileAt w' O'' g (putAtP Pc (i : Int) (nodeT l x)) ∧ Step V' w' O' O'' := by
  have := pilePutAt (i : Int) (by unfold I64; omega) _ 128 (nodeT l x) h' hr (by rw [nodeT_len]; omega) hN
  rw [hc, nodeT_len] at this
  exact this
theorem part_at {w V' : World} {O O' : Nat → Prop} {b off : Nat} {l : List PtrV} (hb : b < w.heap.size) (hn : ¬ O b) (hc : ∀ j v, (pqs l)[j]? = some v → w.cell? ⟨b, off + j, none⟩ = some v) (x : Nat) (st : Step w V' O O') :
    ∀ j v, (pqs (lpart l x))[j]? = some v → V'.cell? ⟨b, off + 8 * x * 3 + j, none⟩ = some v := fun j v hv => by
  rw [st.chg.cell hb hn, Nat.add_assoc]
  refine hc _ v ?_
  have h1 : pqs l = pqs (l.take (8 * x)) ++ (pqs (lpart l x) ++ pqs ((l.drop (8 * x)).drop 8)) := by
    rw [← pqs_app, ← pqs_app]
    unfold lpart
    rw [List.take_append_drop, List.take_append_drop]
  have hj := (List.getElem?_eq_some_iff.1 hv).1
  have hx : 8 * x < l.length := by
    rw [pqs_len, lpart_len] at hj
    omega
  have h2 : (pqs (l.take (8 * x))).length = 8 * x * 3 := by rw [pqs_len, List.length_take, Nat.min_eq_left (by omega)]
  rw [h1, List.getElem?_append_right (by omega), h2, Nat.add_sub_cancel_left, List.getElem?_append_left hj]
  exact hv
theorem cutV_part (b off : Nat) (l : List PtrV) (x : Nat) : cutV (some ⟨b, off, none⟩) l.length 8 3 x = .slice (some ⟨b, off + 8 * x * 3, none⟩) (lpart l x).length (lpart l x).length := by
  rw [lpart_len]
  simp [cutV, addr_flat]
section
variable {w : World} {O : Nat → Prop} {g : Nat} {P : Pw}
set_option maxRecDepth 100000 in
set_option maxHeartbeats 4000000 in
theorem putNodes_any (h : PileAt w O g P) (A A2 : Option Addr) (c c2 : Nat) (l : List PtrV) (at_ : List Nat) (hl : 1 ≤ l.length ∧ l.length ≤ 512) (hc : l.length ≤ c) (hk : (l.length + 7) / 8 ≤ at_.length) (hat : ∀ i ∈ at_, P.m.is 1 i = true)
    (hr : RdA w O A (pqs l)) (hr2 : RdA w O A2 (ints (natI at_))) (hN : P.N ≤ 901200) (hRL : RightL l) :
    Calls Try.prog 21 #[.pointer (some ⟨g, 0, none⟩), .slice A l.length c, .slice A2 at_.length c2] w fun e w' => ∃ O' A' d, (e = .returned (.tuple #[.slice A' ((l.length + 7) / 8) d, .int .i64 0]) ∧ (l.length + 7) / 8 ≤ d) ∧ PileAt w' O' g (putsP P (at_.zip ((List.range ((l.length + 7) / 8)).map (nodeT l)))) ∧
      RdF w w' O' A' (pqs (putsQ P.st (at_.zip ((List.range ((l.length + 7) / 8)).map (nodeT l))))) ∧ Step w w' O O' := by
  obtain ⟨W, hW, hsz, h7⟩ := pi_seven h 29 35 40 26 40 3 #[.pointer (some ⟨g, 0, none⟩)] #[.slice A2 at_.length c2] #[.slice none 0 0] #[.int .i64 0] #[.slice A l.length c] #[.int .i64 8]
  have H7 := Lib.hid (And.intro hW (And.intro hsz h7))
  have HR := Lib.hid (And.intro hr hr2)
  have HA := Lib.hid (And.intro hl (And.intro hc (And.intro hk (And.intro hat hN))))
  have HRL := Lib.hid hRL
  clear hRL h hW hsz h7 hr hr2 hl hc hk hat hN
  refine (callsIn_wide (n := 4)).1 ?_
  refine callsIn_of_wp_marks Try.func21 rfl trivial ?_ rfl
  simp only [Try.ntmps21, List.size_toArray, List.length_cons, List.length_nil, Nat.reduceAdd, Nat.reduceSub, Array.replicate_succ, Array.replicate_zero, List.push_toArray, List.append_toArray, List.nil_append, List.cons_append]
  gi_wp2_with fail
  refine ⟨trivial, (callsIn_wide.2 (chunkP_any A l.length c _)).mono ?_⟩
  rintro e w' ⟨rfl, rfl⟩
  gi_wp2_with fail
  simp only [Nat.add_assoc, Nat.reduceAdd]
  rw [← H7.out.1]
  have HI : Hid (PI w O g _ _ _ W O P _ _ _) := Lib.hid H7.out.2.2
  have HS : Hid (W.heap.size = w.heap.size + 7) := Lib.hid H7.out.2.1
  clear H7
  generalize w.heap.size = s0 at *
  refine wpIn_rangeFunc_ownG rfl (by omega) (gf := 51) (lb := #[.pointer (some ⟨s0 + 5, 0, none⟩), .pointer (some ⟨s0 + 6, 0, none⟩)]) rfl trivial (enters_of Try.func51 (by kernel_rfl) rfl)
    (chunkP_stops 3 (by omega) (s0 + 5) (s0 + 6) l.length c A (by have := HA.out.1.2; omega) HA.out.2.1 W (HI.out.box (x := (s0 + 5, 40, #[.slice A l.length c])) (by simp)) (HI.out.box (x := (s0 + 6, 3, #[.int .i64 8])) (by simp))) kp2_t (kp2_b (by have := HS.out; omega) (by have := HS.out; omega)) (Below.refl _ _) (fun _ => rfl)
    (fun pre V => ∃ O1 v, PI w O g (s0 + 4) (s0 + 7) [(s0, 29, #[.pointer (some ⟨g, 0, none⟩)]), (s0 + 1, 35, #[.slice A2 at_.length c2]), (s0 + 2, 40, #[.slice none 0 0]), (s0 + 3, 26, #[.int .i64 0]), (s0 + 5, 40, #[.slice A l.length c]), (s0 + 6, 3, #[.int .i64 8])] V O1 (putsP P (at_.zip (pre.map (nodeT l)))) v v (putsQ P.st (at_.zip (pre.map (nodeT l)))))
    (fun _ _ _ => False)
    (fun pre V V' row hs hg hr => by
      obtain ⟨O1, v, hs⟩ := hs
      exact ⟨O1, v, hs.turn hg fun r e => ⟨by have := (hr r e).1; have := HI.out.lo; have := HS.out; omega, (hr r e).2⟩⟩)
    (fun _ _ _ _ _ hs _ _ => hs)
    ⟨O, _, by simpa [putsP, putsQ] using HI.out⟩
    (fun x => { tmps := #[.pointer (some ⟨g, 0, none⟩), .slice A l.length c, .slice A2 at_.length c2, .pointer (some ⟨s0, 0, none⟩), undef, .pointer (some ⟨s0 + 1, 0, none⟩), .pointer (some ⟨s0 + 2, 0, none⟩), .pointer (some ⟨s0 + 3, 0, none⟩), .pointer (some ⟨s0 + 4, 0, none⟩), cutV A l.length 8 3 x, undef, undef, undef, undef, .slice A l.length c, .func (.func 51) #[] #[.pointer (some ⟨s0 + 5, 0, none⟩), .pointer (some ⟨s0 + 6, 0, none⟩)], cutV A l.length 8 3 x, undef, undef, undef, undef, undef, undef, undef, undef, undef, undef, undef, undef, undef, undef, undef, undef, undef, undef, undef, undef, undef, undef, undef, undef, undef, undef, undef, undef, undef, undef], defers := [] }) ?assign ?body ?done ?stop
  case assign =>
    intro l0 x V K hK
    gi_wp2
    exact hK
  case body =>
    rintro l0 pre x V ⟨O1, v, hI⟩ hlt
    have hkl : pre.length < at_.length := Nat.lt_of_lt_of_le hlt HA.out.2.2.1
    obtain ⟨pm, pst, pnw, pN⟩ := puts_was _ (zip_ok HA.out.2.2.2.1 (D := nodeT l) (fun y => Nat.le_of_eq (nodeT_len l y)) pre)
    rw [zip_len at_ (nodeT l) pre (Nat.le_of_lt hkl)] at pN
    have hZ := zip_snoc at_ (nodeT l) pre x hkl
    have hT := HA.out.2.2.2.1 _ (List.getElem_mem hkl)
    obtain ⟨b, off, rfl, hbw, hcw⟩ := HR.out.2.rd (by rw [ints_len, natI_len]; omega)
    have hnb := HR.out.2.apart b off rfl (by rw [ints_len, natI_len]; omega)
    have hcT := hcw pre.length _ (ints_natI_at hkl)
    rw [← pm] at hT
    have hTs := hI.sta.at_.small hT
    obtain ⟨yc, yq, yp⟩ := putAt_yes (P := putsP P (at_.zip (pre.map (nodeT l)))) (i := at_[pre.length]) (l := nodeT l x) (by rw [nodeT_len]; omega) hT
    have hL : (putsQ P.st (at_.zip (pre.map (nodeT l)))).length = pre.length := by rw [putsQ_len, zip_len _ _ _ (Nat.le_of_lt hkl)]
    have hEP : putsP P (at_.zip ((pre ++ [x]).map (nodeT l))) = putAtP (putsP P (at_.zip (pre.map (nodeT l)))) (at_[pre.length] : Int) (nodeT l x) := by rw [hZ, puts_snoc]
    have hEQ : putsQ P.st (at_.zip ((pre ++ [x]).map (nodeT l))) = putsQ P.st (at_.zip (pre.map (nodeT l))) ++ [putAtQ (putsP P (at_.zip (pre.map (nodeT l)))) (at_[pre.length] : Int) (nodeT l x)] := by rw [hZ, putsQ_snoc, yq, pst]
    have HE := Lib.hid (And.intro hEP hEQ)
    have hNN : (putsP P (at_.zip (pre.map (nodeT l)))).N ≤ 1000000 := by rw [pN]; have := HA.out.2.2.2.2; have := HA.out.1.2; omega
    obtain ⟨bA, oA, rfl, hbA, hcA⟩ := HR.out.1.rd (by rw [pqs_len]; have := HA.out.1.1; omega)
    have hnA := HR.out.1.apart bA oA rfl (by rw [pqs_len]; have := HA.out.1.1; omega)
    have HP := Lib.hid fun V' O' gs (h' : PileAt V' O' g (putsP P (at_.zip (pre.map (nodeT l))))) (hr' : RdA V' O' (some ⟨gs, 0, none⟩) (bys (nodeT l x))) => put_whole at_[pre.length] hTs gs l x h' hr' hNN yc
    have HB := Lib.hid fun V' => nodeBytes_ok HRL.out x V'
    have HCA := Lib.hid fun V' O' (st : Step w V' O O') => part_at hbA hnA hcA x st
    rw [cutV_part]
    generalize at_[pre.length] = T at *
    generalize putAtQ (putsP P (at_.zip (pre.map (nodeT l)))) (T : Int) (nodeT l x) = q at *
    generalize putAtP (putsP P (at_.zip (pre.map (nodeT l)))) (T : Int) (nodeT l x) = Pn at *
    generalize putsP P (at_.zip (pre.map (nodeT l))) = Pc at *
    generalize putsQ P.st (at_.zip (pre.map (nodeT l))) = L at *
    rw [← hL] at hkl hcT
    obtain ⟨Av, cv, rfl, _, _⟩ := own_rd hI.row.own
    have HL : Hid (L.length ≤ 600) := Lib.hid (by have := HA.out.1; omega)
    have HC : Hid (∀ V' O', Step w V' O O' → V'.cell? ⟨b, off + L.length, none⟩ = some (.int .i64 (T : Int))) := Lib.hid fun V' O' st => (st.chg.cell hbw hnb _).trans hcT
    have hki : (L.length : Int) < (at_.length : Int) := by omega
    have HX := Lib.hid (PJ.first W.heap.size hI)
    have HV := Lib.hid hI
    clear hI hlt pm pst pnw pN hZ hT hcw hnb hcT hTs yc yq yp hEP hEQ hNN hL hkl hbw hbA hcA hnA
    obtain ⟨q1, q2, q3⟩ := q
    have hz8 : ∀ w, Sem.run Try.prog (zeroValue 84) w = .ok (.agg zp8.cs.toArray) w := zeroP8
    have hzs : ∀ w, Sem.run Try.prog (zeroValue 46) w = .ok (.agg zsec.cs.toArray) w := zeroSec
    have hsl8 : ∀ g w, (Instr.sliceAt 84 (.pointer (some ⟨g, 0, none⟩)) none none none).run Try.prog w = .ok (.slice (some ⟨g, 0, none⟩) 8 8) w := run_wholeP8
    have hsls : ∀ g w, (Instr.sliceAt 46 (.pointer (some ⟨g, 0, none⟩)) none none none).run Try.prog w = .ok (.slice (some ⟨g, 0, none⟩) 128 128) w := run_wholeSec
    gi_wp2_with (refine wpListIn_of (fun ⟨_, _, h⟩ => h) _ (by kernel_rfl) _ _ ?_)
    go_wp2_with fail
    have HY := Lib.hid (HX.out.new 84 zp8.cs.toArray)
    have HG8 : Hid (s0 + 7 ≤ V.heap.size) := Lib.hid HX.out.2.lo.2
    have HX8 : Hid (V.heap.size < (V.alloc (.cells zp8.cs.toArray 84)).heap.size) := Lib.hid (by simp)
    clear HX
    generalize V.alloc (.cells zp8.cs.toArray 84) = Va at *
    generalize V.heap.size = g8 at *
    gi_wp2_with (refine wpListIn_of (fun ⟨_, _, h⟩ => h) _ (by kernel_rfl) _ _ ?_)
    go_wp2_with (refine cp_p8 rfl (.tmp 17) (.tmp 18) rfl g8 bA _ x _ 84 l rfl rfl (HY.out.2.box (x := (g8, 84, zp8.cs.toArray)) (by simp)) (HCA.out _ _ HY.out.2.sta.st) ?_; intro V1 hB1 hc1 vcp)
    have HZ := Lib.hid (HY.out.put (by have := HG8.out; simp; omega) hB1 hc1)
    have HX9 : Hid (g8 < V1.heap.size) := Lib.hid hB1.lt
    have hb8 : Blk V1 g8 84 (group8 l x).cs.toArray := hB1
    clear HY hB1 hc1 HX8 HCA
    gi_wp2_with (refine wpListIn_of (fun ⟨_, _, h⟩ => h) _ (by kernel_rfl) _ _ ?_)
    go_wp2_with (first
      | (with_reducible refine ld_p8 rfl (.tmp 10) rfl g8 0 (group8 l x) rfl hb8.p8Is ?_)
      | (go_at_call 39; (with_reducible refine Calls.mono (HB.out _) ?_); rintro e V2 ⟨rfl, hb2⟩; have HZ2 := Lib.hid ((HZ.out.later hb2).new 46 zsec.cs.toArray); have HX2 : Hid (g8 < V2.heap.size) := Lib.hid (Nat.lt_of_lt_of_le HX9.out hb2.size); clear HZ hb2 HX9)
      | (refine st_sec2 rfl (.tmp 11) (.tmp 23) rfl V2.heap.size _ (nbS (group8 l x)) rfl rfl (HZ2.out.2.box (x := (V2.heap.size, 46, zsec.cs.toArray)) (by simp)) ?_; intro V3 hB3 hc3))
    have HX := Lib.hid (HZ2.out.put (by have := HG8.out; have := HX2.out; simp; omega) hB3 hc3)
    have HX3 : Hid (V2.heap.size < V3.heap.size) := Lib.hid hB3.lt
    clear HZ2 hB3 hc3 HB hb8
    have HG2 : Hid (s0 + 7 ≤ V2.heap.size ∧ g8 < V2.heap.size) := Lib.hid (by have := HG8.out; have := HX2.out; omega)
    generalize V2.heap.size = gs at *
    gi_wp2_with fail
    have HSo : Hid (∀ V' O' P' K', (∀ y ∈ ([(s0, 29, #[.pointer (some ⟨g, 0, none⟩)]), (s0 + 1, 35, #[.slice (some ⟨b, off, none⟩) at_.length c2])] : BoxK), y ∈ K') → PI w O g (s0 + 4) (s0 + 7) K' V' O' P' (.slice Av L.length cv) (.slice Av L.length cv) L → (fun V' => V'.cell? ⟨s0, 0, none⟩ = some (.pointer (some ⟨g, 0, none⟩)) ∧ V'.cell? ⟨s0 + 1, 0, none⟩ = some (.slice (some ⟨b, off, none⟩) at_.length c2) ∧ V'.cell? ⟨s0 + 4, 0, none⟩ = some (.slice Av L.length cv) ∧ V'.cell? ⟨b, off + L.length, none⟩ = some (.int .i64 (T : Int))) V') := Lib.hid fun V' O' P' K' hy h' => ⟨(h'.box (x := (s0, 29, #[.pointer (some ⟨g, 0, none⟩)])) (hy _ (by simp))).cell 0, (h'.box (x := (s0 + 1, 35, #[.slice (some ⟨b, off, none⟩) at_.length c2])) (hy _ (by simp))).cell 0, h'.out.blk.cell 0, HC.out V' O' h'.sta.st⟩
    have HY := Lib.hid HX.out.drew
    have HX4 : Hid (gs < V3.drew.heap.size) := HX3
    clear HX HX3
    refine wpIn_held (fun V' => V'.cell? ⟨s0, 0, none⟩ = some (.pointer (some ⟨g, 0, none⟩)) ∧ V'.cell? ⟨s0 + 1, 0, none⟩ = some (.slice (some ⟨b, off, none⟩) at_.length c2) ∧ V'.cell? ⟨s0 + 4, 0, none⟩ = some (.slice Av L.length cv) ∧ V'.cell? ⟨b, off + L.length, none⟩ = some (.int .i64 (T : Int))) (by kernel_rfl) (by kernel_rfl) (fun ⟨_, _, h⟩ => h) (HSo.out _ _ _ _ (by simp) HY.out.2) (fun hHeld => ?_)
    generalize V3.drew = V0 at *
    refine wpAnyH_take (i := 0) (v := .pointer (some ⟨g, 0, none⟩)) rfl (by kernel_rfl) (by kernel_rfl) (by kernel_rfl) (fun _ _ _ h => h) (Or.inl ⟨by rfl, ?_⟩) (by assumption) ?_
    · intro w' hS
      obtain ⟨h1, h2, h3, h4⟩ := hS; go_simp; try with_reducible rfl
    try simp [Act.put]
    refine wpAnyH_take (i := 1) (v := .slice (some ⟨b, off, none⟩) at_.length c2) rfl (by kernel_rfl) (by kernel_rfl) (by kernel_rfl) (fun _ _ _ h => h) (Or.inl ⟨by rfl, ?_⟩) (by assumption) ?_
    · intro w' hS
      obtain ⟨h1, h2, h3, h4⟩ := hS; go_simp; try with_reducible rfl
    try simp [Act.put]
    refine wpAnyH_take (i := 2) (v := .slice Av L.length cv) rfl (by kernel_rfl) (by kernel_rfl) (by kernel_rfl) (fun _ _ _ h => h) (Or.inl ⟨by rfl, ?_⟩) (by assumption) ?_
    · intro w' hS
      obtain ⟨h1, h2, h3, h4⟩ := hS; go_simp; try with_reducible rfl
    try simp [Act.put]
    refine wpAnyH_take (i := 3) (v := .int .i64 (L.length : Int)) rfl (by kernel_rfl) (by kernel_rfl) (by kernel_rfl) (fun _ _ _ h => h) (Or.inl ⟨by rfl, ?_⟩) (by assumption) ?_
    · intro w' hS; go_simp; try with_reducible rfl
    try simp [Act.put]
    refine wpAnyH_take (i := 4) (v := .pointer (some ⟨b, off + L.length, none⟩)) rfl (by kernel_rfl) (by kernel_rfl) (by kernel_rfl) (fun _ _ _ h => h) (Or.inl ⟨by rfl, ?_⟩) (by assumption) ?_
    · intro w' hS; go_simp; try with_reducible rfl
    try simp [Act.put]
    refine wpAnyH_take (i := 5) (v := .int .i64 (T : Int)) rfl (by kernel_rfl) (by kernel_rfl) (by kernel_rfl) (fun _ _ _ h => h) (Or.inl ⟨by rfl, ?_⟩) (by assumption) ?_
    · intro w' hS
      obtain ⟨h1, h2, h3, h4⟩ := hS; go_simp; try with_reducible rfl
    try simp [Act.put]
    refine wpAnyH_take (i := 6) (v := .slice (some ⟨gs, 0, none⟩) 128 128) rfl (by kernel_rfl) (by kernel_rfl) (by kernel_rfl) (fun _ _ _ h => h) (Or.inl ⟨by rfl, ?_⟩) (by assumption) ?_
    · intro w' hS; go_simp; try with_reducible rfl
    try simp [Act.put]
    refine wpAnyH_ready (rs := [7, 11]) (by kernel_rfl) (by simp) ?_
    refine (AllReadyH.cons rfl (fun K hK => ?_) (AllReadyH.cons rfl (fun K hK => ?_) AllReadyH.nil))
    · skip
      go_simp
      refine Calls.mono (HP.out V0 _ gs HY.out.2.sta.at_ (HY.out.2.boxes (gs, 46, (nbS (group8 l x)).cs.toArray) (by simp)).1.rd) ?_
      rintro e V1 ⟨O2, rfl, hp1, hs1⟩
      have HZ := Lib.hid (HY.out.call hp1 hs1)
      have HX5 : Hid (gs < V1.heap.size) := Lib.hid (Nat.lt_of_lt_of_le HX4.out hs1.chg.size)
      clear HY hp1 hs1 HP HX4
      have HY := HZ
      have HX4 := HX5
      clear HZ HX5
      refine hK.out _ _ (HSo.out _ _ _ _ (by simp) HY.out.2) (fun hHeld2 => ?_)
      clear hK K
      try simp
      clear hHeld
      have hHeld := hHeld2
      clear hHeld2
      refine wpAnyH_take (i := 8) (v := .tuple #[ptq (q1, q2, q3), .int .i64 0]) rfl (by kernel_rfl) (by kernel_rfl) (by kernel_rfl) (fun _ _ _ h => h) (Or.inl ⟨by rfl, ?_⟩) (by assumption) ?_
      · intro w' hS; go_simp; try with_reducible rfl
      try simp [Act.put]
      refine wpAnyH_take (i := 9) (v := ptv q1 q2 q3) rfl (by kernel_rfl) (by kernel_rfl) (by kernel_rfl) (fun _ _ _ h => h) (Or.inl ⟨by rfl, ?_⟩) (by assumption) ?_
      · intro w' hS; go_simp; try with_reducible rfl
      try simp [Act.put]
      refine wpAnyH_take (i := 10) (v := .int .i64 0) rfl (by kernel_rfl) (by kernel_rfl) (by kernel_rfl) (fun _ _ _ h => h) (Or.inl ⟨by rfl, ?_⟩) (by assumption) ?_
      · intro w' hS; go_simp; try with_reducible rfl
      try simp [Act.put]
      refine wpAnyH_ready (rs := [11]) (by kernel_rfl) (by simp) ?_
      refine (AllReadyH.cons rfl (fun K hK => ?_) AllReadyH.nil)
      go_simp
      have HZ := Lib.hid (HY.out.new 25 (pcs 0 0 0))
      have HG : Hid (s0 + 7 ≤ V1.heap.size ∧ g8 < V1.heap.size ∧ gs < V1.heap.size) := Lib.hid (by have := HX4.out; have := HG2.out; omega)
      have HX5 : Hid (gs < (V1.alloc (.cells (pcs 0 0 0) 25)).heap.size) := Lib.hid (by have := HX4.out; simp; omega)
      clear HY HX4
      have HY := HZ
      have HX4 := HX5
      clear HZ HX5
      refine hK.out _ _ (HSo.out _ _ _ _ (by simp) HY.out.2) (fun hHeld2 => ?_)
      clear hK K
      generalize V1.alloc (.cells (pcs 0 0 0) 25) = V2 at *
      generalize V1.heap.size = gq at *
      try simp
      clear hHeld
      have hHeld := hHeld2
      clear hHeld2
      refine wpAnyH_ready (rs := [12]) (by kernel_rfl) (by simp) ?_
      refine (AllReadyH.cons rfl (fun K hK => ?_) AllReadyH.nil)
      refine step_stPt rfl (.tmp 13) (.tmp 37) rfl gq q1 q2 q3 0 0 0 rfl rfl (HY.out.2.box (x := (gq, 25, pcs 0 0 0)) (by simp)) ?_
      intro V4 hB4 _ hc4
      have HZ := Lib.hid (HY.out.put (by have := HG.out; simp; omega) hB4 (hc4 _ rfl))
      clear HY hB4 hc4
      have HY := HZ
      clear HZ
      refine hK.out _ _ (HSo.out _ _ _ _ (by simp) HY.out.2) (fun hHeld2 => ?_)
      clear hK K
      try simp
      clear hHeld
      have hHeld := hHeld2
      clear hHeld2
      refine wpAnyH_take (i := 13) (v := .int .i64 0) rfl (by kernel_rfl) (by kernel_rfl) (by kernel_rfl) (fun _ _ _ h => h) (Or.inl ⟨by rfl, ?_⟩) (by assumption) ?_
      · intro w' hS; go_simp; try with_reducible rfl
      try simp [Act.put]
      refine wpAnyH_done (by kernel_rfl) ?_ _
      obtain ⟨_, _, c8, _⟩ := hHeld
      have hbq := HY.out.2.box (x := (gq, 25, pcs q1 q2 q3)) (by simp)
      have hq0 := hbq.cell 0
      have hq1 := hbq.cell 1
      have hq2 := hbq.cell 2
      simp only [pcs, List.getElem?_toArray, List.getElem?_cons_zero, List.getElem?_cons_succ] at hq0 hq1 hq2
      clear hbq
      gi_wp2_with (gi_at_builtin; refine wpListIn_of (fun ⟨_, _, h⟩ => h) _ (by kernel_rfl) _ _ ?_; refine app_ptr rfl 42 44 rfl (s0 + 7) (.slice Av L.length cv) L rfl (show OwnQ V4 (s0 + 7) (.slice Av L.length cv) L from HY.out.2.row.own) (q1, q2, q3) V4.heap.size rfl rfl HY.out.2.lo.2 (by have := HL.out; omega) ?_; intro v5 V5 hown hgr hnw; obtain ⟨g5, d5, rfl, _, _, _⟩ := own_form hown (by simp); have HZ := Lib.hid (HY.out.app (((Chg.refl V4 _).alloc _).grown hgr fun k hk => .inl hk) hown hnw); have c9 := HZ.out.2.out.blk.cell 0; have f9 := HZ.out.2.out.blk.frozen 0; simp only [List.getElem?_toArray, List.getElem?_cons_zero] at c9; rw [List.length_append, List.length_singleton] at HZ; clear hown hgr hnw c8 hq0 hq1 hq2)
      go_wp2_with fail
      have HW := HZ.out.keep (W' := V5.setCell ⟨s0 + 4, 0, none⟩ (.slice (some ⟨g5, 0, none⟩) (L.length + 1) d5)) (blk_set1 HZ.out.2.out.blk _) (chg_set V5 (s0 + 4) _)
      have e1 := blk_eq (HW.2.box (x := (s0 + 5, 40, #[.slice (some ⟨bA, oA, none⟩) l.length c])) (by simp)) (HV.out.box (x := (s0 + 5, 40, #[.slice (some ⟨bA, oA, none⟩) l.length c])) (by simp))
      have e2 := blk_eq (HW.2.box (x := (s0 + 6, 3, #[.int .i64 8])) (by simp)) (HV.out.box (x := (s0 + 6, 3, #[.int .i64 8])) (by simp))
      refine ⟨HW.1, ⟨e1, e2⟩, O2, .slice (some ⟨g5, 0, none⟩) (L.length + 1) d5, ?_⟩
      rw [HE.out.1, HE.out.2]
      exact HW.2.few fun y hy => List.mem_cons_of_mem _ (List.mem_cons_of_mem _ (List.mem_cons_of_mem _ hy))
    · skip
      go_simp
      have HZ := Lib.hid (HY.out.new 25 (pcs 0 0 0))
      have HG : Hid (s0 + 7 ≤ V0.heap.size ∧ g8 < V0.heap.size ∧ gs < V0.heap.size) := Lib.hid (by have := HX4.out; have := HG2.out; omega)
      have HX5 : Hid (gs < (V0.alloc (.cells (pcs 0 0 0) 25)).heap.size) := Lib.hid (by have := HX4.out; simp; omega)
      clear HY HX4
      have HY := HZ
      have HX4 := HX5
      clear HZ HX5
      refine hK.out _ _ (HSo.out _ _ _ _ (by simp) HY.out.2) (fun hHeld2 => ?_)
      clear hK K
      generalize V0.alloc (.cells (pcs 0 0 0) 25) = V1 at *
      generalize V0.heap.size = gq at *
      try simp
      clear hHeld
      have hHeld := hHeld2
      clear hHeld2
      refine wpAnyH_ready (rs := [7]) (by kernel_rfl) (by simp) ?_
      refine (AllReadyH.cons rfl (fun K hK => ?_) AllReadyH.nil)
      go_simp
      refine Calls.mono (HP.out V1 _ gs HY.out.2.sta.at_ (HY.out.2.boxes (gs, 46, (nbS (group8 l x)).cs.toArray) (by simp)).1.rd) ?_
      rintro e V2 ⟨O2, rfl, hp1, hs1⟩
      have HZ := Lib.hid (HY.out.call hp1 hs1)
      have HX5 : Hid (gs < V2.heap.size) := Lib.hid (Nat.lt_of_lt_of_le HX4.out hs1.chg.size)
      clear HY hp1 hs1 HP HX4
      have HY := HZ
      have HX4 := HX5
      clear HZ HX5
      refine hK.out _ _ (HSo.out _ _ _ _ (by simp) HY.out.2) (fun hHeld2 => ?_)
      clear hK K
      try simp
      clear hHeld
      have hHeld := hHeld2
      clear hHeld2
      refine wpAnyH_take (i := 8) (v := .tuple #[ptq (q1, q2, q3), .int .i64 0]) rfl (by kernel_rfl) (by kernel_rfl) (by kernel_rfl) (fun _ _ _ h => h) (Or.inl ⟨by rfl, ?_⟩) (by assumption) ?_
      · intro w' hS; go_simp; try with_reducible rfl
      try simp [Act.put]
      refine wpAnyH_take (i := 9) (v := ptv q1 q2 q3) rfl (by kernel_rfl) (by kernel_rfl) (by kernel_rfl) (fun _ _ _ h => h) (Or.inl ⟨by rfl, ?_⟩) (by assumption) ?_
      · intro w' hS; go_simp; try with_reducible rfl
      try simp [Act.put]
      refine wpAnyH_take (i := 10) (v := .int .i64 0) rfl (by kernel_rfl) (by kernel_rfl) (by kernel_rfl) (fun _ _ _ h => h) (Or.inl ⟨by rfl, ?_⟩) (by assumption) ?_
      · intro w' hS; go_simp; try with_reducible rfl
      try simp [Act.put]
      refine wpAnyH_ready (rs := [12]) (by kernel_rfl) (by simp) ?_
      refine (AllReadyH.cons rfl (fun K hK => ?_) AllReadyH.nil)
      refine step_stPt rfl (.tmp 13) (.tmp 37) rfl gq q1 q2 q3 0 0 0 rfl rfl (HY.out.2.box (x := (gq, 25, pcs 0 0 0)) (by simp)) ?_
      intro V4 hB4 _ hc4
      have HZ := Lib.hid (HY.out.put (by have := HG.out; simp; omega) hB4 (hc4 _ rfl))
      clear HY hB4 hc4
      have HY := HZ
      clear HZ
      refine hK.out _ _ (HSo.out _ _ _ _ (by simp) HY.out.2) (fun hHeld2 => ?_)
      clear hK K
      try simp
      clear hHeld
      have hHeld := hHeld2
      clear hHeld2
      refine wpAnyH_take (i := 13) (v := .int .i64 0) rfl (by kernel_rfl) (by kernel_rfl) (by kernel_rfl) (fun _ _ _ h => h) (Or.inl ⟨by rfl, ?_⟩) (by assumption) ?_
      · intro w' hS; go_simp; try with_reducible rfl
      try simp [Act.put]
      refine wpAnyH_done (by kernel_rfl) ?_ _
      obtain ⟨_, _, c8, _⟩ := hHeld
      have hbq := HY.out.2.box (x := (gq, 25, pcs q1 q2 q3)) (by simp)
      have hq0 := hbq.cell 0
      have hq1 := hbq.cell 1
      have hq2 := hbq.cell 2
      simp only [pcs, List.getElem?_toArray, List.getElem?_cons_zero, List.getElem?_cons_succ] at hq0 hq1 hq2
      clear hbq
      gi_wp2_with (gi_at_builtin; refine wpListIn_of (fun ⟨_, _, h⟩ => h) _ (by kernel_rfl) _ _ ?_; refine app_ptr rfl 42 44 rfl (s0 + 7) (.slice Av L.length cv) L rfl (show OwnQ V4 (s0 + 7) (.slice Av L.length cv) L from HY.out.2.row.own) (q1, q2, q3) V4.heap.size rfl rfl HY.out.2.lo.2 (by have := HL.out; omega) ?_; intro v5 V5 hown hgr hnw; obtain ⟨g5, d5, rfl, _, _, _⟩ := own_form hown (by simp); have HZ := Lib.hid (HY.out.app (((Chg.refl V4 _).alloc _).grown hgr fun k hk => .inl hk) hown hnw); have c9 := HZ.out.2.out.blk.cell 0; have f9 := HZ.out.2.out.blk.frozen 0; simp only [List.getElem?_toArray, List.getElem?_cons_zero] at c9; rw [List.length_append, List.length_singleton] at HZ; clear hown hgr hnw c8 hq0 hq1 hq2)
      go_wp2_with fail
      have HW := HZ.out.keep (W' := V5.setCell ⟨s0 + 4, 0, none⟩ (.slice (some ⟨g5, 0, none⟩) (L.length + 1) d5)) (blk_set1 HZ.out.2.out.blk _) (chg_set V5 (s0 + 4) _)
      have e1 := blk_eq (HW.2.box (x := (s0 + 5, 40, #[.slice (some ⟨bA, oA, none⟩) l.length c])) (by simp)) (HV.out.box (x := (s0 + 5, 40, #[.slice (some ⟨bA, oA, none⟩) l.length c])) (by simp))
      have e2 := blk_eq (HW.2.box (x := (s0 + 6, 3, #[.int .i64 8])) (by simp)) (HV.out.box (x := (s0 + 6, 3, #[.int .i64 8])) (by simp))
      refine ⟨HW.1, ⟨e1, e2⟩, O2, .slice (some ⟨g5, 0, none⟩) (L.length + 1) d5, ?_⟩
      rw [HE.out.1, HE.out.2]
      exact HW.2.few fun y hy => List.mem_cons_of_mem _ (List.mem_cons_of_mem _ (List.mem_cons_of_mem _ hy))
  case done =>
    rintro D ys V hD rfl ⟨O1, v, hI⟩ hK
    have hok := zip_ok HA.out.2.2.2.1 (D := nodeT l) (fun y => Nat.le_of_eq (nodeT_len l y)) (List.range ((l.length + 7) / 8))
    have hLn : (putsQ P.st (at_.zip ((List.range ((l.length + 7) / 8)).map (nodeT l)))).length = (l.length + 7) / 8 := by rw [putsQ_len, zip_len _ _ _ (by rw [List.length_range]; exact HA.out.2.2.1), List.length_range]
    obtain ⟨Av, cv, rfl, _, hcv⟩ := own_rd hI.row.own
    rw [hLn] at hI hcv
    have HCV := Lib.hid hcv
    clear hcv
    have c8 := hI.out.blk.cell 0
    have b2 := hI.box (x := (s0 + 2, 40, #[.slice none 0 0])) (by simp)
    have b3 := hI.box (x := (s0 + 3, 26, #[.int .i64 0])) (by simp)
    have c2' := b2.cell 0
    have c3' := b3.cell 0
    have f2 := b2.frozen 0
    have f3 := b3.frozen 0
    simp only [List.getElem?_toArray, List.getElem?_cons_zero] at c8 c2' c3'
    have HV := Lib.hid hI
    have HB := Lib.hid (And.intro b2 b3)
    clear hI b2 b3 hok
    gi_wp2_with fail
    have hK1 := (KeepsOthers.setCell V ⟨s0 + 2, 0, none⟩ (.slice Av ((l.length + 7) / 8) cv)).same D _ hK rfl
    have hK2 := (KeepsOthers.setCell _ ⟨s0 + 3, 0, none⟩ (.int .i64 0)).same D _ hK1 rfl
    have P1 := (HV.out.few (K' := [(s0 + 2, 40, #[.slice none 0 0]), (s0 + 3, 26, #[.int .i64 0])]) (by simp)).put (by simp) (blk_set1 HB.out.1 (.slice Av ((l.length + 7) / 8) cv)) (chg_set _ _ _)
    have P2 := (P1.few (K' := [(s0 + 3, 26, #[.int .i64 0]), (s0 + 2, 40, #[.slice Av ((l.length + 7) / 8) cv])]) (by simp)).put (by simp) (blk_set1 (P1.box (x := (s0 + 3, 26, #[.int .i64 0])) (by simp)) (.int .i64 0)) (chg_set _ _ _)
    have P3 := P2.turn (grownBy_putObj' _ D (.deferred none)) (fun r e => by cases e; exact ⟨by have := HI.out.lo; have := HS.out; omega, _, hK2, rfl⟩)
    have hc2 := (P3.box (x := (s0 + 2, 40, #[.slice Av ((l.length + 7) / 8) cv])) (by simp)).cell 0
    have hc3 := (P3.box (x := (s0 + 3, 26, #[.int .i64 0])) (by simp)).cell 0
    simp only [List.getElem?_toArray, List.getElem?_cons_zero] at hc2 hc3
    obtain ⟨Af, df, he, hrf⟩ := P3.row.out P3.lo.1 (by rw [pqs_len]; omega)
    simp only [Value.slice.injEq] at he
    obtain ⟨rfl, _, rfl⟩ := he
    refine ⟨by simp, .inl ⟨_, _, rfl, run_takeDeferred hK2, ?_⟩⟩
    refine ⟨.tuple #[.slice Av ((l.length + 7) / 8) cv, .int .i64 0], ?_, O1, Av, ⟨cv, rfl, HCV.out⟩, P3.sta.at_, hrf, P3.sta.st⟩
    simp [results, Try.f21, go_sem, hc2, hc3]
  case stop =>
    rintro D c pre V _ _ h _
    exact h.elim
end
end
section
open Go.RowKit

def qAt (st : Nat) (p : Nat × List UInt8) : PtrV := ((p.1 : Int), (st : Int), (sumS (blockS p.2) : Int))
theorem Held.aside {P : Pw} {q : PtrV} {x : Sec} (h : Held P q x) {i : Nat} (hne : q.1 ≠ (i : Int)) (y : Sec) : Held ⟨P.nw.set i y, P.m, P.st, P.ba, P.N + 1⟩ q x := by
  rcases h with h | ⟨j, b, rfl, h1, h2, hj, hx⟩
  · exact .inl h
  · have hn : j ≠ i := fun e => hne (by subst e; rfl)
    refine .inr ⟨j, b, rfl, h1, h2, hj, ?_⟩
    show (P.nw.set i y).getD j zsec = x
    rw [← hx, List.getD_eq_getElem?_getD, List.getD_eq_getElem?_getD, List.getElem?_set_ne (Ne.symm hn)]
theorem putAt_held {P : Pw} (ok : OkW P) {i : Nat} (hi : P.m.is 1 i = true) (y : Sec) : OkW ⟨P.nw.set i y, P.m, P.st, P.ba, P.N + 1⟩ ∧ Held ⟨P.nw.set i y, P.m, P.st, P.ba, P.N + 1⟩ ((i : Int), (P.st : Int), (sumS y : Int)) y := by
  have := (Mp.is_iff.1 hi).2.1
  have := ok.nwl
  refine ⟨⟨by show P.m.tot ≤ (P.nw.set i _).length; rw [List.length_set]; exact ok.nwl, ok.tot, ok.st1, ok.stM⟩, .inr ⟨i, _, rfl, by have := ok.st1; omega, by have := ok.stM; omega, hi, ?_⟩⟩
  show (P.nw.set i y).getD i zsec = _
  rw [List.getD_eq_getElem?_getD, List.getElem?_set_self (by omega)]
  rfl
theorem puts_held : ∀ (xs : List (Nat × List UInt8)) {P : Pw}, OkW P → Okx P xs → (xs.map Prod.fst).Nodup →
    OkW (putsP P xs) ∧ (∀ {r : PtrV} {x : Sec}, Held P r x → (∀ p ∈ xs, r.1 ≠ (p.1 : Int)) → Held (putsP P xs) r x) ∧ (∀ p ∈ xs, Held (putsP P xs) (qAt P.st p) (blockS p.2))
  | [], _, ok, _, _ => ⟨ok, fun h _ => h, fun _ h => by cases h⟩
  | p :: r, P, ok, h, hn => by
    obtain ⟨h1, h2⟩ := h p (List.mem_cons_self ..)
    obtain ⟨_, _, e⟩ := putAt_yes (P := P) (i := p.1) (l := p.2) (by omega) h1
    obtain ⟨ok1, hh⟩ := putAt_held ok h1 (blockS p.2)
    have hnd : p.1 ∉ r.map Prod.fst ∧ (r.map Prod.fst).Nodup := by simpa using hn
    obtain ⟨a1, a2, a3⟩ := puts_held r (P := ⟨P.nw.set p.1 (blockS p.2), P.m, P.st, P.ba, P.N + 1⟩) ok1 (fun x hx => h x (List.mem_cons_of_mem _ hx)) hnd.2
    have e0 : putsP P (p :: r) = putsP ⟨P.nw.set p.1 (blockS p.2), P.m, P.st, P.ba, P.N + 1⟩ r := by
      show putsP (putAtP P (p.1 : Int) p.2) r = _
      rw [e]
    rw [e0]
    refine ⟨a1, fun hr hx => a2 (hr.aside (hx p (List.mem_cons_self ..)) _) fun y hy => hx y (List.mem_cons_of_mem _ hy), fun y hy => ?_⟩
    rcases List.mem_cons.1 hy with rfl | hy
    · refine a2 hh fun z hz => ?_
      intro e2
      have e3 : y.1 = z.1 := by
        have e4 : (y.1 : Int) = (z.1 : Int) := e2
        omega
      exact hnd.1 (by rw [e3]; exact List.mem_map_of_mem hz)
    · exact a3 y hy
theorem zip_fst {β : Type} : ∀ (a : List Nat) (b : List β), (a.zip b).map Prod.fst = a.take b.length
  | [], b => by simp
  | x :: a, [] => by simp
  | x :: a, y :: b => by simp [zip_fst a b]
theorem putsQ_at (st : Nat) (a : List Nat) (N : Nat) (D : Nat → List UInt8) (i : Nat) (h : i < (putsQ st (a.zip ((List.range N).map D))).length) :
    ∃ p ∈ a.zip ((List.range N).map D), (putsQ st (a.zip ((List.range N).map D)))[i] = qAt st p ∧ p.2 = D i := by
  have h2 : i < (a.zip ((List.range N).map D)).length := by rw [putsQ_len] at h; exact h
  refine ⟨(a.zip ((List.range N).map D))[i], List.getElem_mem h2, by simp [putsQ, qAt], by simp⟩
theorem putsQ_place (st : Nat) (xs : List (Nat × List UInt8)) : (putsQ st xs).map (fun r => r.1) = natI (xs.map Prod.fst) := by simp [putsQ, natI]
theorem putsQ_right {P : Pw} (ok : OkW P) {xs : List (Nat × List UInt8)} {Q : Pw} (okQ : OkW Q) (h : ∀ p ∈ xs, Held Q (qAt P.st p) (blockS p.2)) : RightL (putsQ P.st xs) := fun r hr => by
  obtain ⟨p, hp, rfl⟩ := List.mem_map.1 hr
  have := (h p hp).right okQ
  exact ⟨hole_ne (by have := ok.st1; omega), this.1, this.2⟩
/-- Each node of a level holds eight of the level under it. -/
def HChain (P : Pw) : List (List PtrV) → Prop
  | [] => True
  | [_] => True
  | hi :: lo :: r => (hi.length = (lo.length + 7) / 8 ∧ ∀ i (h : i < hi.length), Held P hi[i] (nbS (group8 lo i))) ∧ HChain P (lo :: r)
theorem HChain.mono {P P' : Pw} : ∀ {M : List (List PtrV)}, HChain P M → (∀ r ∈ M.flatten, ∀ x, Held P r x → Held P' r x) → HChain P' M
  | [], _, _ => trivial
  | [_], _, _ => trivial
  | hi :: lo :: r, h, hm => ⟨⟨h.1.1, fun i hl => hm _ (List.mem_flatten.2 ⟨hi, List.mem_cons_self .., List.getElem_mem hl⟩) _ (h.1.2 i hl)⟩, HChain.mono h.2 fun y hy => hm y (by
    rw [List.flatten_cons]
    exact List.mem_append_right _ hy)⟩
theorem HChain.chain {P : Pw} (ok : OkW P) : ∀ {M : List (List PtrV)}, HChain P M → (∀ lv ∈ M, RightL lv) → Chain (getS P) M
  | [], _, _ => trivial
  | [_], _, _ => trivial
  | hi :: lo :: r, h, hr => ⟨⟨h.1.1, hr lo (by simp), fun i hl => .inl ((h.1.2 i hl).get ok)⟩, HChain.chain ok h.2 fun y hy => hr y (List.mem_cons_of_mem _ hy)⟩
/-- The levels that are put so far, the newest first. -/
structure Lad (P P' : Pw) (l : List UInt8) (at_ : List Nat) (lo : Nat) (top : List PtrV) (rest : List (List PtrV)) : Prop where
  lv : LvS l.length top.length ((top :: rest).map List.length).reverse
  place : ((top :: rest).reverse.flatten).map (fun r => r.1) = natI (at_.take (lo + top.length))
  fit : lo + top.length ≤ at_.length
  sum : ((top :: rest).map List.length).sum = lo + top.length
  right : ∀ lv ∈ top :: rest, RightL lv
  chain : HChain P' (top :: rest)
  text : ∀ i (h : i < (lastL (top :: rest)).length), Held P' (lastL (top :: rest))[i] (blockS (chunk l i))
  all : ∀ r ∈ (top :: rest).flatten, ∃ x, Held P' r x
  ok : OkW P'
  m : P'.m = P.m
  st : P'.st = P.st
  len : P'.nw.length = P.nw.length
  N : P'.N = P.N + (lo + top.length)
theorem lad_first {P : Pw} (ok : OkW P) {l : List UInt8} {at_ : List Nat} (hl : 1 ≤ l.length ∧ l.length ≤ 65535) (hat : ∀ i ∈ at_, P.m.is 1 i = true) (hn : at_.Nodup) (hk : (l.length + 127) / 128 ≤ at_.length) :
    Lad P (putsP P (at_.zip ((List.range ((l.length + 127) / 128)).map (chunk l)))) l at_ 0 (putsQ P.st (at_.zip ((List.range ((l.length + 127) / 128)).map (chunk l)))) [] := by
  have hx := zip_ok hat (D := chunk l) (fun y => by rw [chunk_len]; omega) (List.range ((l.length + 127) / 128))
  obtain ⟨wm, wst, wnw, wN⟩ := puts_was _ hx
  have hlen : (at_.zip ((List.range ((l.length + 127) / 128)).map (chunk l))).length = (l.length + 127) / 128 := by rw [zip_len _ _ _ (by rw [List.length_range]; exact hk), List.length_range]
  have hf := zip_fst at_ ((List.range ((l.length + 127) / 128)).map (chunk l))
  rw [List.length_map, List.length_range] at hf
  obtain ⟨a1, a2, a3⟩ := puts_held _ ok hx (by rw [hf]; exact hn.sublist (List.take_sublist _ _))
  have htl : (putsQ P.st (at_.zip ((List.range ((l.length + 127) / 128)).map (chunk l)))).length = (l.length + 127) / 128 := by rw [putsQ_len, hlen]
  have hall : ∀ i (h : i < (putsQ P.st (at_.zip ((List.range ((l.length + 127) / 128)).map (chunk l)))).length), Held (putsP P (at_.zip ((List.range ((l.length + 127) / 128)).map (chunk l)))) (putsQ P.st (at_.zip ((List.range ((l.length + 127) / 128)).map (chunk l))))[i] (blockS (chunk l i)) := fun i h => by
    obtain ⟨p, hp, e1, e2⟩ := putsQ_at _ _ _ _ i h
    rw [e1, ← e2]
    exact a3 p hp
  have hrt := putsQ_right ok a1 a3
  have hpl := putsQ_place P.st (at_.zip ((List.range ((l.length + 127) / 128)).map (chunk l)))
  rw [hf] at hpl
  rw [hlen] at wN
  generalize putsQ P.st (at_.zip ((List.range ((l.length + 127) / 128)).map (chunk l))) = top at *
  constructor
  · rw [htl]
    simp only [List.map_cons, List.map_nil, List.reverse_cons, List.reverse_nil, List.nil_append]
    rw [htl]
    exact lvS_first hl
  · simp only [List.reverse_cons, List.reverse_nil, List.nil_append, List.flatten_cons, List.flatten_nil, List.append_nil, Nat.zero_add, htl]
    exact hpl
  · omega
  · simp
  · intro lv hlv
    rw [List.mem_singleton.1 hlv]
    exact hrt
  · trivial
  · exact hall
  · intro r hr
    rw [List.flatten_cons, List.flatten_nil, List.append_nil] at hr
    obtain ⟨i, hi, rfl⟩ := List.getElem_of_mem hr
    exact ⟨_, hall i hi⟩
  · exact a1
  · exact wm
  · exact wst
  · exact wnw
  · rw [wN]; omega
theorem levels_has {n kk : Nat} {acc : List Nat} (h : LvS n kk acc) : acc.length ≤ 5 ∧ acc.sum ≤ needF n := by
  obtain ⟨f, _, e⟩ := h.ex
  have h5 := (levels_small n).2
  have hs : needF n = (levels n).sum := rfl
  rw [e, List.length_append] at h5
  rw [e, List.sum_append] at hs
  omega
theorem Lad.more {P P' : Pw} {l : List UInt8} {at_ : List Nat} {lo : Nat} {top : List PtrV} {rest : List (List PtrV)} (h : Lad P P' l at_ lo top rest) (hn : at_.length = needF l.length) (hk : 1 < top.length) :
    lo + top.length + (top.length + 7) / 8 ≤ at_.length ∧ LvS l.length ((top.length + 7) / 8) (((top :: rest).map List.length).reverse ++ [(top.length + 7) / 8]) := by
  have h1 := lvS_next h.lv hk (by have := (levels_has h.lv).1; omega)
  have h2 := (levels_has h1).2
  rw [List.sum_append, List.sum_reverse, h.sum] at h2
  simp only [List.sum_cons, List.sum_nil] at h2
  exact ⟨by omega, h1⟩
theorem natI_take_drop (a : List Nat) (k n : Nat) : natI (a.take k) ++ natI ((a.drop k).take n) = natI (a.take (k + n)) := by
  rw [List.take_add, ← natI_app]
theorem lad_next {P P' : Pw} {l : List UInt8} {at_ : List Nat} {lo : Nat} {top : List PtrV} {rest : List (List PtrV)} (h : Lad P P' l at_ lo top rest) (hn : at_.length = needF l.length) (hnd : at_.Nodup) (hat : ∀ i ∈ at_, P.m.is 1 i = true) (hk : 1 < top.length) :
    Lad P (putsP P' ((at_.drop (lo + top.length)).zip ((List.range ((top.length + 7) / 8)).map (nodeT top)))) l at_ (lo + top.length) (putsQ P'.st ((at_.drop (lo + top.length)).zip ((List.range ((top.length + 7) / 8)).map (nodeT top)))) (top :: rest) := by
  obtain ⟨hfit, hlv⟩ := h.more hn hk
  have hat2 : ∀ i ∈ at_.drop (lo + top.length), P'.m.is 1 i = true := fun i hi => by
    rw [h.m]
    exact hat i (List.mem_of_mem_drop hi)
  have hx := zip_ok hat2 (D := nodeT top) (fun y => Nat.le_of_eq (nodeT_len top y)) (List.range ((top.length + 7) / 8))
  obtain ⟨wm, wst, wnw, wN⟩ := puts_was _ hx
  have hlen : ((at_.drop (lo + top.length)).zip ((List.range ((top.length + 7) / 8)).map (nodeT top))).length = (top.length + 7) / 8 := by
    rw [zip_len _ _ _ (by rw [List.length_range, List.length_drop]; omega), List.length_range]
  have hf := zip_fst (at_.drop (lo + top.length)) ((List.range ((top.length + 7) / 8)).map (nodeT top))
  rw [List.length_map, List.length_range] at hf
  have hsp : at_.take (lo + top.length) ++ at_.drop (lo + top.length) = at_ := List.take_append_drop _ _
  have hdis := List.nodup_append.1 (show (at_.take (lo + top.length) ++ at_.drop (lo + top.length)).Nodup by rw [hsp]; exact hnd)
  obtain ⟨a1, a2, a3⟩ := puts_held _ h.ok hx (by rw [hf]; exact hdis.2.1.sublist (List.take_sublist _ _))
  have htl : (putsQ P'.st ((at_.drop (lo + top.length)).zip ((List.range ((top.length + 7) / 8)).map (nodeT top)))).length = (top.length + 7) / 8 := by rw [putsQ_len, hlen]
  have hall : ∀ i (h : i < (putsQ P'.st ((at_.drop (lo + top.length)).zip ((List.range ((top.length + 7) / 8)).map (nodeT top)))).length), Held (putsP P' ((at_.drop (lo + top.length)).zip ((List.range ((top.length + 7) / 8)).map (nodeT top)))) (putsQ P'.st ((at_.drop (lo + top.length)).zip ((List.range ((top.length + 7) / 8)).map (nodeT top))))[i] (nbS (group8 top i)) := fun i h => by
    obtain ⟨p, hp, e1, e2⟩ := putsQ_at _ _ _ _ i h
    have h3 := a3 p hp
    rw [e2, show blockS (nodeT top i) = nbS (group8 top i) from blockS_sec _] at h3
    rw [e1]
    exact h3
  have hrt := putsQ_right h.ok a1 a3
  have hpl := putsQ_place P'.st ((at_.drop (lo + top.length)).zip ((List.range ((top.length + 7) / 8)).map (nodeT top)))
  rw [hf] at hpl
  rw [hlen] at wN
  have hkeep : ∀ r ∈ (top :: rest).flatten, ∀ x, Held P' r x → Held (putsP P' ((at_.drop (lo + top.length)).zip ((List.range ((top.length + 7) / 8)).map (nodeT top)))) r x := fun r hr x hh => a2 hh fun p hp e => by
    have h1 : r.1 ∈ natI (at_.take (lo + top.length)) := by
      rw [← h.place]
      refine List.mem_map_of_mem ?_
      obtain ⟨lv, hlv, hr2⟩ := List.mem_flatten.1 hr
      exact List.mem_flatten.2 ⟨lv, List.mem_reverse.2 hlv, hr2⟩
    obtain ⟨i, hi, e1⟩ := List.mem_map.1 h1
    have h2 := (List.of_mem_zip (show (p.1, p.2) ∈ _ from hp)).1
    have e2 : i = p.1 := by
      have e3 : (i : Int) = r.1 := e1
      omega
    exact hdis.2.2 i hi p.1 h2 e2
  generalize putsQ P'.st ((at_.drop (lo + top.length)).zip ((List.range ((top.length + 7) / 8)).map (nodeT top))) = top2 at *
  generalize putsP P' ((at_.drop (lo + top.length)).zip ((List.range ((top.length + 7) / 8)).map (nodeT top))) = P2 at *
  constructor
  · rw [List.map_cons, List.reverse_cons, htl]
    exact hlv
  · rw [List.reverse_cons, List.flatten_append, List.map_append, h.place, List.flatten_cons, List.flatten_nil, List.append_nil, hpl, natI_take_drop, htl]
  · omega
  · rw [List.map_cons, List.sum_cons, h.sum]; omega
  · intro lv hlv
    rcases List.mem_cons.1 hlv with rfl | hlv
    · exact hrt
    · exact h.right lv hlv
  · exact ⟨⟨htl, hall⟩, h.chain.mono hkeep⟩
  · intro i hi
    have hl : lastL (top2 :: top :: rest) = lastL (top :: rest) := rfl
    simp only [hl] at hi ⊢
    have hmem : lastL (top :: rest) ∈ top :: rest := by
      have : ∀ (N : List (List PtrV)), N ≠ [] → lastL N ∈ N := by
        intro N
        induction N with
        | nil => exact fun h => absurd rfl h
        | cons a r ih =>
          cases r with
          | nil => exact fun _ => List.mem_singleton.2 rfl
          | cons b r => exact fun _ => List.mem_cons_of_mem _ (ih (by simp))
      exact this _ (by simp)
    exact hkeep _ (List.mem_flatten.2 ⟨_, hmem, List.getElem_mem hi⟩) _ (h.text i hi)
  · intro r hr
    rw [List.flatten_cons] at hr
    rcases List.mem_append.1 hr with hr | hr
    · obtain ⟨i, hi, rfl⟩ := List.getElem_of_mem hr
      exact ⟨_, hall i hi⟩
    · obtain ⟨x, hx⟩ := h.all r hr
      exact ⟨x, hkeep r hr x hx⟩
  · exact a1
  · exact wm.trans h.m
  · exact wst.trans h.st
  · exact wnw.trans h.len
  · rw [wN, h.N]; omega
theorem lad_saved {P P' : Pw} {l : List UInt8} {at_ : List Nat} {lo : Nat} {q : PtrV} {rest : List (List PtrV)} (h : Lad P P' l at_ lo [q] rest) (hl : 1 ≤ l.length ∧ l.length ≤ 65535) (hn : at_.length = needF l.length) : Saved P P' l at_ ([q] :: rest) q := by
  have hlast := lvS_last h.lv (by simp)
  have hsum : lo + [q].length = at_.length := by
    rw [hn, ← h.sum]
    unfold needF
    rw [hlast, List.sum_reverse]
  refine ⟨⟨hl, ?_, h.right, ⟨rest, rfl⟩, h.chain.chain h.ok h.right, fun i hi => .inl ((h.text i hi).get h.ok)⟩, ?_, ?_, h.m, h.st, h.len, ?_⟩
  · rw [hlast, List.reverse_reverse]
  · refine List.all_eq_true.2 fun lv hlv => List.all_eq_true.2 fun r hr => ?_
    obtain ⟨x, hx⟩ := h.all r (List.mem_flatten.2 ⟨lv, hlv, hr⟩)
    rw [hx.get h.ok]
    rfl
  · rw [h.place, hsum, List.take_of_length_le (Nat.le_refl _)]
  · rw [h.N, hsum]; exact Nat.le_refl _
end
section
open Go.RowKit

def slLen : Value → Nat
  | .slice _ n _ => n
  | _ => 0
theorem rd_drop {w : World} {O : Nat → Prop} {b off : Nat} {xs : List Value} (h : RdA w O (some ⟨b, off, none⟩) xs) (k : Nat) : RdA w O (some ⟨b, off + k, none⟩) (xs.drop k) :=
  ⟨h.rd.drop, fun b' off' e hn => by
    simp only [Option.some.injEq, Addr.mk.injEq, and_true] at e
    obtain ⟨rfl, _⟩ := e
    exact h.apart _ off rfl (by rw [List.length_drop] at hn; omega)⟩
theorem ints_drop (a : List Nat) (k : Nat) : (ints (natI a)).drop k = ints (natI (a.drop k)) := by simp [ints, natI, List.map_drop]
section
variable {w : World} {O : Nat → Prop} {g : Nat} {P : Pw}
set_option maxHeartbeats 4000000 in
theorem save_any (h : PileAt w O g P) (ok : OkW P) (A A2 : Option Addr) (c c2 : Nat) (l : List UInt8) (at_ : List Nat) (hl : 1 ≤ l.length ∧ l.length ≤ 65535) (hn : at_.length = needF l.length) (hnd : at_.Nodup) (hat : ∀ i ∈ at_, P.m.is 1 i = true)
    (hr : RdA w O A (bys l)) (hc : l.length ≤ c) (hr2 : RdA w O A2 (ints (natI at_))) (hc2 : at_.length ≤ c2) (hN : P.N ≤ 900000) :
    Calls Try.prog 8 #[.pointer (some ⟨g, 0, none⟩), .slice A l.length c, .slice A2 at_.length c2] w fun e w' => ∃ O' P' q M, e = .returned (.tuple #[ptq q, .int .i64 0]) ∧ PileAt w' O' g P' ∧ Step w w' O O' ∧ Saved P P' l at_ M q := by
  have hnp := need_pos hl
  rw [← hn] at hnp
  have hnd2 : (l.length + 127) / 128 ≤ at_.length := hnp.2.2.1
  have ha0 : 0 < at_.length := hnp.1
  obtain ⟨b, off, rfl, hbw, hcw⟩ := hr2.rd (by rw [ints_len, natI_len]; exact ha0)
  have HNEED := Lib.hid (fun w' => need_any (l.length : Int) w' (by unfold I64; omega))
  rw [Int.toNat_natCast, ← hn] at HNEED
  have HTX := Lib.hid (fun w' O' (h' : PileAt w' O' g P) (st : Step w w' O O') => putText_any h' A (some ⟨b, off, none⟩) c c2 l at_ hl hc hnd2 hat (hr.step st) (hr2.step st) (by omega))
  have HFI := Lib.hid (lad_first ok hl hat hnd hnd2)
  have HG := Lib.hid (fun P1 lo top rest (hL : Lad P P1 l at_ lo top rest) (h1 : 1 < top.length) => lad_next hL hn hnd hat h1)
  have HM := Lib.hid (fun P1 lo top rest (hL : Lad P P1 l at_ lo top rest) (h1 : 1 < top.length) => hL.more hn h1)
  have HE := Lib.hid (fun P1 lo q rest (hL : Lad P P1 l at_ lo [q] rest) => lad_saved hL hl hn)
  have HR2 := Lib.hid hr2
  have HK := Lib.hid (And.intro hl (And.intro hnp (And.intro hc2 (And.intro hN hat))))
  have hs0 := (Sta.first h).alloc (.cells (pcs 0 0 0) 25)
  have hb0 := Bx.new (Sta.first h) 25 (pcs 0 0 0)
  have HA := Lib.hid (And.intro hs0 hb0)
  have h0 : ((at_.length : Int) == 0) = false := by rw [beq_eq_false_iff_ne]; omega
  have hz : ∀ w, Sem.run Try.prog (zeroValue 25) w = .ok (ptv 0 0 0) w := zeroPtr8
  clear h hs0 hb0 hr hr2 hn hnd hat hc hnp hnd2 hbw hcw ha0 hl hc2 hN ok
  go_enter Try.func8, Try.ntmps8
  go_upto_region 1 with (fail)
  generalize w.alloc (.cells (pcs 0 0 0) 25) = W at *
  go_wp2_with (first
    | (go_at_call 11; (with_reducible refine Calls.mono (HNEED.out _) ?_); rintro e w1 ⟨rfl, hb1⟩; have HB := Lib.hid (And.intro (HA.out.1.far hb1) (HA.out.2.later hb1)); clear HA HNEED hb1)
    | (go_at_call 20; (with_reducible refine Calls.mono (HTX.out _ _ HB.out.1.at_ HB.out.1.st) ?_); rintro e w2 ⟨O2, A1, d1, ⟨rfl, hd1⟩, hp2, hf2, hs2⟩; have HC := Lib.hid (And.intro (HB.out.1.call hp2 hs2) (And.intro (HB.out.2.step hs2) (And.intro hf2.toRdA hd1))); clear HB HTX hp2 hf2 hs2 hd1))
  have hln : (putsQ P.st (at_.zip ((List.range ((l.length + 127) / 128)).map (chunk l)))).length = (l.length + 127) / 128 := by
    rw [putsQ_len, zip_len _ _ _ (by rw [List.length_range]; exact HK.out.2.1.2.2.1), List.length_range]
  rw [← hln]
  go_loopw [2, 9, 10] (fun v2 v9 v10 wr => ∃ (lo : Nat) (top : List PtrV) (rest : List (List PtrV)) (O1 : Nat → Prop) (P1 : Pw) (A1 : Option Addr) (d1 : Nat), v2 = .slice (some ⟨b, off + lo, none⟩) (at_.length - lo) (c2 - lo) ∧ v9 = .slice A1 top.length d1 ∧ v10 = .int .i64 0 ∧ Lad P P1 l at_ lo top rest ∧ Sta w O wr O1 g P1 ∧ Bx w wr O1 w.heap.size 25 (pcs 0 0 0) ∧ RdA wr O1 A1 (pqs top) ∧ top.length ≤ d1) (fun _ v9 _ _ => slLen v9)
  case atStart => exact ⟨0, _, [], O2, _, A1, d1, rfl, rfl, rfl, HFI.out, HC.out.1, HC.out.2.1, HC.out.2.2.1, by rw [hln]; exact HC.out.2.2.2⟩
  case round =>
    clear HC HFI hln
    obtain ⟨lo, top, rest, O3, P3, A3, d3, rfl, rfl, rfl, hL, hsta, hbx, hrd, hd3⟩ := hrel
    by_cases h1 : 1 < top.length
    · have h1i : (1 : Int) < (top.length : Int) := by omega
      obtain ⟨m1, _⟩ := HM.out _ _ _ _ hL h1
      have hhi := hL.lv.hi
      have hT : ∀ w' O', PileAt w' O' g P3 → RdA w' O' A3 (pqs top) → Step w w' O O' → Calls Try.prog 21 #[.pointer (some ⟨g, 0, none⟩), .slice A3 top.length d3, .slice (some ⟨b, off + lo + top.length, none⟩) (at_.length - lo - top.length) (c2 - lo - top.length)] w' fun e w'' => ∃ O'' A' d, (e = .returned (.tuple #[.slice A' ((top.length + 7) / 8) d, .int .i64 0]) ∧ (top.length + 7) / 8 ≤ d) ∧ PileAt w'' O'' g (putsP P3 ((at_.drop (lo + top.length)).zip ((List.range ((top.length + 7) / 8)).map (nodeT top)))) ∧ RdF w' w'' O'' A' (pqs (putsQ P3.st ((at_.drop (lo + top.length)).zip ((List.range ((top.length + 7) / 8)).map (nodeT top))))) ∧ Step w' w'' O' O'' := fun w' O' h' hrA st => by
        have h2 := putNodes_any h' A3 (some ⟨b, off + (lo + top.length), none⟩) d3 (c2 - (lo + top.length)) top (at_.drop (lo + top.length)) ⟨by omega, hhi⟩ hd3 (by rw [List.length_drop]; omega) (fun i hi => by rw [hL.m]; exact HK.out.2.2.2.2 i (List.mem_of_mem_drop hi)) hrA (by rw [← ints_drop]; exact rd_drop (HR2.out.step st) _) (by rw [hL.N]; have := HK.out.2.2.2.1; have := HK.out.2.1.2.1; omega) (hL.right _ (List.mem_cons_self ..))
        rw [List.length_drop, Nat.sub_add_eq, Nat.sub_add_eq, ← Nat.add_assoc] at h2
        exact h2
      have HT := Lib.hid hT
      have HL2 := Lib.hid (HG.out _ _ _ _ hL h1)
      have hln2 : (putsQ P3.st ((at_.drop (lo + top.length)).zip ((List.range ((top.length + 7) / 8)).map (nodeT top)))).length = (top.length + 7) / 8 := by
        rw [putsQ_len, zip_len _ _ _ (by rw [List.length_range, List.length_drop]; omega), List.length_range]
      have HLN := Lib.hid hln2
      have HS := Lib.hid (And.intro hsta (And.intro hbx hrd))
      have hkn : (top.length : Int) ≤ ((at_.length - lo : Nat) : Int) := by omega
      have hkn2 : top.length ≤ at_.length - lo := by omega
      have hcap : ¬ c2 - lo = top.length := by have := HK.out.2.2.1; omega
      have HH := Lib.hid (And.intro m1 (And.intro h1 hhi))
      clear hT hln2 hsta hbx hrd hL hd3 m1 hhi h1
      go_wp2_with (go_at_call 21; (with_reducible refine Calls.mono (HT.out _ _ HS.out.1.at_ HS.out.2.2 HS.out.1.st) ?_); rintro e w4 ⟨O4, A4, d4, ⟨rfl, hd4⟩, hp4, hf4, hs4⟩; have HC := Lib.hid (And.intro (HS.out.1.call hp4 hs4) (And.intro (HS.out.2.1.step hs4) (And.intro hf4.toRdA hd4))); clear HS HT hp4 hf4 hs4 hd4)
      go_roundw
      case rel => exact ⟨lo + top.length, _, top :: rest, O4, _, A4, d4, by rw [Nat.sub_add_eq, Nat.sub_add_eq, ← Nat.add_assoc], by rw [HLN.out], rfl, HL2.out, HC.out.1, HC.out.2.1, HC.out.2.2.1, by rw [HLN.out]; exact HC.out.2.2.2⟩
      case measure => have := HH.out; simp [slLen]; omega
    · have h1i : ¬ (1 : Int) < (top.length : Int) := by omega
      have hlo := hL.lv.lo
      obtain ⟨q, rfl⟩ : ∃ q, top = [q] := by
        rcases top with _ | ⟨q, _ | ⟨q2, r⟩⟩
        · simp at hlo
        · exact ⟨q, rfl⟩
        · simp at h1
      have HV := Lib.hid (HE.out _ _ _ _ hL)
      obtain ⟨q1, q2, q3⟩ := q
      obtain ⟨b1, o1, rfl, hb1, hc1⟩ := hrd.rd (by simp [pqs_len])
      have e0 := hc1 0 _ rfl
      rw [Nat.add_zero] at e0
      have e1 := hc1 1 _ rfl
      have e2 := hc1 2 _ rfl
      have HS := Lib.hid (And.intro hsta hbx)
      clear hsta hbx hrd hL hd3 h1 hlo hb1 hc1 HG HM HE
      go_wp2_with (refine st_pt2 rfl (.tmp 6) (.tmp 54) rfl w.heap.size _ q1 q2 q3 rfl rfl HS.out.2.blk rfl ?_; intro w5 hB5 hk5)
      have ha5 := HS.out.1.aside HS.out.2 (hk5 _ rfl)
      exact bodyPost_ret (ret_ptr rfl hB5 rfl) rfl ⟨O3, P3, q1, q2, q3, rfl, ha5.at_, ha5.st, _, HV.out⟩
theorem saveNo_any (h : PileAt w O g P) : Calls Try.prog 8 #[.pointer (some ⟨g, 0, none⟩), .slice none 0 0, .slice none 0 0] w fun e w' => ∃ O', e = .returned (.tuple #[ptq hole0, .int .i64 121]) ∧ PileAt w' O' g P ∧ Step w w' O O' := by
  have HNEED := Lib.hid (fun w' => need_any 0 w' (by unfold I64; omega))
  rw [show needF (0 : Int).toNat = 0 from need_no (by decide)] at HNEED
  have HA := Lib.hid (And.intro ((Sta.first h).alloc (.cells (pcs 0 0 0) 25)) (Bx.new (Sta.first h) 25 (pcs 0 0 0)))
  have hz : ∀ w, Sem.run Try.prog (zeroValue 25) w = .ok (ptv 0 0 0) w := zeroPtr8
  clear h
  go_enter Try.func8, Try.ntmps8
  go_upto_region 1 with (fail)
  generalize w.alloc (.cells (pcs 0 0 0) 25) = W at *
  go_wp2_with (first
    | (go_at_call 11; (with_reducible refine Calls.mono (HNEED.out _) ?_); rintro e w1 ⟨rfl, hb1⟩; have HB := Lib.hid (And.intro (HA.out.1.far hb1) (HA.out.2.later hb1)); clear HA HNEED hb1)
    | (refine st_pt2 rfl (.tmp 6) (.tmp 22) rfl w.heap.size _ 0 0 0 rfl rfl HB.out.2.blk rfl ?_; intro w5 hB5 hk5))
  have ha5 := HB.out.1.aside HB.out.2 (hk5 _ rfl)
  exact bodyPost_ret (ret_ptr rfl hB5 rfl) rfl ⟨O, rfl, ha5.at_, ha5.st⟩
end
end
end Go.Proofs.Ytdcegkeaopjbnaa
