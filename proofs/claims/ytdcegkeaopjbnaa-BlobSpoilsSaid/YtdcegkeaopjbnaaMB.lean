/- The texts M5 M6 M7. -/
import Derived.Test.YtdcegkeaopjbnaaMA
import Derived.Test.YtdcegkeaopjbnaaYA
import Derived.Test.YtdcegkeaopjbnaaAA
set_option maxRecDepth 10000
namespace Go.Proofs.Ytdcegkeaopjbnaa

section
open Go.RowKit Go.Shelf

theorem wpListIn_of {P : Program} {ops : Array Oper} {Q : Exit → Act → World → Prop} {l n : Nat} (hL : ¬ LetsOut Q) :
    ∀ (os : List Oper), os.all (fun o => match o.op with | .defer _ => false | _ => true) = true → ∀ (a : Act) (w : World), wpList P ops Q os a w → wpListIn (Fence.wide.inRound l) n P ops Q os a w := by
  intro os
  induction os with
  | nil => exact fun _ _ _ h => h
  | cons o rest ih =>
    intro hm a w h
    rw [List.all_cons, Bool.and_eq_true] at hm
    obtain ⟨hm1, hm2⟩ := hm
    have hnd : ∀ c, o.op ≠ .defer c := fun c e => by rw [e] at hm1; cases hm1
    simp only [wpList] at h
    simp only [wpListIn]
    by_cases hw : Region.wanted o (yielded ops a.tmps) = true
    · simp only [hw, if_true] at h ⊢
      have h := h.resolve_right fun hx => hL hx.2
      unfold Oper.wp at h
      unfold Oper.wpIn
      refine ⟨fun _ _ => trivial, ?_⟩
      rw [show Oper.semAt (Fence.wide.inRound l).round a.eval o = execOp a.eval o from Oper.semAt_some l a.eval o hnd]
      generalize (execOp a.eval o).run P w = r at *
      cases r with
      | ok x w' =>
        cases x <;> simp only [Oper.upon] at h <;> simp only [Oper.uponIn]
        case value => exact ih hm2 _ _ h
        case skip => exact ih hm2 _ _ h
        case defer => exact ih hm2 _ _ h
        case enter f args =>
          refine ⟨fun hx => absurd hx (by simp [Fence.inRound, Fence.wide]), ?_⟩
          refine CallsIn.inRound l ((callsIn_wide (n := n - 1)).2 (h.mono ?_))
          intro e w2 he
          cases e with
          | returned v => exact ih hm2 _ _ he
          | panicked c => exact he
          | outgrown => exact he
        case row row args =>
          refine ⟨fun hx => absurd hx (by simp [Fence.inRound, Fence.wide]), ?_⟩
          intro c cs _
          obtain ⟨v, w2, hr, hs⟩ := h c cs
          exact ⟨v, w2, ih hm2 _ _ hr, (stepsIn_wide (P := P)).2 hs⟩
      | halt x w' =>
        cases x <;> simp only [Oper.upon] at h <;> simp only [Oper.uponIn]
        exact h
    · simp only [hw, if_false, Bool.false_eq_true] at h ⊢
      exact ⟨fun _ _ => trivial, ih hm2 _ _ h⟩
/-- A pile's PutAt, by contract. -/
theorem pilePutAt {w : World} {O : Nat → Prop} {g : Nat} {P : Pw} (i : Int) (hi : I64 i) (A : Option Addr) (c : Nat) (l : List UInt8) (h : PileAt w O g P) (hr : RdA w O A (bys l)) (hl : l.length ≤ 140737488355328) (hN : P.N ≤ 1000000) :
    Calls Try.prog 37 #[.pointer (some ⟨g, 0, none⟩), .int .i64 i, .slice A l.length c] w fun e w' => ∃ O', e = .returned (.tuple #[ptq (putAtQ P i l), .int .i64 (putAtC P i l)]) ∧ PileAt w' O' g (putAtP P i l) ∧ Step w w' O O' := by
  obtain ⟨B, D, pv, gm, s, hp, hO⟩ := h.ex
  exact (putAt_any hp hO i hi A c l hr hl hN).mono fun e w' ⟨pv', s', e1, e2, e3⟩ => ⟨_, e1, ⟨B, D, pv', gm, s', e2, fun _ => Iff.rfl⟩, e3⟩
abbrev BoxK := List (Nat × TypeId × Array Value)
/-- A pile, boxes of the call's own, the box of the row and the row. -/
structure PI (w0 : World) (O0 : Nat → Prop) (g bo B : Nat) (K : BoxK) (W : World) (O : Nat → Prop) (P : Pw) (u v : Value) (L : List PtrV) : Prop where
  sta : Sta w0 O0 W O g P
  boxes : ∀ x ∈ K, Bx w0 W O x.1 x.2.1 x.2.2 ∧ v.ownBlock ≠ some x.1 ∧ x.1 ≠ bo
  out : Bx w0 W O bo 40 #[u]
  vo : v.ownBlock ≠ some bo
  row : Rw W O B 25 3 v L.length (pqs L)
  lo : w0.heap.size ≤ B ∧ B ≤ W.heap.size
section
variable {w0 W W' : World} {O0 O O' : Nat → Prop} {g bo B b : Nat} {K : BoxK} {P P' : Pw} {u v v' : Value} {L : List PtrV} {q : PtrV} {t : TypeId} {cs cs' : Array Value}
theorem PI.call (h : PI w0 O0 g bo B K W O P u v L) (hp : PileAt W' O' g P') (s : Step W W' O O') : PI w0 O0 g bo B K W' O' P' u v L :=
  ⟨h.sta.call hp s, fun x hx => ⟨(h.boxes x hx).1.step s, (h.boxes x hx).2⟩, h.out.step s, h.vo, h.row.step s, h.lo.1, Nat.le_trans h.lo.2 s.chg.size⟩
theorem PI.later (h : PI w0 O0 g bo B K W O P u v L) (hb : Below W.heap.size W W') : PI w0 O0 g bo B K W' O P u v L :=
  ⟨h.sta.far hb, fun x hx => ⟨(h.boxes x hx).1.later hb, (h.boxes x hx).2⟩, h.out.later hb, h.vo, h.row.later hb, h.lo.1, Nat.le_trans h.lo.2 hb.size⟩
theorem PI.drew (h : PI w0 O0 g bo B K W O P u v L) : PI w0 O0 g bo B K W.drew O P u v L := h.later (Below.refl _ _).drew
theorem PI.few {K' : BoxK} (h : PI w0 O0 g bo B K W O P u v L) (hk : ∀ x ∈ K', x ∈ K) : PI w0 O0 g bo B K' W O P u v L := { h with boxes := fun x hx => h.boxes x (hk x hx) }
theorem PI.new (h : PI w0 O0 g bo B K W O P u v L) (t : TypeId) (cs : Array Value) : PI w0 O0 g bo B ((W.heap.size, t, cs) :: K) (W.alloc (.cells cs t)) O P u v L := by
  have h2 := h.later (W' := W.alloc (.cells cs t)) ((Below.refl _ _).alloc (Nat.le_refl _) _)
  refine { h2 with boxes := fun x hx => ?_ }
  rcases List.mem_cons.1 hx with rfl | hx
  · exact ⟨Bx.new h.sta t cs, fun e => by have := (rw_lt h.row.own _ e).2; omega, by have := h.out.lt; intro e; simp only at e; omega⟩
  · exact h2.boxes x hx
theorem Bx.other {bb : Nat} {tt : TypeId} {cc : Array Value} (h : Bx w0 W O bb tt cc) (c : Chg W W' (· = b)) (hn : bb ≠ b) : Bx w0 W' O bb tt cc := h.aside c hn
/-- A store into the first of the boxes. -/
theorem PI.put (h : PI w0 O0 g bo B ((b, t, cs) :: K) W O P u v L) (hK : ∀ x ∈ K, x.1 ≠ b) (hB : Blk W' b t cs') (c : Chg W W' (· = b)) : PI w0 O0 g bo B ((b, t, cs') :: K) W' O P u v L := by
  obtain ⟨h1, h2, h3⟩ := h.boxes (b, t, cs) (List.mem_cons_self ..)
  refine ⟨h.sta.aside h1 c, fun x hx => ?_, h.out.aside c (fun e => h3 e.symm), h.vo, h.row.chg c (fun k hk e => h2 (by rw [hk]; exact congrArg some e)), h.lo.1, Nat.le_trans h.lo.2 c.size⟩
  rcases List.mem_cons.1 hx with rfl | hx
  · exact ⟨h1.put hB, h2, h3⟩
  · exact ⟨(h.boxes x (List.mem_cons_of_mem _ hx)).1.aside c (hK x hx), (h.boxes x (List.mem_cons_of_mem _ hx)).2⟩
/-- The row grows. -/
theorem PI.app (h : PI w0 O0 g bo B K W O P u v L) (c : Chg W W' (fun k => v.ownBlock = some k)) (ho : OwnQ W' B v' (L ++ [q])) (hn : ∀ k, v'.ownBlock = some k → v.ownBlock = some k ∨ W.heap.size ≤ k) : PI w0 O0 g bo B K W' O P u v' (L ++ [q]) := by
  have box : ∀ {bb : Nat} {tt : TypeId} {cc : Array Value}, Bx w0 W O bb tt cc → v.ownBlock ≠ some bb → Bx w0 W' O bb tt cc ∧ v'.ownBlock ≠ some bb := fun hb hv =>
    ⟨⟨hb.blk.chg c hv, hb.far, hb.lo⟩, fun e => (hn _ e).elim hv fun h1 => by have := hb.lt; omega⟩
  refine ⟨⟨h.sta.at_.stay c fun k hk e => h.row.far k e hk, ⟨h.sta.st.chg.trans c fun k hk e => ?_, h.sta.st.new⟩⟩, fun x hx => ?_, (box h.out h.vo).1, (box h.out h.vo).2, h.row.app h.sta.at_.foot ho hn, h.lo.1, Nat.le_trans h.lo.2 c.size⟩
  · have := (rw_lt h.row.own k e).1
    have := h.lo
    omega
  · obtain ⟨h1, h2, h3⟩ := h.boxes x hx
    exact ⟨(box h1 h2).1, (box h1 h2).2, h3⟩
/-- The row's box is stored into. -/
theorem PI.keep {u' : Value} (h : PI w0 O0 g bo B K W O P u v L) (hB : Blk W' bo 40 #[u']) (c : Chg W W' (· = bo)) : PI w0 O0 g bo B K W' O P u' v L :=
  ⟨h.sta.aside h.out c, fun x hx => ⟨(h.boxes x hx).1.aside c (h.boxes x hx).2.2, (h.boxes x hx).2⟩, h.out.put hB, h.vo, h.row.chg c (fun k hk e => h.vo (by rw [hk]; exact congrArg some e)), h.lo.1, Nat.le_trans h.lo.2 c.size⟩
/-- What is no cells turns. -/
theorem PI.turn {row : Option Nat} (h : PI w0 O0 g bo B K W O P u v L) (hg : W.grownBy W' row) (hr : ∀ r, row = some r → w0.heap.size ≤ r ∧ ∃ o : Obj, W.heap[r]? = some o ∧ o.isCells = false) : PI w0 O0 g bo B K W' O P u v L := by
  have c : Chg W W' (fun k => row = some k) := (Chg.refl W _).grown hg fun k hk => .inl hk
  have hne : ∀ k, (∀ o, W.heap[k]? = some o → o.isCells = true) → row ≠ some k := fun k hk e => by
    obtain ⟨_, o, ho, hc⟩ := hr k e
    rw [hk o ho] at hc
    cases hc
  have box : ∀ {bb : Nat} {tt : TypeId} {cc : Array Value}, Bx w0 W O bb tt cc → Bx w0 W' O bb tt cc := fun hb => ⟨hb.blk.chg c (hne _ (blk_cells hb.blk)), hb.far, hb.lo⟩
  refine ⟨⟨h.sta.at_.stay c fun k hk e => hne k (h.sta.at_.cells k hk) e, ⟨h.sta.st.chg.trans c fun k hk e => ?_, h.sta.st.new⟩⟩, fun x hx => ⟨box (h.boxes x hx).1, (h.boxes x hx).2⟩, box h.out, h.vo, h.row.chg c (fun k hk e => hne k (own_cells h.row.own hk) e), h.lo.1, Nat.le_trans h.lo.2 c.size⟩
  have := (hr k e).1
  omega
theorem PI.box (h : PI w0 O0 g bo B K W O P u v L) {x : Nat × TypeId × Array Value} (hx : x ∈ K) : Blk W x.1 x.2.1 x.2.2 := (h.boxes x hx).1.blk
end
end
section
open Go.RowKit Go.Shelf

def putsP (P : Pw) (xs : List (Nat × List UInt8)) : Pw := xs.foldl (fun P p => putAtP P (p.1 : Int) p.2) P
def putsQ (st : Nat) (xs : List (Nat × List UInt8)) : List PtrV := xs.map fun p => ((p.1 : Int), (st : Int), (sumS (blockS p.2) : Int))
def Okx (P : Pw) (xs : List (Nat × List UInt8)) : Prop := ∀ p ∈ xs, P.m.is 1 p.1 = true ∧ p.2.length ≤ 128
theorem puts_snoc (P : Pw) (xs : List (Nat × List UInt8)) (p : Nat × List UInt8) : putsP P (xs ++ [p]) = putAtP (putsP P xs) (p.1 : Int) p.2 := by simp [putsP]
theorem puts_app (P : Pw) (xs ys : List (Nat × List UInt8)) : putsP P (xs ++ ys) = putsP (putsP P xs) ys := by simp [putsP]
theorem putsQ_snoc (st : Nat) (xs : List (Nat × List UInt8)) (p : Nat × List UInt8) : putsQ st (xs ++ [p]) = putsQ st xs ++ [((p.1 : Int), (st : Int), (sumS (blockS p.2) : Int))] := by simp [putsQ]
theorem putsQ_len (st : Nat) (xs : List (Nat × List UInt8)) : (putsQ st xs).length = xs.length := by simp [putsQ]
theorem puts_was : ∀ (xs : List (Nat × List UInt8)) {P : Pw}, Okx P xs → (putsP P xs).m = P.m ∧ (putsP P xs).st = P.st ∧ (putsP P xs).nw.length = P.nw.length ∧ (putsP P xs).N = P.N + xs.length
  | [], _, _ => ⟨rfl, rfl, rfl, rfl⟩
  | p :: r, P, h => by
    obtain ⟨h1, h2⟩ := h p (List.mem_cons_self ..)
    obtain ⟨_, _, e⟩ := putAt_yes (P := P) (i := p.1) (l := p.2) (by omega) h1
    have h3 := puts_was r (P := putAtP P (p.1 : Int) p.2) (fun x hx => by rw [e]; exact h x (List.mem_cons_of_mem _ hx))
    have e0 : putsP P (p :: r) = putsP (putAtP P (p.1 : Int) p.2) r := rfl
    rw [e0]
    obtain ⟨a, b, c, d⟩ := h3
    rw [e] at a b c d
    rw [e]
    refine ⟨a, b, c.trans (by simp), d.trans ?_⟩
    rw [List.length_cons]
    show P.N + 1 + _ = _
    omega
theorem zip_snoc {β : Type} (at_ : List Nat) (D : Nat → β) (pre : List Nat) (x : Nat) (h : pre.length < at_.length) : at_.zip ((pre ++ [x]).map D) = at_.zip (pre.map D) ++ [(at_[pre.length], D x)] := by
  refine List.ext_getElem? fun j => ?_
  by_cases h1 : j < pre.length
  · rw [List.getElem?_append_left (by simp; omega)]
    simp [List.getElem?_append_left, h1, List.zip, List.getElem?_zipWith]
  · by_cases h2 : j = pre.length
    · subst h2
      rw [List.getElem?_append_right (by simp; omega)]
      simp [List.zip, List.getElem?_zipWith, Nat.min_eq_right (Nat.le_of_lt h), List.getElem?_eq_getElem h]
    · rw [List.getElem?_eq_none (by simp; omega), List.getElem?_eq_none (by simp; omega)]
theorem zip_ok {P : Pw} {at_ : List Nat} {D : Nat → List UInt8} (h : ∀ i ∈ at_, P.m.is 1 i = true) (hD : ∀ x, (D x).length ≤ 128) (pre : List Nat) : Okx P (at_.zip (pre.map D)) := fun p hp => by
  obtain ⟨a, b⟩ := p
  have h1 := List.of_mem_zip hp
  obtain ⟨x, _, rfl⟩ := List.mem_map.1 h1.2
  exact ⟨h a h1.1, hD x⟩
theorem zip_len {β : Type} (at_ : List Nat) (D : Nat → β) (pre : List Nat) (h : pre.length ≤ at_.length) : (at_.zip (pre.map D)).length = pre.length := by simp; omega
section
variable {w w0 W : World} {O O0 : Nat → Prop} {g bo B b : Nat} {K : BoxK} {P : Pw} {t : TypeId} {cs : Array Value}
theorem PI.first (h : Sta w0 O0 W O g P) (hb : Bx w0 W O bo 40 #[.slice none 0 0]) (h1 : w0.heap.size ≤ B) (h2 : B ≤ W.heap.size) : PI w0 O0 g bo B [] W O P (.slice none 0 0) (.slice none 0 0) [] :=
  ⟨h, fun _ hx => by (cases hx), hb, by simp [Value.ownBlock], ⟨World.ownsRow_nil _ _ _ _, fun b hb => by simp [Value.ownBlock] at hb⟩, h1, h2⟩
theorem PI.add (h : PI w0 O0 g bo B K W O P (.slice none 0 0) (.slice none 0 0) []) (hb : Bx w0 W O b t cs) (hn : b ≠ bo) : PI w0 O0 g bo B ((b, t, cs) :: K) W O P (.slice none 0 0) (.slice none 0 0) [] := by
  refine { h with boxes := fun x hx => ?_ }
  rcases List.mem_cons.1 hx with rfl | hx
  · exact ⟨hb, by simp [Value.ownBlock], hn⟩
  · exact h.boxes x hx
/-- Seven boxes; the fifth is the row's. -/
theorem pi_seven (h : PileAt w O g P) (t1 t2 t3 t4 t6 t7 : TypeId) (c1 c2 c3 c4 c6 c7 : Array Value) :
    ∃ W, W = ((((((w.alloc (.cells c1 t1)).alloc (.cells c2 t2)).alloc (.cells c3 t3)).alloc (.cells c4 t4)).alloc (.cells #[.slice none 0 0] 40)).alloc (.cells c6 t6)).alloc (.cells c7 t7) ∧ W.heap.size = w.heap.size + 7 ∧
      PI w O g (w.heap.size + 4) (w.heap.size + 7) [(w.heap.size, t1, c1), (w.heap.size + 1, t2, c2), (w.heap.size + 2, t3, c3), (w.heap.size + 3, t4, c4), (w.heap.size + 5, t6, c6), (w.heap.size + 6, t7, c7)] W O P (.slice none 0 0) (.slice none 0 0) [] := by
  have s1 := (Sta.first h).alloc (.cells c1 t1)
  have s2 := s1.alloc (.cells c2 t2)
  have s3 := s2.alloc (.cells c3 t3)
  have s4 := s3.alloc (.cells c4 t4)
  have s5 := s4.alloc (.cells #[.slice none 0 0] 40)
  have s6 := s5.alloc (.cells c6 t6)
  have s7 := s6.alloc (.cells c7 t7)
  have b1 := ((((((Bx.new (Sta.first h) t1 c1).alloc (.cells c2 t2)).alloc (.cells c3 t3)).alloc (.cells c4 t4)).alloc (.cells #[.slice none 0 0] 40)).alloc (.cells c6 t6)).alloc (.cells c7 t7)
  have b2 := (((((Bx.new s1 t2 c2).alloc (.cells c3 t3)).alloc (.cells c4 t4)).alloc (.cells #[.slice none 0 0] 40)).alloc (.cells c6 t6)).alloc (.cells c7 t7)
  have b3 := ((((Bx.new s2 t3 c3).alloc (.cells c4 t4)).alloc (.cells #[.slice none 0 0] 40)).alloc (.cells c6 t6)).alloc (.cells c7 t7)
  have b4 := (((Bx.new s3 t4 c4).alloc (.cells #[.slice none 0 0] 40)).alloc (.cells c6 t6)).alloc (.cells c7 t7)
  have b5 := ((Bx.new s4 40 #[.slice none 0 0]).alloc (.cells c6 t6)).alloc (.cells c7 t7)
  have b6 := (Bx.new s5 t6 c6).alloc (.cells c7 t7)
  have b7 := Bx.new s6 t7 c7
  simp only [World.size_alloc, Nat.add_assoc, Nat.reduceAdd] at b2 b3 b4 b5 b6 b7
  refine ⟨_, rfl, by simp [World.size_alloc], ?_⟩
  exact ((((((PI.first s7 b5 (by omega) (by simp [World.size_alloc])).add b7 (by omega)).add b6 (by omega)).add b4 (by omega)).add b3 (by omega)).add b2 (by omega)).add b1 (by omega)
end
end
section
open Go.RowKit Go.Shelf
attribute [local go_sem] Oper.semAt_some

theorem chunkB_stops (n : Nat) (hn : 1 ≤ n) (b1 b2 len c : Nat) (A : Option Addr) (hlen : len ≤ 65535) (hc : len ≤ c) (w : World) (h1 : Blk w b1 34 #[.slice A len c]) (h2 : Blk w b2 3 #[.int .i64 128]) :
    SeqStopsK Fence.wide n Try.prog 47 #[.pointer (some ⟨b1, 0, none⟩), .pointer (some ⟨b2, 0, none⟩)] (fun x : Nat => #[cutV A len 128 1 x]) (Kp2 b1 b2) (fun ys => ys = List.range ((len + 127) / 128)) (fun pre => pre <+: List.range ((len + 127) / 128)) ((len + 127) / 128) w :=
  fun l J Jx W hW hJ _ hY h0 => chunkB1_in n hn l b1 b2 len c A hlen hc J Jx W hJ hY (h1.below hW h1.lt) (h2.below hW h2.lt) h0
theorem chunk_len (l : List UInt8) (x : Nat) : (chunk l x).length = min 128 (l.length - 128 * x) := by simp [chunk]
theorem bys_len' (l : List UInt8) : (bys l).length = l.length := by simp [bys]
theorem bys_chunk (l : List UInt8) (x : Nat) : bys (chunk l x) = ((bys l).drop (128 * x)).take 128 := by simp [bys, chunk, List.map_take, List.map_drop]
theorem rd_take {w : World} {O : Nat → Prop} {A : Option Addr} {xs : List Value} (h : RdA w O A xs) (k n s : Nat) (hs : s = k) : RdA w O (A.map (·.add s)) ((xs.drop k).take n) := by
  subst hs
  have hlen : 0 < ((xs.drop s).take n).length → 0 < xs.length := fun hn => by rw [List.length_take, List.length_drop] at hn; omega
  refine ⟨fun hn => ?_, fun b off e hn => ?_⟩
  · obtain ⟨b, off, rfl, hl, hc⟩ := h.rd (hlen hn)
    refine ⟨b, off + s, by simp [addr_flat], hl, fun j v hv => ?_⟩
    rw [Nat.add_assoc]
    refine hc (s + j) v ?_
    rw [List.getElem?_take] at hv
    split at hv
    · rw [List.getElem?_drop] at hv
      exact hv
    · cases hv
  · obtain ⟨b', off', rfl, hl, _⟩ := h.rd (hlen hn)
    have := h.apart b' off' rfl (hlen hn)
    simp only [Option.map_some, addr_flat, Option.some.injEq, Addr.mk.injEq] at e
    rw [← e.1]
    exact this
theorem cutV_chunk (A : Option Addr) (l : List UInt8) (x : Nat) : cutV A l.length 128 1 x = .slice (A.map (·.add (128 * x * 1))) (chunk l x).length (chunk l x).length := by rw [chunk_len]; rfl
theorem blk_eq {V W : World} {b : Nat} {t : TypeId} {cs : Array Value} (h : Blk W b t cs) (h' : Blk V b t cs) : W.heap[b]? = V.heap[b]? := by
  unfold Blk at h h'
  rw [h, h']
theorem chg_set (V : World) (b : Nat) (u : Value) : Chg V (V.setCell ⟨b, 0, none⟩ u) (· = b) := (Chg.refl V (· = b)).setCell (p := ⟨b, 0, none⟩) (.inl rfl) u
theorem blk_set1 {V : World} {b : Nat} {t : TypeId} {u : Value} (h : Blk V b t #[u]) (v : Value) : Blk (V.setCell ⟨b, 0, none⟩ v) b t #[v] := by simpa using h.set_ 0 v
theorem put_part {w V' : World} {O O' : Nat → Prop} {g : Nat} {Pc : Pw} (i : Nat) (hi : i < 1024) (A : Option Addr) (l : List UInt8) (x : Nat) (h' : PileAt V' O' g Pc) (hr : RdA w O A (bys l)) (st : Step w V' O O') (hN : Pc.N ≤ 1000000) (hc : putAtC Pc (i : Int) (chunk l x) = 0) :
    Calls Try.prog 37 #[.pointer (some ⟨g, 0, none⟩), .int .i64 (i : Int), .slice (A.map (·.add (128 * x * 1))) (chunk l x).length (chunk l x).length] V' fun e w' => ∃ O'', e = .returned (.tuple #[ptq (putAtQ Pc (i : Int) (chunk l x)), .int .i64 0]) ∧ PileAt w' O'' g (putAtP Pc (i : Int) (chunk l x)) ∧ Step V' w' O' O'' := by
  have hx : RdA V' O' (A.map (·.add (128 * x * 1))) (bys (chunk l x)) := by
    rw [bys_chunk]
    exact rd_take (hr.step st) _ _ _ (by omega)
  have := pilePutAt (i : Int) (by unfold I64; omega) _ (chunk l x).length (chunk l x) h' hx (by rw [chunk_len]; omega) hN
  rw [hc] at this
  exact this
/-- A pile takes no more than 1024 sectors. -/
theorem PileAt.small {w : World} {O : Nat → Prop} {g : Nat} {P : Pw} (h : PileAt w O g P) {i : Nat} (hi : P.m.is 1 i = true) : i < 1024 := by
  obtain ⟨B, D, pv, gm, s, hp, hO⟩ := h.ex
  have := (Mp.is_iff.1 hi).2.1
  have := hp.tot
  have := hp.dev.hn
  omega
/-- The same since the world V, of which what is no cells stays. -/
def PJ (B0 : Nat) (V : World) (w0 : World) (O0 : Nat → Prop) (g bo B : Nat) (K : BoxK) (W : World) (O : Nat → Prop) (P : Pw) (u v : Value) (L : List PtrV) : Prop := KeepsFrom B0 V W ∧ PI w0 O0 g bo B K W O P u v L
section
variable {V w0 W W' : World} {O0 O O' : Nat → Prop} {B0 g bo B b : Nat} {K : BoxK} {P P' : Pw} {u v v' : Value} {L : List PtrV} {q : PtrV} {t : TypeId} {cs cs' : Array Value}
theorem keeps_below {B0 : Nat} {W W' : World} (hb : Below W.heap.size W W') : KeepsFrom B0 W W' := ⟨hb.size, fun k _o _ ho _ => (hb.block k (Array.getElem?_eq_some_iff.1 ho).1).trans ho⟩
theorem PJ.first (B0 : Nat) (h : PI w0 O0 g bo B K W O P u v L) : PJ B0 W w0 O0 g bo B K W O P u v L := ⟨KeepsFrom.refl _ _, h⟩
theorem PJ.call (h : PJ B0 V w0 O0 g bo B K W O P u v L) (hp : PileAt W' O' g P') (s : Step W W' O O') : PJ B0 V w0 O0 g bo B K W' O' P' u v L := ⟨h.1.trans (KeepsFrom.of_step s h.2.sta.at_.cells), h.2.call hp s⟩
theorem PJ.later (h : PJ B0 V w0 O0 g bo B K W O P u v L) (hb : Below W.heap.size W W') : PJ B0 V w0 O0 g bo B K W' O P u v L := ⟨h.1.trans (keeps_below hb), h.2.later hb⟩
theorem PJ.drew (h : PJ B0 V w0 O0 g bo B K W O P u v L) : PJ B0 V w0 O0 g bo B K W.drew O P u v L := h.later (Below.refl _ _).drew
theorem PJ.new (h : PJ B0 V w0 O0 g bo B K W O P u v L) (t : TypeId) (cs : Array Value) : PJ B0 V w0 O0 g bo B ((W.heap.size, t, cs) :: K) (W.alloc (.cells cs t)) O P u v L := ⟨h.1.trans (keeps_below ((Below.refl _ _).alloc (Nat.le_refl _) _)), h.2.new t cs⟩
theorem PJ.put (h : PJ B0 V w0 O0 g bo B ((b, t, cs) :: K) W O P u v L) (hK : ∀ x ∈ K, x.1 ≠ b) (hB : Blk W' b t cs') (c : Chg W W' (· = b)) : PJ B0 V w0 O0 g bo B ((b, t, cs') :: K) W' O P u v L :=
  ⟨h.1.trans (KeepsFrom.of_chg c fun k hk => by subst hk; exact blk_cells (h.2.box (x := (k, t, cs)) (List.mem_cons_self ..))), h.2.put hK hB c⟩
theorem PJ.app (h : PJ B0 V w0 O0 g bo B K W O P u v L) (c : Chg W W' (fun k => v.ownBlock = some k)) (ho : OwnQ W' B v' (L ++ [q])) (hn : ∀ k, v'.ownBlock = some k → v.ownBlock = some k ∨ W.heap.size ≤ k) : PJ B0 V w0 O0 g bo B K W' O P u v' (L ++ [q]) :=
  ⟨h.1.trans (KeepsFrom.of_chg c fun _k hk => own_cells h.2.row.own hk), h.2.app c ho hn⟩
theorem PJ.keep {u' : Value} (h : PJ B0 V w0 O0 g bo B K W O P u v L) (hB : Blk W' bo 40 #[u']) (c : Chg W W' (· = bo)) : PJ B0 V w0 O0 g bo B K W' O P u' v L :=
  ⟨h.1.trans (KeepsFrom.of_chg c fun k hk => by subst hk; exact blk_cells h.2.out.blk), h.2.keep hB c⟩
end
section
variable {w : World} {O : Nat → Prop} {g : Nat} {P : Pw}
set_option maxRecDepth 100000 in
set_option maxHeartbeats 4000000 in
theorem putText_any (h : PileAt w O g P) (A A2 : Option Addr) (c c2 : Nat) (l : List UInt8) (at_ : List Nat) (hl : 1 ≤ l.length ∧ l.length ≤ 65535) (hc : l.length ≤ c) (hk : (l.length + 127) / 128 ≤ at_.length) (hat : ∀ i ∈ at_, P.m.is 1 i = true)
    (hr : RdA w O A (bys l)) (hr2 : RdA w O A2 (ints (natI at_))) (hN : P.N ≤ 900600) :
    Calls Try.prog 20 #[.pointer (some ⟨g, 0, none⟩), .slice A l.length c, .slice A2 at_.length c2] w fun e w' => ∃ O' A' d, (e = .returned (.tuple #[.slice A' ((l.length + 127) / 128) d, .int .i64 0]) ∧ (l.length + 127) / 128 ≤ d) ∧ PileAt w' O' g (putsP P (at_.zip ((List.range ((l.length + 127) / 128)).map (chunk l)))) ∧
      RdF w w' O' A' (pqs (putsQ P.st (at_.zip ((List.range ((l.length + 127) / 128)).map (chunk l))))) ∧ Step w w' O O' := by
  obtain ⟨W, hW, hsz, h7⟩ := pi_seven h 29 35 40 26 34 3 #[.pointer (some ⟨g, 0, none⟩)] #[.slice A2 at_.length c2] #[.slice none 0 0] #[.int .i64 0] #[.slice A l.length c] #[.int .i64 128]
  have H7 := Lib.hid (And.intro hW (And.intro hsz h7))
  have HR := Lib.hid (And.intro hr hr2)
  have HA := Lib.hid (And.intro hl (And.intro hc (And.intro hk (And.intro hat hN))))
  clear h hW hsz h7 hr hr2 hl hc hk hat hN
  refine (callsIn_wide (n := 4)).1 ?_
  refine callsIn_of_wp_marks Try.func20 rfl trivial ?_ rfl
  simp only [Try.ntmps20, List.size_toArray, List.length_cons, List.length_nil, Nat.reduceAdd, Nat.reduceSub, Array.replicate_succ, Array.replicate_zero, List.push_toArray, List.append_toArray, List.nil_append, List.cons_append]
  gi_wp2_with fail
  refine ⟨trivial, (callsIn_wide.2 (chunkB_any A l.length c _)).mono ?_⟩
  rintro e w' ⟨rfl, rfl⟩
  gi_wp2_with fail
  simp only [Nat.add_assoc, Nat.reduceAdd]
  rw [← H7.out.1]
  have HI : Hid (PI w O g _ _ _ W O P _ _ _) := Lib.hid H7.out.2.2
  have HS : Hid (W.heap.size = w.heap.size + 7) := Lib.hid H7.out.2.1
  clear H7
  generalize w.heap.size = s0 at *
  refine wpIn_rangeFunc_ownG rfl (by omega) (gf := 47) (lb := #[.pointer (some ⟨s0 + 5, 0, none⟩), .pointer (some ⟨s0 + 6, 0, none⟩)]) rfl trivial (enters_of Try.func47 (by kernel_rfl) rfl)
    (chunkB_stops 3 (by omega) (s0 + 5) (s0 + 6) l.length c A HA.out.1.2 HA.out.2.1 W (HI.out.box (x := (s0 + 5, 34, #[.slice A l.length c])) (by simp)) (HI.out.box (x := (s0 + 6, 3, #[.int .i64 128])) (by simp))) kp2_t (kp2_b (by have := HS.out; omega) (by have := HS.out; omega)) (Below.refl _ _) (fun _ => rfl)
    (fun pre V => ∃ O1 v, PI w O g (s0 + 4) (s0 + 7) [(s0, 29, #[.pointer (some ⟨g, 0, none⟩)]), (s0 + 1, 35, #[.slice A2 at_.length c2]), (s0 + 2, 40, #[.slice none 0 0]), (s0 + 3, 26, #[.int .i64 0]), (s0 + 5, 34, #[.slice A l.length c]), (s0 + 6, 3, #[.int .i64 128])] V O1 (putsP P (at_.zip (pre.map (chunk l)))) v v (putsQ P.st (at_.zip (pre.map (chunk l)))))
    (fun _ _ _ => False)
    (fun pre V V' row hs hg hr => by
      obtain ⟨O1, v, hs⟩ := hs
      exact ⟨O1, v, hs.turn hg fun r e => ⟨by have := (hr r e).1; have := HI.out.lo; have := HS.out; omega, (hr r e).2⟩⟩)
    (fun _ _ _ _ _ hs _ _ => hs)
    ⟨O, _, by simpa [putsP, putsQ] using HI.out⟩
    (fun x => { tmps := #[.pointer (some ⟨g, 0, none⟩), .slice A l.length c, .slice A2 at_.length c2, .pointer (some ⟨s0, 0, none⟩), undef, .pointer (some ⟨s0 + 1, 0, none⟩), .pointer (some ⟨s0 + 2, 0, none⟩), .pointer (some ⟨s0 + 3, 0, none⟩), .pointer (some ⟨s0 + 4, 0, none⟩), cutV A l.length 128 1 x, undef, undef, .slice A l.length c, .func (.func 47) #[] #[.pointer (some ⟨s0 + 5, 0, none⟩), .pointer (some ⟨s0 + 6, 0, none⟩)], cutV A l.length 128 1 x, undef, undef, undef, undef, undef, undef, undef, undef, undef, undef, undef, undef, undef, undef, undef, undef, undef, undef, undef], defers := [] }) ?assign ?body ?done ?stop
  case assign =>
    intro l0 x V K hK
    gi_wp2
    exact hK
  case body =>
    rintro l0 pre x V ⟨O1, v, hI⟩ hlt
    have hkl : pre.length < at_.length := Nat.lt_of_lt_of_le hlt HA.out.2.2.1
    obtain ⟨pm, pst, pnw, pN⟩ := puts_was _ (zip_ok HA.out.2.2.2.1 (D := chunk l) (fun y => by rw [chunk_len]; omega) pre)
    rw [zip_len at_ (chunk l) pre (Nat.le_of_lt hkl)] at pN
    have hZ := zip_snoc at_ (chunk l) pre x hkl
    have hT := HA.out.2.2.2.1 _ (List.getElem_mem hkl)
    obtain ⟨b, off, rfl, hbw, hcw⟩ := HR.out.2.rd (by rw [ints_len, natI_len]; omega)
    have hnb := HR.out.2.apart b off rfl (by rw [ints_len, natI_len]; omega)
    have hcT := hcw pre.length _ (ints_natI_at hkl)
    rw [← pm] at hT
    have hTs := hI.sta.at_.small hT
    obtain ⟨yc, yq, yp⟩ := putAt_yes (P := putsP P (at_.zip (pre.map (chunk l)))) (i := at_[pre.length]) (l := chunk l x) (by rw [chunk_len]; omega) hT
    have hL : (putsQ P.st (at_.zip (pre.map (chunk l)))).length = pre.length := by rw [putsQ_len, zip_len _ _ _ (Nat.le_of_lt hkl)]
    have hEP : putsP P (at_.zip ((pre ++ [x]).map (chunk l))) = putAtP (putsP P (at_.zip (pre.map (chunk l)))) (at_[pre.length] : Int) (chunk l x) := by rw [hZ, puts_snoc]
    have hEQ : putsQ P.st (at_.zip ((pre ++ [x]).map (chunk l))) = putsQ P.st (at_.zip (pre.map (chunk l))) ++ [putAtQ (putsP P (at_.zip (pre.map (chunk l)))) (at_[pre.length] : Int) (chunk l x)] := by rw [hZ, putsQ_snoc, yq, pst]
    have HE := Lib.hid (And.intro hEP hEQ)
    have hNN : (putsP P (at_.zip (pre.map (chunk l)))).N ≤ 1000000 := by rw [pN]; have := HA.out.2.2.2.2; have := HA.out.1.2; omega
    have HP := Lib.hid fun V' O' (h' : PileAt V' O' g (putsP P (at_.zip (pre.map (chunk l))))) (st : Step w V' O O') => put_part at_[pre.length] hTs A l x h' HR.out.1 st hNN yc
    rw [cutV_chunk]
    generalize (chunk l x).length = cl at *
    generalize A.map (·.add (128 * x * 1)) = A' at *
    generalize at_[pre.length] = T at *
    generalize putAtQ (putsP P (at_.zip (pre.map (chunk l)))) (T : Int) (chunk l x) = q at *
    generalize putAtP (putsP P (at_.zip (pre.map (chunk l)))) (T : Int) (chunk l x) = Pn at *
    generalize putsP P (at_.zip (pre.map (chunk l))) = Pc at *
    generalize putsQ P.st (at_.zip (pre.map (chunk l))) = L at *
    rw [← hL] at hkl hcT
    obtain ⟨Av, cv, rfl, _, _⟩ := own_rd hI.row.own
    have HL : Hid (L.length ≤ 600) := Lib.hid (by have := HA.out.1; omega)
    have HC : Hid (∀ V' O', Step w V' O O' → V'.cell? ⟨b, off + L.length, none⟩ = some (.int .i64 (T : Int))) := Lib.hid fun V' O' st => (st.chg.cell hbw hnb _).trans hcT
    have hki : (L.length : Int) < (at_.length : Int) := by omega
    have HX := Lib.hid (PJ.first W.heap.size hI)
    have HV := Lib.hid hI
    clear hI hlt pm pst pnw pN hZ hT hcw hnb hcT hTs yc yq yp hEP hEQ hNN hL hkl hbw
    obtain ⟨q1, q2, q3⟩ := q
    gi_wp2_with fail
    have HSo : Hid (∀ V' O' P' K', (∀ y ∈ ([(s0, 29, #[.pointer (some ⟨g, 0, none⟩)]), (s0 + 1, 35, #[.slice (some ⟨b, off, none⟩) at_.length c2])] : BoxK), y ∈ K') → PI w O g (s0 + 4) (s0 + 7) K' V' O' P' (.slice Av L.length cv) (.slice Av L.length cv) L → (fun V' => V'.cell? ⟨s0, 0, none⟩ = some (.pointer (some ⟨g, 0, none⟩)) ∧ V'.cell? ⟨s0 + 1, 0, none⟩ = some (.slice (some ⟨b, off, none⟩) at_.length c2) ∧ V'.cell? ⟨s0 + 4, 0, none⟩ = some (.slice Av L.length cv) ∧ V'.cell? ⟨b, off + L.length, none⟩ = some (.int .i64 (T : Int))) V') := Lib.hid fun V' O' P' K' hy h' => ⟨(h'.box (x := (s0, 29, #[.pointer (some ⟨g, 0, none⟩)])) (hy _ (by simp))).cell 0, (h'.box (x := (s0 + 1, 35, #[.slice (some ⟨b, off, none⟩) at_.length c2])) (hy _ (by simp))).cell 0, h'.out.blk.cell 0, HC.out V' O' h'.sta.st⟩
    have HY := Lib.hid HX.out.drew
    clear HX
    refine wpIn_held (fun V' => V'.cell? ⟨s0, 0, none⟩ = some (.pointer (some ⟨g, 0, none⟩)) ∧ V'.cell? ⟨s0 + 1, 0, none⟩ = some (.slice (some ⟨b, off, none⟩) at_.length c2) ∧ V'.cell? ⟨s0 + 4, 0, none⟩ = some (.slice Av L.length cv) ∧ V'.cell? ⟨b, off + L.length, none⟩ = some (.int .i64 (T : Int))) (by kernel_rfl) (by kernel_rfl) (fun ⟨_, _, h⟩ => h) (HSo.out _ _ _ _ (by simp) HY.out.2) (fun hHeld => ?_)
    generalize V.drew = V0 at *
    refine wpAnyH_take (i := 0) (v := .pointer (some ⟨g, 0, none⟩)) rfl (by kernel_rfl) (by kernel_rfl) (by kernel_rfl) (fun _ _ _ h => h) (Or.inl ⟨by rfl, ?_⟩) (by assumption) ?_
    · intro w' hS
      obtain ⟨h1, h2, h3, h4⟩ := hS; go_simp; try with_reducible rfl
    try simp [Act.put]
    refine wpAnyH_take (i := 1) (v := .slice (some ⟨b, off, none⟩) at_.length c2) rfl (by kernel_rfl) (by kernel_rfl) (by kernel_rfl) (fun _ _ _ h => h) (Or.inl ⟨by rfl, ?_⟩) (by assumption) ?_
    · intro w' hS
      obtain ⟨h1, h2, h3, h4⟩ := hS; go_simp; try with_reducible rfl
    try simp [Act.put]
    refine wpAnyH_take (i := 2) (v := .slice Av L.length cv) rfl (by kernel_rfl) (by kernel_rfl) (by kernel_rfl) (fun _ _ _ h => h) (Or.inl ⟨by rfl, ?_⟩) (by assumption) ?_
    · intro w' hS
      obtain ⟨h1, h2, h3, h4⟩ := hS; go_simp; try with_reducible rfl
    try simp [Act.put]
    refine wpAnyH_take (i := 3) (v := .int .i64 (L.length : Int)) rfl (by kernel_rfl) (by kernel_rfl) (by kernel_rfl) (fun _ _ _ h => h) (Or.inl ⟨by rfl, ?_⟩) (by assumption) ?_
    · intro w' hS; go_simp; try with_reducible rfl
    try simp [Act.put]
    refine wpAnyH_take (i := 4) (v := .pointer (some ⟨b, off + L.length, none⟩)) rfl (by kernel_rfl) (by kernel_rfl) (by kernel_rfl) (fun _ _ _ h => h) (Or.inl ⟨by rfl, ?_⟩) (by assumption) ?_
    · intro w' hS; go_simp; try with_reducible rfl
    try simp [Act.put]
    refine wpAnyH_take (i := 5) (v := .int .i64 (T : Int)) rfl (by kernel_rfl) (by kernel_rfl) (by kernel_rfl) (fun _ _ _ h => h) (Or.inl ⟨by rfl, ?_⟩) (by assumption) ?_
    · intro w' hS
      obtain ⟨h1, h2, h3, h4⟩ := hS; go_simp; try with_reducible rfl
    try simp [Act.put]
    refine wpAnyH_take (i := 6) (v := .slice A' cl cl) rfl (by kernel_rfl) (by kernel_rfl) (by kernel_rfl) (fun _ _ _ h => h) (Or.inl ⟨by rfl, ?_⟩) (by assumption) ?_
    · intro w' hS; go_simp; try with_reducible rfl
    try simp [Act.put]
    refine wpAnyH_ready (rs := [7, 11]) (by kernel_rfl) (by simp) ?_
    refine (AllReadyH.cons rfl (fun K hK => ?_) (AllReadyH.cons rfl (fun K hK => ?_) AllReadyH.nil))
    · skip
      go_simp
      refine Calls.mono (HP.out V0 _ HY.out.2.sta.at_ HY.out.2.sta.st) ?_
      rintro e V1 ⟨O2, rfl, hp1, hs1⟩
      have HZ := Lib.hid (HY.out.call hp1 hs1)
      clear HY hp1 hs1 HP
      have HY := HZ
      clear HZ
      refine hK.out _ _ (HSo.out _ _ _ _ (by simp) HY.out.2) (fun hHeld2 => ?_)
      clear hK K
      try simp
      clear hHeld
      have hHeld := hHeld2
      clear hHeld2
      refine wpAnyH_take (i := 8) (v := .tuple #[ptq (q1, q2, q3), .int .i64 0]) rfl (by kernel_rfl) (by kernel_rfl) (by kernel_rfl) (fun _ _ _ h => h) (Or.inl ⟨by rfl, ?_⟩) (by assumption) ?_
      · intro w' hS; go_simp; try with_reducible rfl
      try simp [Act.put]
      refine wpAnyH_take (i := 9) (v := ptv q1 q2 q3) rfl (by kernel_rfl) (by kernel_rfl) (by kernel_rfl) (fun _ _ _ h => h) (Or.inl ⟨by rfl, ?_⟩) (by assumption) ?_
      · intro w' hS; go_simp; try with_reducible rfl
      try simp [Act.put]
      refine wpAnyH_take (i := 10) (v := .int .i64 0) rfl (by kernel_rfl) (by kernel_rfl) (by kernel_rfl) (fun _ _ _ h => h) (Or.inl ⟨by rfl, ?_⟩) (by assumption) ?_
      · intro w' hS; go_simp; try with_reducible rfl
      try simp [Act.put]
      refine wpAnyH_ready (rs := [11]) (by kernel_rfl) (by simp) ?_
      refine (AllReadyH.cons rfl (fun K hK => ?_) AllReadyH.nil)
      go_simp
      have HZ := Lib.hid (HY.out.new 25 (pcs 0 0 0))
      have HG : Hid (s0 + 7 ≤ V1.heap.size) := Lib.hid HY.out.2.lo.2
      clear HY
      have HY := HZ
      clear HZ
      refine hK.out _ _ (HSo.out _ _ _ _ (by simp) HY.out.2) (fun hHeld2 => ?_)
      clear hK K
      generalize V1.alloc (.cells (pcs 0 0 0) 25) = V2 at *
      generalize V1.heap.size = gq at *
      try simp
      clear hHeld
      have hHeld := hHeld2
      clear hHeld2
      refine wpAnyH_ready (rs := [12]) (by kernel_rfl) (by simp) ?_
      refine (AllReadyH.cons rfl (fun K hK => ?_) AllReadyH.nil)
      refine step_stPt rfl (.tmp 10) (.tmp 24) rfl gq q1 q2 q3 0 0 0 rfl rfl (HY.out.2.box (x := (gq, 25, pcs 0 0 0)) (by simp)) ?_
      intro V4 hB4 _ hc4
      have HZ := Lib.hid (HY.out.put (by have := HG.out; simp; omega) hB4 (hc4 _ rfl))
      clear HY hB4 hc4
      have HY := HZ
      clear HZ
      refine hK.out _ _ (HSo.out _ _ _ _ (by simp) HY.out.2) (fun hHeld2 => ?_)
      clear hK K
      try simp
      clear hHeld
      have hHeld := hHeld2
      clear hHeld2
      refine wpAnyH_take (i := 13) (v := .int .i64 0) rfl (by kernel_rfl) (by kernel_rfl) (by kernel_rfl) (fun _ _ _ h => h) (Or.inl ⟨by rfl, ?_⟩) (by assumption) ?_
      · intro w' hS; go_simp; try with_reducible rfl
      try simp [Act.put]
      refine wpAnyH_done (by kernel_rfl) ?_ _
      obtain ⟨_, _, c8, _⟩ := hHeld
      have hbq := HY.out.2.box (x := (gq, 25, pcs q1 q2 q3)) (by simp)
      have hq0 := hbq.cell 0
      have hq1 := hbq.cell 1
      have hq2 := hbq.cell 2
      simp only [pcs, List.getElem?_toArray, List.getElem?_cons_zero, List.getElem?_cons_succ] at hq0 hq1 hq2
      clear hbq
      gi_wp2_with (gi_at_builtin; refine wpListIn_of (fun ⟨_, _, h⟩ => h) _ (by kernel_rfl) _ _ ?_; refine app_ptr rfl 29 31 rfl (s0 + 7) (.slice Av L.length cv) L rfl (show OwnQ V4 (s0 + 7) (.slice Av L.length cv) L from HY.out.2.row.own) (q1, q2, q3) V4.heap.size rfl rfl HY.out.2.lo.2 (by have := HL.out; omega) ?_; intro v5 V5 hown hgr hnw; obtain ⟨g5, d5, rfl, _, _, _⟩ := own_form hown (by simp); have HZ := Lib.hid (HY.out.app (((Chg.refl V4 _).alloc _).grown hgr fun k hk => .inl hk) hown hnw); have c9 := HZ.out.2.out.blk.cell 0; have f9 := HZ.out.2.out.blk.frozen 0; simp only [List.getElem?_toArray, List.getElem?_cons_zero] at c9; rw [List.length_append, List.length_singleton] at HZ; clear hown hgr hnw c8 hq0 hq1 hq2)
      go_wp2_with fail
      have HW := HZ.out.keep (W' := V5.setCell ⟨s0 + 4, 0, none⟩ (.slice (some ⟨g5, 0, none⟩) (L.length + 1) d5)) (blk_set1 HZ.out.2.out.blk _) (chg_set V5 (s0 + 4) _)
      have e1 := blk_eq (HW.2.box (x := (s0 + 5, 34, #[.slice A l.length c])) (by simp)) (HV.out.box (x := (s0 + 5, 34, #[.slice A l.length c])) (by simp))
      have e2 := blk_eq (HW.2.box (x := (s0 + 6, 3, #[.int .i64 128])) (by simp)) (HV.out.box (x := (s0 + 6, 3, #[.int .i64 128])) (by simp))
      refine ⟨HW.1, ⟨e1, e2⟩, O2, .slice (some ⟨g5, 0, none⟩) (L.length + 1) d5, ?_⟩
      rw [HE.out.1, HE.out.2]
      exact HW.2.few fun y hy => List.mem_cons_of_mem _ hy
    · skip
      go_simp
      have HZ := Lib.hid (HY.out.new 25 (pcs 0 0 0))
      have HG : Hid (s0 + 7 ≤ V0.heap.size) := Lib.hid HY.out.2.lo.2
      clear HY
      have HY := HZ
      clear HZ
      refine hK.out _ _ (HSo.out _ _ _ _ (by simp) HY.out.2) (fun hHeld2 => ?_)
      clear hK K
      generalize V0.alloc (.cells (pcs 0 0 0) 25) = V1 at *
      generalize V0.heap.size = gq at *
      try simp
      clear hHeld
      have hHeld := hHeld2
      clear hHeld2
      refine wpAnyH_ready (rs := [7]) (by kernel_rfl) (by simp) ?_
      refine (AllReadyH.cons rfl (fun K hK => ?_) AllReadyH.nil)
      go_simp
      refine Calls.mono (HP.out V1 _ HY.out.2.sta.at_ HY.out.2.sta.st) ?_
      rintro e V2 ⟨O2, rfl, hp1, hs1⟩
      have HZ := Lib.hid (HY.out.call hp1 hs1)
      clear HY hp1 hs1 HP
      have HY := HZ
      clear HZ
      refine hK.out _ _ (HSo.out _ _ _ _ (by simp) HY.out.2) (fun hHeld2 => ?_)
      clear hK K
      try simp
      clear hHeld
      have hHeld := hHeld2
      clear hHeld2
      refine wpAnyH_take (i := 8) (v := .tuple #[ptq (q1, q2, q3), .int .i64 0]) rfl (by kernel_rfl) (by kernel_rfl) (by kernel_rfl) (fun _ _ _ h => h) (Or.inl ⟨by rfl, ?_⟩) (by assumption) ?_
      · intro w' hS; go_simp; try with_reducible rfl
      try simp [Act.put]
      refine wpAnyH_take (i := 9) (v := ptv q1 q2 q3) rfl (by kernel_rfl) (by kernel_rfl) (by kernel_rfl) (fun _ _ _ h => h) (Or.inl ⟨by rfl, ?_⟩) (by assumption) ?_
      · intro w' hS; go_simp; try with_reducible rfl
      try simp [Act.put]
      refine wpAnyH_take (i := 10) (v := .int .i64 0) rfl (by kernel_rfl) (by kernel_rfl) (by kernel_rfl) (fun _ _ _ h => h) (Or.inl ⟨by rfl, ?_⟩) (by assumption) ?_
      · intro w' hS; go_simp; try with_reducible rfl
      try simp [Act.put]
      refine wpAnyH_ready (rs := [12]) (by kernel_rfl) (by simp) ?_
      refine (AllReadyH.cons rfl (fun K hK => ?_) AllReadyH.nil)
      refine step_stPt rfl (.tmp 10) (.tmp 24) rfl gq q1 q2 q3 0 0 0 rfl rfl (HY.out.2.box (x := (gq, 25, pcs 0 0 0)) (by simp)) ?_
      intro V4 hB4 _ hc4
      have HZ := Lib.hid (HY.out.put (by have := HG.out; simp; omega) hB4 (hc4 _ rfl))
      clear HY hB4 hc4
      have HY := HZ
      clear HZ
      refine hK.out _ _ (HSo.out _ _ _ _ (by simp) HY.out.2) (fun hHeld2 => ?_)
      clear hK K
      try simp
      clear hHeld
      have hHeld := hHeld2
      clear hHeld2
      refine wpAnyH_take (i := 13) (v := .int .i64 0) rfl (by kernel_rfl) (by kernel_rfl) (by kernel_rfl) (fun _ _ _ h => h) (Or.inl ⟨by rfl, ?_⟩) (by assumption) ?_
      · intro w' hS; go_simp; try with_reducible rfl
      try simp [Act.put]
      refine wpAnyH_done (by kernel_rfl) ?_ _
      obtain ⟨_, _, c8, _⟩ := hHeld
      have hbq := HY.out.2.box (x := (gq, 25, pcs q1 q2 q3)) (by simp)
      have hq0 := hbq.cell 0
      have hq1 := hbq.cell 1
      have hq2 := hbq.cell 2
      simp only [pcs, List.getElem?_toArray, List.getElem?_cons_zero, List.getElem?_cons_succ] at hq0 hq1 hq2
      clear hbq
      gi_wp2_with (gi_at_builtin; refine wpListIn_of (fun ⟨_, _, h⟩ => h) _ (by kernel_rfl) _ _ ?_; refine app_ptr rfl 29 31 rfl (s0 + 7) (.slice Av L.length cv) L rfl (show OwnQ V4 (s0 + 7) (.slice Av L.length cv) L from HY.out.2.row.own) (q1, q2, q3) V4.heap.size rfl rfl HY.out.2.lo.2 (by have := HL.out; omega) ?_; intro v5 V5 hown hgr hnw; obtain ⟨g5, d5, rfl, _, _, _⟩ := own_form hown (by simp); have HZ := Lib.hid (HY.out.app (((Chg.refl V4 _).alloc _).grown hgr fun k hk => .inl hk) hown hnw); have c9 := HZ.out.2.out.blk.cell 0; have f9 := HZ.out.2.out.blk.frozen 0; simp only [List.getElem?_toArray, List.getElem?_cons_zero] at c9; rw [List.length_append, List.length_singleton] at HZ; clear hown hgr hnw c8 hq0 hq1 hq2)
      go_wp2_with fail
      have HW := HZ.out.keep (W' := V5.setCell ⟨s0 + 4, 0, none⟩ (.slice (some ⟨g5, 0, none⟩) (L.length + 1) d5)) (blk_set1 HZ.out.2.out.blk _) (chg_set V5 (s0 + 4) _)
      have e1 := blk_eq (HW.2.box (x := (s0 + 5, 34, #[.slice A l.length c])) (by simp)) (HV.out.box (x := (s0 + 5, 34, #[.slice A l.length c])) (by simp))
      have e2 := blk_eq (HW.2.box (x := (s0 + 6, 3, #[.int .i64 128])) (by simp)) (HV.out.box (x := (s0 + 6, 3, #[.int .i64 128])) (by simp))
      refine ⟨HW.1, ⟨e1, e2⟩, O2, .slice (some ⟨g5, 0, none⟩) (L.length + 1) d5, ?_⟩
      rw [HE.out.1, HE.out.2]
      exact HW.2.few fun y hy => List.mem_cons_of_mem _ hy
  case done =>
    rintro D ys V hD rfl ⟨O1, v, hI⟩ hK
    have hok := zip_ok HA.out.2.2.2.1 (D := chunk l) (fun y => by rw [chunk_len]; omega) (List.range ((l.length + 127) / 128))
    have hLn : (putsQ P.st (at_.zip ((List.range ((l.length + 127) / 128)).map (chunk l)))).length = (l.length + 127) / 128 := by rw [putsQ_len, zip_len _ _ _ (by rw [List.length_range]; exact HA.out.2.2.1), List.length_range]
    obtain ⟨Av, cv, rfl, _, hcv⟩ := own_rd hI.row.own
    rw [hLn] at hI hcv
    have HCV := Lib.hid hcv
    clear hcv
    have c8 := hI.out.blk.cell 0
    have b2 := hI.box (x := (s0 + 2, 40, #[.slice none 0 0])) (by simp)
    have b3 := hI.box (x := (s0 + 3, 26, #[.int .i64 0])) (by simp)
    have c2' := b2.cell 0
    have c3' := b3.cell 0
    have f2 := b2.frozen 0
    have f3 := b3.frozen 0
    simp only [List.getElem?_toArray, List.getElem?_cons_zero] at c8 c2' c3'
    have HV := Lib.hid hI
    have HB := Lib.hid (And.intro b2 b3)
    clear hI b2 b3 hok
    gi_wp2_with fail
    have hK1 := (KeepsOthers.setCell V ⟨s0 + 2, 0, none⟩ (.slice Av ((l.length + 127) / 128) cv)).same D _ hK rfl
    have hK2 := (KeepsOthers.setCell _ ⟨s0 + 3, 0, none⟩ (.int .i64 0)).same D _ hK1 rfl
    have P1 := (HV.out.few (K' := [(s0 + 2, 40, #[.slice none 0 0]), (s0 + 3, 26, #[.int .i64 0])]) (by simp)).put (by simp) (blk_set1 HB.out.1 (.slice Av ((l.length + 127) / 128) cv)) (chg_set _ _ _)
    have P2 := (P1.few (K' := [(s0 + 3, 26, #[.int .i64 0]), (s0 + 2, 40, #[.slice Av ((l.length + 127) / 128) cv])]) (by simp)).put (by simp) (blk_set1 (P1.box (x := (s0 + 3, 26, #[.int .i64 0])) (by simp)) (.int .i64 0)) (chg_set _ _ _)
    have P3 := P2.turn (grownBy_putObj' _ D (.deferred none)) (fun r e => by cases e; exact ⟨by have := HI.out.lo; have := HS.out; omega, _, hK2, rfl⟩)
    have hc2 := (P3.box (x := (s0 + 2, 40, #[.slice Av ((l.length + 127) / 128) cv])) (by simp)).cell 0
    have hc3 := (P3.box (x := (s0 + 3, 26, #[.int .i64 0])) (by simp)).cell 0
    simp only [List.getElem?_toArray, List.getElem?_cons_zero] at hc2 hc3
    obtain ⟨Af, df, he, hrf⟩ := P3.row.out P3.lo.1 (by rw [pqs_len]; omega)
    simp only [Value.slice.injEq] at he
    obtain ⟨rfl, _, rfl⟩ := he
    refine ⟨by simp, .inl ⟨_, _, rfl, run_takeDeferred hK2, ?_⟩⟩
    refine ⟨.tuple #[.slice Av ((l.length + 127) / 128) cv, .int .i64 0], ?_, O1, Av, ⟨cv, rfl, HCV.out⟩, P3.sta.at_, hrf, P3.sta.st⟩
    simp [results, Try.f20, go_sem, hc2, hc3]
  case stop =>
    rintro D c pre V _ _ h _
    exact h.elim
end
end
end Go.Proofs.Ytdcegkeaopjbnaa
