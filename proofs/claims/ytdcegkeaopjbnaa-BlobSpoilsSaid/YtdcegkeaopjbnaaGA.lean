/- The texts G B BS SP S1. -/
import Derived.Test.YtdcegkeaopjbnaaQA
import Derived.Deep.QuietTactic
import Derived.BigQuiet
import Derived.Maps.AppendAt
import Derived.Laws.BitsAllLaws
import Derived.Laws.BytesArg
import Derived.Laws.Strings
import Derived.Test.YtdcegkeaopjbnaaBA
set_option maxRecDepth 10000
namespace Go.Proofs.Ytdcegkeaopjbnaa

section
open Go.RowKit

/-- append([]T{}, l...): a copy of a list. -/
theorem app_fresh {P : Program} {T E : TypeId} {z : Value} {bytes : Nat} (hT : P.underlying T = some (.slice E)) (hinfo : (P.info? E).map (fun i => (i.zero, i.size, i.bytes)) = some (some z, 1, bytes)) (hz1 : z.cells.size = 1)
    {ops : Array Oper} {rest : List Oper} {o : Oper} {a : Act} {w : World} {Q : Exit → Act → World → Prop} (hgd : o.guard = none) (s x : Nat)
    (ho : o.op = .call { callee := .builtin .append, args := #[.tmp s, .tmp x], argTypes := #[T, T] })
    (hs : a.eval (.tmp s) = .slice (some ⟨w.heap.size, 0, none⟩) 0 0) (B : Nat) (A : Option Addr) (m c : Nat) (news : List Value)
    (hx : a.eval (.tmp x) = .slice A m c) (hm : news.length = m) (hr : Rd (w.alloc (.cells #[] E)) B A news) (h1 : ∀ u ∈ news, u.oneCell' = true) (hb0 : 0 < bytes) (hn : m * bytes ≤ 140737488355328)
    (h : ∀ A' c' w', Rd w' w'.heap.size A' news → m ≤ c' → Below w.heap.size w w' → wpList P ops Q rest (a.put o.dst (.slice A' m c')) w') :
    wpList P ops Q (o :: rest) a (w.alloc (.cells #[] E)) := by
  have hE : (w.alloc (.cells #[] E)).ownsRow w.heap.size E 1 (.slice (some ⟨w.heap.size, 0, none⟩) 0 0) 0 [] := World.ownsRow_lit (base := w.heap.size) (e := E) (size := 1) w #[] 0 (Nat.le_refl _) (by simp [maxLen]) rfl
  refine app_all hT hinfo hz1 hgd s x ho w.heap.size _ 0 [] hs hE B A m c news hx hm hr h1 (by simp) hb0 (by simpa using hn) ?_
  intro v' w' h1 h2
  simp only [Nat.zero_add, List.nil_append] at h1
  obtain ⟨A', c', rfl, hX, hc⟩ := own_rd h1
  exact h A' c' w' hX hc (below_own ((Below.refl _ _).alloc (Nat.le_refl _) _) hE (Nat.le_refl _) (by simp) h2)
end
section
open Go.RowKit

/-- append(t, b): one byte more behind a copy. -/
theorem app_more {ops : Array Oper} {rest : List Oper} {o : Oper} {a : Act} {w : World} {Q : Exit → Act → World → Prop} (hgd : o.guard = none) (s x : Nat)
    (ho : o.op = .call { callee := .builtin .append, args := #[.tmp s, .tmp x], argTypes := #[34, 34] })
    (A : Option Addr) (n c base : Nat) (t : List UInt8) (b : UInt8) (z : Int) (hs : a.eval (.tmp s) = .slice A n c) (hn : t.length = n) (hown : OwnB w base (.slice A n c) t) (hz : z = (b.toNat : Int))
    (hx : a.eval (.tmp x) = .slice (some ⟨w.heap.size, 0, none⟩) 1 1) (hbase : base ≤ w.heap.size) (hl : n + 1 ≤ 140737488355328)
    (h : ∀ A' c' w', Rd w' w'.heap.size A' (bys (t ++ [b])) → n + 1 ≤ c' → Below base w w' → wpList Try.prog ops Q rest (a.put o.dst (.slice A' (n + 1) c')) w') :
    wpList Try.prog ops Q (o :: rest) a (w.alloc (.cells #[.int .u8 z] 5)) := by
  subst hn
  refine app_one Try.underlying34 infoByte rfl hgd s x ho base _ _ _ hs hown _ rfl hx hbase (by omega) (by omega) ?_
  intro v' w' h1 h2
  have h3 := ownB_snoc rfl hz h1
  obtain ⟨A', c', rfl, h4, h5⟩ := own_rd h3
  rw [List.length_append] at h5 ⊢
  exact h A' c' w' h4 h5 (below_own ((Below.refl _ _).alloc hbase _) (World.ownsRow.alloc hown _) (Nat.le_refl _) (by simp; omega) h2)
end
section
open Go.RowKit
end
section
def stepF (n : Nat) : Nat := n / 2 ^^^ (if n % 2 = 1 then 2197175160 else 0)
def stepsF : Nat → Nat → Nat
  | 0, n => n
  | k + 1, n => stepF (stepsF k n)
def byteF (n : Nat) (b : UInt8) : Nat := stepsF 8 (n ^^^ b.toNat)
def crcF (n : Nat) (l : List UInt8) : Nat := l.foldl byteF n
def notF (n : Nat) : Nat := 4294967295 - n
def moreF (s : Nat) (l : List UInt8) : Nat := notF (crcF (notF s) l)

theorem xor_lt {a b : Nat} (ha : a < 4294967296) (hb : b < 4294967296) : a ^^^ b < 4294967296 := Nat.xor_lt_two_pow (n := 32) ha hb
theorem step_lt {n : Nat} (h : n < 4294967296) : stepF n < 4294967296 := by
  unfold stepF
  refine xor_lt (by omega) ?_
  split <;> omega
theorem steps_lt : ∀ {k n : Nat}, n < 4294967296 → stepsF k n < 4294967296
  | 0, _, h => h
  | _ + 1, _, h => step_lt (steps_lt h)
theorem byte_lt {n : Nat} (b : UInt8) (h : n < 4294967296) : byteF n b < 4294967296 := steps_lt (xor_lt h (by have := b.toNat_lt; omega))
theorem crc_lt : ∀ {l : List UInt8} {n : Nat}, n < 4294967296 → crcF n l < 4294967296
  | [], _, h => h
  | b :: l, n, h => by
    show crcF (byteF n b) l < _
    exact crc_lt (byte_lt b h)
theorem not_lt (n : Nat) : notF n < 4294967296 := by unfold notF; omega
theorem not_not {n : Nat} (h : n < 4294967296) : notF (notF n) = n := by unfold notF; omega
theorem more_lt (s : Nat) (l : List UInt8) : moreF s l < 4294967296 := not_lt _
theorem crc_app (n : Nat) (a b : List UInt8) : crcF n (a ++ b) = crcF (crcF n a) b := List.foldl_append
theorem crc_snoc (n : Nat) (l : List UInt8) (k : Nat) (hk : k < l.length) : crcF n (l.take (k + 1)) = byteF (crcF n (l.take k)) l[k] := by
  rw [List.take_succ_eq_append_getElem hk, crc_app]
  rfl

theorem xor_mod2 (a b : Nat) : (a ^^^ b) % 2 = (a + b) % 2 := by
  have h := Nat.xor_mod_two_pow (a := a) (b := b) (n := 1)
  rw [Nat.pow_one] at h
  rw [h]
  rcases Nat.mod_two_eq_zero_or_one a with ha | ha <;> rcases Nat.mod_two_eq_zero_or_one b with hb | hb <;> (rw [ha, hb, Nat.add_mod, ha, hb]; try rfl)
theorem xor_canr {a b c : Nat} (h : a ^^^ c = b ^^^ c) : a = b := by
  have h := congrArg (· ^^^ c) h
  simpa [Nat.xor_assoc] using h
theorem xor_canl {a b c : Nat} (h : c ^^^ a = c ^^^ b) : a = b := xor_canr (c := c) (by rw [Nat.xor_comm a, Nat.xor_comm b, h])
theorem step_odd {n : Nat} (h : n % 2 = 1) : stepF n = n / 2 ^^^ 2197175160 := by unfold stepF; rw [if_pos h]
theorem step_even {n : Nat} (h : ¬ n % 2 = 1) : stepF n = n / 2 := by unfold stepF; rw [if_neg h, Nat.xor_zero]

/-- One round of the reference: the bit beside the number. -/
def rstepF (n bit : Nat) : Nat := if (n ^^^ bit) % 2 = 1 then n / 2 ^^^ 2197175160 else n / 2
theorem xor_swap (a b c : Nat) : a ^^^ b ^^^ c = a ^^^ c ^^^ b := by rw [Nat.xor_assoc, Nat.xor_comm b c, ← Nat.xor_assoc]
/-- The reference's number in a byte's rounds: the rest of the byte is not in it yet. -/
theorem rstep_next (S b k : Nat) : rstepF (S ^^^ b / 2 ^ k) (b / 2 ^ k % 2) = stepF S ^^^ b / 2 ^ (k + 1) := by
  have h1 : (S ^^^ b / 2 ^ k ^^^ (b / 2 ^ k % 2)) % 2 = S % 2 := by
    rw [xor_mod2, Nat.add_mod, xor_mod2]
    omega
  have h2 : (S ^^^ b / 2 ^ k) / 2 = S / 2 ^^^ b / 2 ^ (k + 1) := by
    rw [Nat.xor_div_two, Nat.div_div_eq_div_mul, Nat.pow_succ]
  unfold rstepF stepF
  rw [h1, h2]
  split
  · rw [xor_swap]
  · rw [Nat.xor_zero]

/-- Without carry: a step of a sum is the sum of the steps. -/
theorem step_xor (a b : Nat) : stepF (a ^^^ b) = stepF a ^^^ stepF b := by
  unfold stepF
  rw [Nat.xor_div_two]
  have h : (a ^^^ b) % 2 = (a + b) % 2 := xor_mod2 a b
  rcases Nat.mod_two_eq_zero_or_one a with ha | ha <;> rcases Nat.mod_two_eq_zero_or_one b with hb | hb
  · rw [if_neg (by omega), if_neg (by omega), if_neg (by omega)]; simp
  · rw [if_pos (by omega), if_neg (by omega), if_pos (by omega)]; simp [Nat.xor_assoc]
  · rw [if_pos (by omega), if_pos (by omega), if_neg (by omega)]; simp [xor_swap]
  · rw [if_neg (by omega), if_pos (by omega), if_pos (by omega)]
    rw [Nat.xor_zero, xor_swap (a / 2) 2197175160, ← Nat.xor_assoc, Nat.xor_assoc (a / 2 ^^^ b / 2), Nat.xor_self, Nat.xor_zero]
theorem steps_xor : ∀ (k a b : Nat), stepsF k (a ^^^ b) = stepsF k a ^^^ stepsF k b
  | 0, _, _ => rfl
  | k + 1, a, b => by rw [stepsF, steps_xor k, step_xor]; rfl
theorem xor3 (a b c x y z : Nat) : (a ^^^ b ^^^ c) ^^^ (x ^^^ y ^^^ z) = (a ^^^ x) ^^^ (b ^^^ y) ^^^ (c ^^^ z) := by
  apply Nat.eq_of_testBit_eq
  intro i
  simp only [Nat.testBit_xor]
  cases a.testBit i <;> cases b.testBit i <;> cases c.testBit i <;> cases x.testBit i <;> cases y.testBit i <;> cases z.testBit i <;> rfl
theorem byte3 (a b c : Nat) (x y z : UInt8) : byteF (a ^^^ b ^^^ c) (x ^^^ y ^^^ z) = byteF a x ^^^ byteF b y ^^^ byteF c z := by
  unfold byteF
  rw [UInt8.toNat_xor, UInt8.toNat_xor, xor3, steps_xor, steps_xor]
/-- The three, bit by bit. -/
def xor3L : List UInt8 → List UInt8 → List UInt8 → List UInt8
  | a :: l, b :: m, c :: n => (a ^^^ b ^^^ c) :: xor3L l m n
  | _, _, _ => []
theorem xor3_snoc : ∀ (k : Nat) (l m n : List UInt8) (hl : k < l.length) (hm : k < m.length) (hn : k < n.length), xor3L (l.take (k + 1)) (m.take (k + 1)) (n.take (k + 1)) = xor3L (l.take k) (m.take k) (n.take k) ++ [l[k] ^^^ m[k] ^^^ n[k]]
  | 0, a :: l, b :: m, c :: n, _, _, _ => by simp [xor3L]
  | k + 1, a :: l, b :: m, c :: n, hl, hm, hn => by
    simp only [List.length_cons] at hl hm hn
    have h := xor3_snoc k l m n (by omega) (by omega) (by omega)
    simpa [xor3L] using h
theorem xor3_len : ∀ (k : Nat) (l m n : List UInt8), k ≤ l.length → k ≤ m.length → k ≤ n.length → (xor3L (l.take k) (m.take k) (n.take k)).length = k
  | 0, _, _, _, _, _, _ => by simp [xor3L]
  | k + 1, a :: l, b :: m, c :: n, hl, hm, hn => by
    simp only [List.length_cons] at hl hm hn
    simp [xor3L, xor3_len k l m n (by omega) (by omega) (by omega)]
theorem crc3 : ∀ (l m n : List UInt8) (a b c : Nat), l.length = m.length → m.length = n.length → crcF (a ^^^ b ^^^ c) (xor3L l m n) = crcF a l ^^^ crcF b m ^^^ crcF c n
  | [], [], [], _, _, _, _, _ => rfl
  | x :: l, y :: m, z :: n, a, b, c, h1, h2 => by
    show crcF (byteF (a ^^^ b ^^^ c) (x ^^^ y ^^^ z)) (xor3L l m n) = _
    rw [byte3, crc3 l m n _ _ _ (by simpa using h1) (by simpa using h2)]
    rfl
theorem not_xor {n : Nat} (h : n < 4294967296) : notF n = n ^^^ 4294967295 := by
  have : (4294967295 - n : Nat) = 2 ^ 32 - (n + 1) := by omega
  unfold notF
  rw [this]
  apply Nat.eq_of_testBit_eq
  intro i
  rw [Nat.testBit_xor, Nat.testBit_two_pow_sub_succ h, show (4294967295 : Nat) = 2 ^ 32 - 1 from rfl, Nat.testBit_two_pow_sub_one]
  by_cases hi : i < 32
  · simp [hi]
  · simp [hi]
    exact Nat.testBit_lt_two_pow (Nat.lt_of_lt_of_le h (by have := Nat.pow_le_pow_right (n := 2) (by omega) (show 32 ≤ i by omega); simpa using this))
theorem more3 {l m n : List UInt8} (h1 : l.length = m.length) (h2 : m.length = n.length) : moreF 0 (xor3L l m n) = moreF 0 l ^^^ moreF 0 m ^^^ moreF 0 n := by
  have e : notF 0 = notF 0 ^^^ notF 0 ^^^ notF 0 := by rw [Nat.xor_self, Nat.zero_xor]
  unfold moreF
  rw [e, crc3 l m n _ _ _ h1 h2, ← e]
  have ha := crc_lt (l := l) (not_lt 0)
  have hb := crc_lt (l := m) (not_lt 0)
  have hc := crc_lt (l := n) (not_lt 0)
  rw [not_xor (xor_lt (xor_lt ha hb) hc), not_xor ha, not_xor hb, not_xor hc, ← xor3, Nat.xor_self, Nat.zero_xor]

/-- A step can be told back. -/
theorem step_inj {a b : Nat} (ha : a < 4294967296) (hb : b < 4294967296) (h : stepF a = stepF b) : a = b := by
  have key : ∀ n, n < 4294967296 → (stepF n).testBit 31 = decide (n % 2 = 1) := by
    intro n hn
    unfold stepF
    rw [Nat.testBit_xor, Nat.testBit_lt_two_pow (show n / 2 < 2 ^ 31 by omega)]
    by_cases hp : n % 2 = 1
    · rw [if_pos hp, decide_eq_true hp]; decide
    · rw [if_neg hp, decide_eq_false hp]; decide
  have h1 := key a ha
  rw [h, key b hb, decide_eq_decide] at h1
  by_cases hp : a % 2 = 1
  · rw [step_odd hp, step_odd (h1.2 hp)] at h
    have h2 := xor_canr h
    have := h1.2 hp
    omega
  · rw [step_even hp, step_even (fun hq => hp (h1.1 hq))] at h
    have := fun hq => hp (h1.1 hq)
    omega
theorem steps_inj : ∀ {k a b : Nat}, a < 4294967296 → b < 4294967296 → stepsF k a = stepsF k b → a = b
  | 0, _, _, _, _, h => h
  | k + 1, _, _, ha, hb, h => steps_inj (k := k) ha hb (step_inj (steps_lt ha) (steps_lt hb) h)
theorem byte_inj {a b : Nat} (x : UInt8) (ha : a < 4294967296) (hb : b < 4294967296) (h : byteF a x = byteF b x) : a = b := by
  have hx : x.toNat < 4294967296 := by have := x.toNat_lt; omega
  have := steps_inj (xor_lt ha hx) (xor_lt hb hx) h
  exact xor_canr this
theorem byte_turn {a : Nat} {x y : UInt8} (ha : a < 4294967296) (h : byteF a x = byteF a y) : x = y := by
  have hx : x.toNat < 4294967296 := by have := x.toNat_lt; omega
  have hy : y.toNat < 4294967296 := by have := y.toNat_lt; omega
  have := steps_inj (xor_lt ha hx) (xor_lt ha hy) h
  exact UInt8.toNat_inj.1 (xor_canl this)
theorem crc_inj : ∀ {l : List UInt8} {a b : Nat}, a < 4294967296 → b < 4294967296 → crcF a l = crcF b l → a = b
  | [], _, _, _, _, h => h
  | x :: l, _, _, ha, hb, h => byte_inj x ha hb (crc_inj (l := l) (byte_lt x ha) (byte_lt x hb) h)
theorem not_inj {a b : Nat} (ha : a < 4294967296) (hb : b < 4294967296) (h : notF a = notF b) : a = b := by unfold notF at h; omega
/-- One byte another: another sum. -/
theorem more_turn {l m r : List UInt8} {x y : UInt8} (hl : l = m ++ x :: r) {l' : List UInt8} (hl' : l' = m ++ y :: r) (h : moreF 0 l' = moreF 0 l) : y = x := by
  subst hl hl'
  unfold moreF at h
  have h1 := not_inj (crc_lt (not_lt 0)) (crc_lt (not_lt 0)) h
  rw [crc_app, crc_app] at h1
  have hm := crc_lt (l := m) (not_lt 0)
  exact byte_turn hm (crc_inj (l := r) (byte_lt y hm) (byte_lt x hm) h1)
theorem more_parts (a b : List UInt8) : moreF (moreF 0 a) b = moreF 0 (a ++ b) := by
  unfold moreF
  rw [not_not (crc_lt (not_lt 0)), crc_app]

/-- Does no so many zeros lead back? (Each number is taken apart: so the kernel reckons it once.) -/
def farF : Nat → Nat → Bool
  | 0, _ => true
  | _ + 1, 0 => false
  | k + 1, n + 1 => match stepsF 8 (n + 1) with
    | 4294967295 => false
    | m => farF k m
def zerosF : Nat → Nat → Nat
  | 0, n => n
  | k + 1, n => zerosF k (stepsF 8 n)
theorem far_ok : ∀ {k n : Nat}, farF k n = true → ∀ j, 1 ≤ j → j ≤ k → zerosF j n ≠ 4294967295
  | 0, _, _, j, h1, h2 => by omega
  | _ + 1, 0, h, _, _, _ => by simp [farF] at h
  | k + 1, n + 1, h, 1, _, _ => by
    intro he
    have he' : stepsF 8 (n + 1) = 4294967295 := he
    simp [farF, he'] at h
  | k + 1, n + 1, h, j + 2, _, h2 => by
    have h' : farF k (stepsF 8 (n + 1)) = true := by
      unfold farF at h
      split at h
      · cases h
      · exact h
    exact far_ok h' (j + 1) (by omega) (by omega)
theorem zeros_lt : ∀ {k n : Nat}, n < 4294967296 → zerosF k n < 4294967296
  | 0, _, h => h
  | k + 1, n, h => by
    show zerosF k (stepsF 8 n) < _
    exact zeros_lt (steps_lt h)
theorem zeros_add : ∀ (j k n : Nat), zerosF (j + k) n = zerosF k (zerosF j n)
  | 0, k, n => by rw [Nat.zero_add]; rfl
  | j + 1, k, n => by rw [show j + 1 + k = (j + k) + 1 by omega]; exact zeros_add j k (stepsF 8 n)
theorem zeros_inj : ∀ {k a b : Nat}, a < 4294967296 → b < 4294967296 → zerosF k a = zerosF k b → a = b
  | 0, _, _, _, _, h => h
  | k + 1, _, _, ha, hb, h => steps_inj ha hb (zeros_inj (k := k) (steps_lt ha) (steps_lt hb) h)
theorem crc_zeros : ∀ (k n : Nat), crcF n (List.replicate k 0) = zerosF k n
  | 0, _ => rfl
  | k + 1, n => by
    show crcF (byteF n 0) (List.replicate k 0) = _
    rw [crc_zeros k]
    simp [byteF, zerosF]
end
section
open Go.RowKit

theorem u32v {n : Nat} {x : Int} (h : x = (n : Int)) : Value.int .u32 x = Value.int .u32 (n : Int) := by rw [h]
theorem and_one (n : Nat) (h : n < 4294967296) : bits .and .u32 (n : Int) 1 = ((n % 2 : Nat) : Int) := by
  have := u32_and_nat n 1 h (by omega)
  rwa [Nat.and_one_is_mod] at this
theorem xor_pol (n : Nat) (h : n < 4294967296) : bits .xor .u32 (n : Int) 2197175160 = ((n ^^^ 2197175160 : Nat) : Int) := u32_xor_nat n 2197175160 h (by omega)
theorem xor_half (m : Nat) (h : m < 4294967296) : bits .xor .u32 ((m : Int) / 2) 2197175160 = ((m / 2 ^^^ 2197175160 : Nat) : Int) := xor_pol (m / 2) (by omega)
set_option maxHeartbeats 400000 in
theorem eight_any (n : Nat) (w : World) (hn : n < 4294967296) :
    Calls Try.prog 55 #[.int .u32 (n : Int)] w fun e w' => e = .returned (.int .u32 (stepsF 8 n : Int)) ∧ w' = w := by
  have HN := Lib.hid hn; clear hn
  go_enter Try.func55, Try.ntmps55
  go_wp2_with fail
  go_loop [0, 4] (fun s i => ∃ (k m : Nat), k ≤ 8 ∧ i = .int .i64 k ∧ s = .int .u32 (m : Int) ∧ Hid (m = stepsF k n)) (fun _ i => 8 - (intOf i).toNat)
  case atStart => exact ⟨0, n, by omega, rfl, rfl, rfl⟩
  case round =>
    obtain ⟨k, m, hk, rfl, rfl, hm⟩ := hrel
    have HM : Hid (m < 4294967296) := by show _ < _; rw [hm.out]; exact steps_lt HN.out
    by_cases hlt : k < 8
    · have hS : Hid (stepsF (k + 1) n = stepF m) := by show _ = _; rw [hm.out]; rfl
      have ha := and_one m HM.out
      by_cases ho : m % 2 = 1
      · have hb : bits .and .u32 (m : Int) 1 = 1 := by rw [ha, ho]; rfl
        clear ha
        go_wp2_with fail
        go_round
        case rel => exact ⟨k + 1, m / 2 ^^^ 2197175160, by omega, by go_num, u32v (xor_half m HM.out), by show _ = _; rw [hS.out, step_odd ho]⟩
        case measure => simp [intOf]; omega
      · have hb : bits .and .u32 (m : Int) 1 = 0 := by rw [ha, show m % 2 = 0 by omega]; rfl
        clear ha
        go_wp2_with fail
        go_round
        case rel => exact ⟨k + 1, m / 2, by omega, by go_num, u32v rfl, by show _ = _; rw [hS.out, step_even ho]⟩
        case measure => simp [intOf]; omega
    · obtain rfl : k = 8 := by omega
      go_wp2_with fail
      go_ret
      exact ⟨ret_int (by rw [hm.out]), rfl⟩

theorem not_bits (s : Nat) (h : s < 4294967296) : bits .xor .u32 IntKind.u32.max (s : Int) = (notF s : Int) := by
  have hm : IntKind.u32.max = ((4294967295 : Nat) : Int) := by decide
  rw [hm, u32_xor_nat _ _ (by omega) h, Nat.xor_comm, ← not_xor h]
theorem byte_bits (n : Nat) (b : UInt8) (h : n < 4294967296) : bits .xor .u32 (n : Int) (b.toNat : Int) = ((n ^^^ b.toNat : Nat) : Int) := u32_xor_nat _ _ h (by have := b.toNat_lt; omega)
set_option maxHeartbeats 400000 in
theorem more_any (A : Option Addr) (c B s : Nat) (l : List UInt8) (w : World) (hs : Rd w B A (bys l)) (hl : l.length ≤ 140737488355328) (hsum : s < 4294967296) :
    Calls Try.prog 46 #[.int .u32 (s : Int), .slice A l.length c] w fun e w' => e = .returned (.int .u32 (moreF s l : Int)) ∧ w' = w := by
  have hnb := not_bits s hsum
  have hsg : IntKind.u32.signed = false := rfl
  clear hsum
  go_enter Try.func46, Try.ntmps46
  go_wp2_with fail
  clear hnb
  go_loop [5, 12] (fun q i => ∃ (k m : Nat), k ≤ l.length ∧ i = .int .i64 k ∧ q = .int .u32 (m : Int) ∧ Hid (m = crcF (notF s) (l.take k))) (fun _ i => l.length - (intOf i).toNat)
  case atStart => exact ⟨0, _, by omega, rfl, rfl, rfl⟩
  case round =>
    obtain ⟨k, m, hk, rfl, rfl, hm⟩ := hrel
    have HM : Hid (m < 4294967296) := by show _ < _; rw [hm.out]; exact crc_lt (not_lt _)
    by_cases hlt : k < l.length
    · obtain ⟨b, off, rfl, hbB, hc1⟩ := by_at hs k hlt
      have HC := Lib.hid (crc_snoc (notF s) l k hlt)
      have hbt := l[k].toNat_lt
      have hx := byte_bits m l[k] HM.out
      have HX : Hid (m ^^^ l[k].toNat < 4294967296) := xor_lt HM.out (by omega)
      have HY : Hid (byteF m l[k] = stepsF 8 (m ^^^ l[k].toNat)) := rfl
      generalize l[k] = x at *
      generalize x.toNat = y at *
      go_wp2_with (go_at_call 55; go_loud (refine (eight_any _ _ HX.out).mono ?_); rintro e w' ⟨rfl, rfl⟩)
      go_round
      case rel => exact ⟨k + 1, _, by omega, by go_num, rfl, by show _ = _; rw [HC.out, ← hm.out, HY.out]⟩
      case measure => simp [intOf]; omega
    · have hnb := not_bits m HM.out
      have HT : Hid (l.take k = l) := List.take_of_length_le (by omega)
      go_wp2_with fail
      go_ret
      exact ⟨ret_int (by rw [hm.out, HT.out]; rfl), rfl⟩

theorem sum_of_any (A : Option Addr) (c B : Nat) (l : List UInt8) (w : World) (hs : Rd w B A (bys l)) (hl : l.length ≤ 140737488355328) :
    Calls Try.prog 35 #[.slice A l.length c] w fun e w' => e = .returned (.int .u32 (moreF 0 l : Int)) ∧ w' = w := by
  go_enter Try.func35, Try.ntmps35
  go_wp2_with (go_at_call 46; go_loud (refine (more_any A c B 0 l _ hs hl (by omega)).mono ?_); rintro e w' ⟨rfl, rfl⟩)
  go_ret
  exact ⟨rfl, rfl⟩

theorem bit_bits (r y j : Nat) (hr : r < 4294967296) (hy : y < 4294967296) : bits .xor .u32 (r : Int) (bits .and .u32 ((y : Int) / 2 ^ j) 1) = ((r ^^^ y / 2 ^ j % 2 : Nat) : Int) := by
  have h1 := and_one (y / 2 ^ j) (Nat.lt_of_le_of_lt (Nat.div_le_self _ _) hy)
  have h2 : (((y / 2 ^ j : Nat)) : Int) = (y : Int) / 2 ^ j := by simp
  rw [← h2, h1]
  exact u32_xor_nat _ _ hr (by omega)
end
end Go.Proofs.Ytdcegkeaopjbnaa
