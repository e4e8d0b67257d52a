/- The texts FP F1 F2 F3 F4 F6 F7. -/
import Derived.Test.YtdcegkeaopjbnaaBA
import Derived.Deep.QuietTactic
import Derived.BigQuiet
import Derived.Maps.AppendAt
import Derived.Laws.BitsAllLaws
import Derived.Laws.MakeOwn
set_option maxRecDepth 10000
namespace Go.Proofs.Ytdcegkeaopjbnaa

section
open Go.RowKit

def bys (l : List UInt8) : List Value := l.map fun b : UInt8 => .int .u8 (b.toNat : Int)
def uns (l : List Nat) : List Value := l.map fun n : Nat => .int .u64 (n : Int)
def wds (l : List Int) : List Value := l.map (Value.int .i64)
theorem bys_len (l : List UInt8) : (bys l).length = l.length := by simp [bys]
theorem uns_len (l : List Nat) : (uns l).length = l.length := by simp [uns]
theorem wds_len (l : List Int) : (wds l).length = l.length := by simp [wds]
theorem bys_app (a b : List UInt8) : bys (a ++ b) = bys a ++ bys b := by simp [bys]
theorem uns_app (a b : List Nat) : uns (a ++ b) = uns a ++ uns b := by simp [uns]
theorem bys_one {l : List UInt8} : ∀ u ∈ bys l, u.oneCell' = true := by
  intro u hu
  simp only [bys, List.mem_map] at hu
  obtain ⟨b, _, rfl⟩ := hu
  rfl
theorem wds_one {l : List Int} : ∀ u ∈ wds l, u.oneCell' = true := by
  intro u hu
  simp only [wds, List.mem_map] at hu
  obtain ⟨b, _, rfl⟩ := hu
  rfl
theorem uns_one {l : List Nat} : ∀ u ∈ uns l, u.oneCell' = true := by
  intro u hu
  simp only [uns, List.mem_map] at hu
  obtain ⟨b, _, rfl⟩ := hu
  rfl
theorem bys_at (l : List UInt8) (k : Nat) (h : k < l.length) : (bys l)[k]? = some (.int .u8 (l[k].toNat : Int)) := by simp [bys, h]
theorem uns_at (l : List Nat) (k : Nat) (h : k < l.length) : (uns l)[k]? = some (.int .u64 (l[k] : Int)) := by simp [uns, h]
theorem wds_at (l : List Int) (k : Nat) (h : k < l.length) : (wds l)[k]? = some (.int .i64 l[k]) := by simp [wds, h]
theorem bys_drop (l : List UInt8) (k : Nat) : (bys l).drop k = bys (l.drop k) := by simp [bys, List.map_drop]

/-- The number of bytes, the lowest first. -/
def numF : List UInt8 → Nat
  | [] => 0
  | b :: r => b.toNat + 256 * numF r
def bytesF : Nat → Nat → List UInt8
  | 0, _ => []
  | w + 1, n => UInt8.ofNat n :: bytesF w (n / 256)

theorem numF_lt : ∀ l : List UInt8, numF l < 256 ^ l.length
  | [] => by simp [numF]
  | b :: r => by
    have h := numF_lt r
    have hb := b.toNat_lt
    simp only [numF, List.length_cons, Nat.pow_succ]
    omega
theorem numF_app : ∀ a b : List UInt8, numF (a ++ b) = numF a + 256 ^ a.length * numF b
  | [], b => by simp [numF]
  | x :: a, b => by
    simp only [List.cons_append, numF, numF_app a b, List.length_cons, Nat.pow_succ]
    rw [Nat.mul_add, ← Nat.mul_assoc, Nat.mul_comm 256 (256 ^ a.length)]
    omega
theorem numF_snoc (l : List UInt8) (k : Nat) (hk : k < l.length) : numF (l.take (k + 1)) = numF (l.take k) + 256 ^ k * l[k].toNat := by
  rw [List.take_succ_eq_append_getElem hk, numF_app, List.length_take_of_le (by omega)]
  simp [numF]
theorem numF_drop (l : List UInt8) (k : Nat) (hk : k < l.length) : numF (l.drop k) = l[k].toNat + 256 * numF (l.drop (k + 1)) := by
  rw [List.drop_eq_getElem_cons hk]
  rfl
theorem pow8 (k : Nat) : 2 ^ (8 * k) = 256 ^ k := by rw [Nat.pow_mul]
theorem pow_le8 {k : Nat} (h : k ≤ 8) : 256 ^ k ≤ 18446744073709551616 := by
  have := Nat.pow_le_pow_right (n := 256) (by omega) h
  simpa using this
theorem numF_lt8 {l : List UInt8} (h : l.length ≤ 8) : numF l < 18446744073709551616 := Nat.lt_of_lt_of_le (numF_lt l) (pow_le8 h)
theorem nat_join' {x y p : Nat} (hx : x % 256 ^ p = 0) (hy : y < 256 ^ p) : y ||| x = y + x := by
  rw [← pow8] at hx hy
  obtain ⟨c, rfl⟩ := Nat.dvd_of_mod_eq_zero hx
  rw [Nat.or_comm, Nat.add_comm, Nat.mul_comm, ← Nat.shiftLeft_eq, Nat.shiftLeft_add_eq_or_of_lt hy]
theorem num_or (l : List UInt8) (k : Nat) (hk : k < l.length) (h8 : l.length ≤ 8) : numF (l.take k) ||| ((l[k].toNat <<< (8 * k)) % 18446744073709551616) = numF (l.take (k + 1)) := by
  have h1 := numF_lt (l.take k)
  rw [List.length_take_of_le (by omega)] at h1
  have h2 := l[k].toNat_lt
  have h3 : l[k].toNat * 256 ^ k < 18446744073709551616 := by
    have h4 : l[k].toNat * 256 ^ k < 256 * 256 ^ k := Nat.mul_lt_mul_of_pos_right h2 (Nat.pow_pos (by omega))
    have h5 := pow_le8 (k := k + 1) (by omega)
    rw [Nat.pow_succ] at h5
    omega
  rw [numF_snoc l k hk, Nat.shiftLeft_eq, pow8, Nat.mod_eq_of_lt h3, nat_join' ?_ h1]
  · rw [Nat.mul_comm]
  · exact Nat.mul_mod_left _ _

theorem bytesF_len : ∀ w n, (bytesF w n).length = w
  | 0, _ => rfl
  | w + 1, n => by simp [bytesF, bytesF_len w]
theorem bytesF_snoc : ∀ w n, bytesF (w + 1) n = bytesF w n ++ [UInt8.ofNat (n / 256 ^ w)]
  | 0, n => by simp [bytesF]
  | w + 1, n => by
    rw [bytesF, bytesF_snoc w (n / 256), bytesF, List.cons_append, Nat.div_div_eq_div_mul, Nat.pow_succ, Nat.mul_comm 256]
theorem numF_bytesF : ∀ w n, numF (bytesF w n) = n % 256 ^ w
  | 0, n => by simp [bytesF, numF, Nat.mod_one]
  | w + 1, n => by
    rw [bytesF, numF, numF_bytesF w, Nat.pow_succ, Nat.mul_comm (256 ^ w) 256, Nat.mod_mul]
    simp
theorem bytesF_numF : ∀ l : List UInt8, bytesF l.length (numF l) = l
  | [] => rfl
  | b :: r => by
    have hb := b.toNat_lt
    rw [numF, List.length_cons, bytesF, show (b.toNat + 256 * numF r) / 256 = numF r by omega, bytesF_numF r]
    congr 1
    apply UInt8.toNat_inj.1
    rw [UInt8.toNat_ofNat']
    omega
theorem bytesF_inj {w n m : Nat} (hn : n < 256 ^ w) (hm : m < 256 ^ w) (h : bytesF w n = bytesF w m) : n = m := by
  have := congrArg numF h
  rwa [numF_bytesF, numF_bytesF, Nat.mod_eq_of_lt hn, Nat.mod_eq_of_lt hm] at this

/-- Can all be widths? -/
def wideB (ws : List Int) : Bool := ws.all fun x => decide (1 ≤ x) && decide (x ≤ 8)
def sumF : List Int → Int
  | [] => 0
  | x :: r => x + sumF r
theorem sumF_app : ∀ a b, sumF (a ++ b) = sumF a + sumF b
  | [], b => by simp [sumF]
  | x :: a, b => by simp only [List.cons_append, sumF, sumF_app a b]; omega
theorem wideB_cons (x : Int) (r : List Int) : wideB (x :: r) = (decide (1 ≤ x ∧ x ≤ 8) && wideB r) := by
  simp [wideB]
theorem wideB_mem {ws : List Int} (h : wideB ws = true) : ∀ x ∈ ws, 1 ≤ x ∧ x ≤ 8 := by
  simpa [wideB] using h
theorem wideB_mk {ws : List Int} (h : ∀ x ∈ ws, 1 ≤ x ∧ x ≤ 8) : wideB ws = true := by
  simpa [wideB] using h
theorem sum_bd : ∀ {ws : List Int}, (∀ x ∈ ws, 1 ≤ x ∧ x ≤ 8) → 0 ≤ sumF ws ∧ ws.length ≤ sumF ws ∧ sumF ws ≤ 8 * ws.length
  | [], _ => by simp [sumF]
  | x :: r, h => by
    have h1 := h x (by simp)
    have h2 := sum_bd (ws := r) fun y hy => h y (by simp [hy])
    simp only [sumF, List.length_cons]
    omega

/-- The numbers as bytes. -/
def putF : List Int → List Nat → Option (List UInt8)
  | [], [] => some []
  | w :: ws, n :: ns => if 1 ≤ w ∧ w ≤ 8 ∧ n < 256 ^ w.toNat then (putF ws ns).map fun r => bytesF w.toNat n ++ r else none
  | _, _ => none
/-- The numbers of bytes. -/
def getF : List Int → List UInt8 → Option (List Nat)
  | [], b => if b = [] then some [] else none
  | w :: ws, b => if 1 ≤ w ∧ w ≤ 8 ∧ w ≤ b.length then (getF ws (b.drop w.toNat)).map fun r => numF (b.take w.toNat) :: r else none

theorem put_some : ∀ {ws : List Int} {ns : List Nat} {b : List UInt8}, putF ws ns = some b → wideB ws = true ∧ ns.length = ws.length ∧ (b.length : Int) = sumF ws
  | [], [], b, h => by
    simp only [putF, Option.some.injEq] at h
    subst h
    exact ⟨rfl, rfl, rfl⟩
  | [], n :: ns, b, h => by simp [putF] at h
  | w :: ws, [], b, h => by simp [putF] at h
  | w :: ws, n :: ns, b, h => by
    simp only [putF] at h
    split at h
    · rename_i hc
      obtain ⟨r, hr, rfl⟩ := Option.map_eq_some_iff.1 h
      obtain ⟨h1, h2, h3⟩ := put_some hr
      refine ⟨by rw [wideB_cons, h1, Bool.and_true, decide_eq_true_eq]; exact ⟨hc.1, hc.2.1⟩, by simp [h2], ?_⟩
      simp only [List.length_append, bytesF_len, sumF]
      omega
    · cases h
theorem get_put : ∀ {ws : List Int} {ns : List Nat} {b : List UInt8}, putF ws ns = some b → getF ws b = some ns
  | [], [], b, h => by
    simp only [putF, Option.some.injEq] at h
    subst h
    rfl
  | [], n :: ns, b, h => by simp [putF] at h
  | w :: ws, [], b, h => by simp [putF] at h
  | w :: ws, n :: ns, b, h => by
    simp only [putF] at h
    split at h
    · rename_i hc
      obtain ⟨h1, h2, h3⟩ := hc
      obtain ⟨r, hr, rfl⟩ := Option.map_eq_some_iff.1 h
      have hl := bytesF_len w.toNat n
      simp only [getF]
      rw [if_pos ⟨h1, h2, by simp only [List.length_append, hl]; omega⟩, List.drop_left' hl, List.take_left' hl, get_put hr, numF_bytesF, Nat.mod_eq_of_lt h3]
      rfl
    · cases h
theorem put_get : ∀ {ws : List Int} {b : List UInt8} {ns : List Nat}, getF ws b = some ns → putF ws ns = some b
  | [], b, ns, h => by
    simp only [getF] at h
    split at h
    · rename_i hb
      simp only [Option.some.injEq] at h
      subst h hb
      rfl
    · cases h
  | w :: ws, b, ns, h => by
    simp only [getF] at h
    split at h
    · rename_i hc
      obtain ⟨h1, h2, h3⟩ := hc
      obtain ⟨r, hr, rfl⟩ := Option.map_eq_some_iff.1 h
      have hl : (b.take w.toNat).length = w.toNat := by rw [List.length_take]; omega
      have hn := numF_lt (b.take w.toNat)
      have hb := bytesF_numF (b.take w.toNat)
      rw [hl] at hn hb
      simp only [putF]
      rw [if_pos ⟨h1, h2, hn⟩, put_get hr, hb]
      simp
    · cases h
theorem put_inj {ws : List Int} {a b : List Nat} {x : List UInt8} (ha : putF ws a = some x) (hb : putF ws b = some x) : a = b := by
  have h1 := get_put ha
  rw [get_put hb] at h1
  exact (Option.some.inj h1).symm
theorem get_lt {ws : List Int} : ∀ {b : List UInt8} {ns : List Nat}, getF ws b = some ns → ∀ n ∈ ns, n < 18446744073709551616 := by
  induction ws with
  | nil =>
    intro b ns h
    simp only [getF] at h
    split at h
    · simp only [Option.some.injEq] at h
      subst h
      simp
    · cases h
  | cons w ws ih =>
    intro b ns h
    simp only [getF] at h
    split at h
    · rename_i hc
      obtain ⟨r, hr, rfl⟩ := Option.map_eq_some_iff.1 h
      intro n hn
      rcases List.mem_cons.1 hn with rfl | hn
      · exact numF_lt8 (by rw [List.length_take]; omega)
      · exact ih hr n hn
    · cases h

theorem put_step {ws : List Int} {ns : List Nat} {k : Nat} (h1 : k < ws.length) (h2 : k < ns.length) : putF (ws.drop k) (ns.drop k) = if 1 ≤ ws[k] ∧ ws[k] ≤ 8 ∧ ns[k] < 256 ^ ws[k].toNat then (putF (ws.drop (k + 1)) (ns.drop (k + 1))).map fun r => bytesF ws[k].toNat ns[k] ++ r else none := by
  rw [List.drop_eq_getElem_cons h1, List.drop_eq_getElem_cons h2]
  rfl
theorem get_step {ws : List Int} {b : List UInt8} {k : Nat} (h1 : k < ws.length) : getF (ws.drop k) b = if 1 ≤ ws[k] ∧ ws[k] ≤ 8 ∧ ws[k] ≤ b.length then (getF (ws.drop (k + 1)) (b.drop ws[k].toNat)).map fun r => numF (b.take ws[k].toNat) :: r else none := by
  rw [List.drop_eq_getElem_cons h1]
  rfl
theorem put_unlike : ∀ {ws : List Int} {ns : List Nat}, ws.length ≠ ns.length → putF ws ns = none := by
  intro ws ns h
  rcases hp : putF ws ns with _ | b
  · rfl
  · exact absurd (put_some hp).2.1.symm h
theorem put_narrow : ∀ {ws : List Int} {ns : List Nat}, wideB ws = false → putF ws ns = none := by
  intro ws ns h
  rcases hp : putF ws ns with _ | b
  · rfl
  · rw [(put_some hp).1] at h
    cases h
theorem get_some {ws : List Int} {ns : List Nat} {b : List UInt8} (h : getF ws b = some ns) : wideB ws = true ∧ ns.length = ws.length ∧ (b.length : Int) = sumF ws := put_some (put_get h)
theorem get_narrow {ws : List Int} {b : List UInt8} (h : wideB ws = false) : getF ws b = none := by
  rcases hp : getF ws b with _ | ns
  · rfl
  · rw [(get_some hp).1] at h
    cases h
theorem get_unlike {ws : List Int} {b : List UInt8} (h : (b.length : Int) ≠ sumF ws) : getF ws b = none := by
  rcases hp : getF ws b with _ | ns
  · rfl
  · exact absurd (get_some hp).2.2 h

/-- Texts side by side. -/
def leadF (n : Nat) : List UInt8 := bytesF 2 n
def bodyF (ts : List (List UInt8)) : List UInt8 := ts.flatMap fun t => leadF t.length ++ t
def shortB (ts : List (List UInt8)) : Bool := ts.all fun t => decide (t.length ≤ 65535)
def joinF (ts : List (List UInt8)) : Option (List UInt8) := if ts.length ≤ 65535 ∧ shortB ts = true then some (leadF ts.length ++ bodyF ts) else none
/-- The texts of bytes, so many. -/
def splitN : Nat → List UInt8 → Option (List (List UInt8))
  | 0, b => if b = [] then some [] else none
  | k + 1, b => if b.length < 2 then none else if (b.drop 2).length < numF (b.take 2) then none else
      (splitN k ((b.drop 2).drop (numF (b.take 2)))).map fun r => (b.drop 2).take (numF (b.take 2)) :: r
def splitF (b : List UInt8) : Option (List (List UInt8)) := if b.length < 2 then none else splitN (numF (b.take 2)) (b.drop 2)

theorem lead_len (n : Nat) : (leadF n).length = 2 := bytesF_len 2 n
theorem lead_num {n : Nat} (h : n ≤ 65535) : numF (leadF n) = n := by
  rw [leadF, numF_bytesF, Nat.mod_eq_of_lt (by omega)]
theorem num_lead {l : List UInt8} (h : l.length = 2) : leadF (numF l) = l := by
  have := bytesF_numF l
  rwa [h] at this
theorem num2_lt (b : List UInt8) : numF (b.take 2) ≤ 65535 := by
  have h := numF_lt (b.take 2)
  have h2 : (b.take 2).length ≤ 2 := List.length_take_le _ _
  have h3 := Nat.pow_le_pow_right (n := 256) (by omega) h2
  omega
theorem short_mem {ts : List (List UInt8)} (h : shortB ts = true) : ∀ t ∈ ts, t.length ≤ 65535 := by
  simpa [shortB] using h
theorem short_mk {ts : List (List UInt8)} (h : ∀ t ∈ ts, t.length ≤ 65535) : shortB ts = true := by
  simpa [shortB] using h
theorem body_app (a b : List (List UInt8)) : bodyF (a ++ b) = bodyF a ++ bodyF b := by simp [bodyF]
theorem body_cons (t : List UInt8) (r : List (List UInt8)) : bodyF (t :: r) = leadF t.length ++ (t ++ bodyF r) := by simp [bodyF]
theorem body_len : ∀ {ts : List (List UInt8)}, (∀ t ∈ ts, t.length ≤ 65535) → (bodyF ts).length ≤ 65537 * ts.length
  | [], _ => by simp [bodyF]
  | t :: r, h => by
    have h1 := h t (by simp)
    have h2 := body_len (ts := r) fun y hy => h y (by simp [hy])
    rw [body_cons]
    simp only [List.length_append, lead_len, List.length_cons]
    omega
theorem splitN_body : ∀ {ts : List (List UInt8)} (_ : ∀ t ∈ ts, t.length ≤ 65535) (x : List UInt8), splitN ts.length (bodyF ts ++ x) = if x = [] then some ts else none
  | [], _, x => by simp [bodyF, splitN]
  | t :: r, h, x => by
    have h1 := h t (by simp)
    have ht : (bodyF (t :: r) ++ x).take 2 = leadF t.length := by
      rw [body_cons, List.append_assoc, List.take_left' (lead_len _)]
    have hd : (bodyF (t :: r) ++ x).drop 2 = t ++ (bodyF r ++ x) := by
      rw [body_cons, List.append_assoc, List.drop_left' (lead_len _), List.append_assoc]
    simp only [List.length_cons, splitN]
    rw [ht, hd, lead_num h1, if_neg, if_neg, List.drop_left' rfl, List.take_left' rfl, splitN_body (fun y hy => h y (by simp [hy]))]
    · split <;> rfl
    · simp
    · rw [body_cons]; simp [lead_len]
theorem split_join {ts : List (List UInt8)} {b : List UInt8} (h : joinF ts = some b) : splitF b = some ts := by
  unfold joinF at h
  split at h
  · rename_i hc
    simp only [Option.some.injEq] at h
    subst h
    unfold splitF
    rw [if_neg (by simp [lead_len]), List.take_left' (lead_len _), List.drop_left' (lead_len _), lead_num hc.1]
    have := splitN_body (short_mem hc.2) []
    simpa using this
  · cases h
theorem split_more {ts : List (List UInt8)} {b x : List UInt8} (h : joinF ts = some b) (hx : x ≠ []) : splitF (b ++ x) = none := by
  unfold joinF at h
  split at h
  · rename_i hc
    simp only [Option.some.injEq] at h
    subst h
    unfold splitF
    rw [List.append_assoc, if_neg (by simp [lead_len]), List.take_left' (lead_len _), List.drop_left' (lead_len _), lead_num hc.1, splitN_body (short_mem hc.2) x, if_neg hx]
  · cases h
theorem splitN_some : ∀ {k : Nat} {b : List UInt8} {ts : List (List UInt8)}, splitN k b = some ts → ts.length = k ∧ (∀ t ∈ ts, t.length ≤ 65535) ∧ bodyF ts = b
  | 0, b, ts, h => by
    simp only [splitN] at h
    split at h
    · rename_i hb
      simp only [Option.some.injEq] at h
      subst h hb
      simp [bodyF]
    · cases h
  | k + 1, b, ts, h => by
    simp only [splitN] at h
    split at h
    · cases h
    · split at h
      · cases h
      · rename_i h1 h2
        obtain ⟨r, hr, rfl⟩ := Option.map_eq_some_iff.1 h
        obtain ⟨e1, e2, e3⟩ := splitN_some hr
        have hn := num2_lt b
        have hl : (List.take (numF (b.take 2)) (b.drop 2)).length = numF (b.take 2) := by rw [List.length_take]; omega
        refine ⟨by simp [e1], fun t ht => ?_, ?_⟩
        · rcases List.mem_cons.1 ht with rfl | ht
          · omega
          · exact e2 t ht
        · rw [body_cons, hl, e3, num_lead (by rw [List.length_take]; omega), List.take_append_drop, List.take_append_drop]
theorem join_split {b : List UInt8} {ts : List (List UInt8)} (h : splitF b = some ts) : joinF ts = some b := by
  unfold splitF at h
  split at h
  · cases h
  · obtain ⟨e1, e2, e3⟩ := splitN_some h
    have hn := num2_lt b
    unfold joinF
    rw [if_pos ⟨by omega, short_mk e2⟩, e1, e3, num_lead (by rw [List.length_take]; omega), List.take_append_drop]
theorem split_cut {ts : List (List UInt8)} {b : List UInt8} {k : Nat} (h : joinF ts = some b) (hk : k < b.length) : splitF (b.take k) = none := by
  rcases hs : splitF (b.take k) with _ | us
  · rfl
  · have hj := join_split hs
    have := split_more (x := b.drop k) hj (by
      intro h0
      have := congrArg List.length h0
      rw [List.length_drop] at this
      simp at this
      omega)
    rw [List.take_append_drop, split_join h] at this
    cases this
end
section
open Go.RowKit

theorem wd_at {w : World} {B : Nat} {A : Option Addr} {l : List Int} (h : Rd w B A (wds l)) (k : Nat) (hk : k < l.length) :
    ∃ b off, A = some ⟨b, off, none⟩ ∧ b < B ∧ w.cell? ⟨b, off + k, none⟩ = some (.int .i64 l[k]) := h.at_ k _ (wds_at l k hk)
theorem by_at {w : World} {B : Nat} {A : Option Addr} {l : List UInt8} (h : Rd w B A (bys l)) (k : Nat) (hk : k < l.length) :
    ∃ b off, A = some ⟨b, off, none⟩ ∧ b < B ∧ w.cell? ⟨b, off + k, none⟩ = some (.int .u8 (l[k].toNat : Int)) := h.at_ k _ (bys_at l k hk)
theorem un_at {w : World} {B : Nat} {A : Option Addr} {l : List Nat} (h : Rd w B A (uns l)) (k : Nat) (hk : k < l.length) :
    ∃ b off, A = some ⟨b, off, none⟩ ∧ b < B ∧ w.cell? ⟨b, off + k, none⟩ = some (.int .u64 (l[k] : Int)) := h.at_ k _ (uns_at l k hk)

theorem sum_take {l : List Int} (k : Nat) (hk : k < l.length) : sumF (l.take (k + 1)) = sumF (l.take k) + l[k] := by
  rw [List.take_succ_eq_append_getElem hk, sumF_app]
  simp [sumF]

def totV (l : List Int) : Value := .tuple #[.int .i64 (if wideB l then sumF l else 0), .bool (wideB l)]
theorem tot_no {l : List Int} (h : wideB l = false) : .tuple #[.int .i64 0, .bool false] = totV l := by
  unfold totV; rw [h]; rfl
theorem tot_yes {l m : List Int} (h : wideB l = true) (hm : m = l) : .tuple #[.int .i64 (sumF m), .bool true] = totV l := by
  unfold totV; rw [h, hm]; rfl

set_option maxHeartbeats 400000 in
theorem total_any (A : Option Addr) (c : Nat) (l : List Int) (w : World) (hs : Rd w w.heap.size A (wds l)) (hl : l.length ≤ 1125899906842624) :
    Calls Try.prog 67 #[.slice A l.length c] w fun e w' => e = .returned (totV l) ∧ Below w.heap.size w w' := by
  go_enter Try.func67, Try.ntmps67
  go_wp2_with fail
  go_loopw [4, 9] (fun s i wr => ∃ (k : Nat), k ≤ l.length ∧ i = .int .i64 k ∧ s = .int .i64 (sumF (l.take k)) ∧ (∀ x ∈ l.take k, 1 ≤ x ∧ x ≤ 8) ∧ Below w.heap.size w wr) (fun _ i _ => l.length - (intOf i).toNat)
  case atStart => exact ⟨0, by omega, rfl, rfl, by simp, Below.refl _ _⟩
  case round =>
    obtain ⟨k, hk, rfl, rfl, hin, hb⟩ := hrel
    have hsb := sum_bd hin
    have hlt' : (l.take k).length ≤ k := List.length_take_le _ _
    have HI := Lib.hid hin; clear hin
    by_cases hlt : k < l.length
    · obtain ⟨b, off, rfl, hbB, hc1⟩ := wd_at hs k hlt
      obtain ⟨hc, hf⟩ := bcell hb
      have hst := sum_take k hlt
      have HS := Lib.hid hst; clear hst
      have HM : Hid (l[k] ∈ l) := List.getElem_mem hlt
      have HT : Hid (l.take (k + 1) = l.take k ++ [l[k]]) := List.take_succ_eq_append_getElem hlt
      generalize l[k] = x at *
      obtain ⟨hs0, hs1, hs2⟩ := hsb
      by_cases hx : 1 ≤ x ∧ x ≤ 8
      · obtain ⟨hx1, hx2⟩ := hx
        go_wp2_with fail
        go_roundw
        case rel => exact ⟨k + 1, by omega, by go_num, by rw [HS.out], fun y hy => by
          rw [HT.out, List.mem_append, List.mem_singleton] at hy
          rcases hy with hy | rfl
          · exact HI.out y hy
          · exact ⟨hx1, hx2⟩, hb⟩
        case measure => simp [intOf]; omega
      · have hw : wideB l = false := by
          rw [Bool.eq_false_iff]
          intro h
          exact hx (wideB_mem h x HM.out)
        have HW := Lib.hid hw; clear hw
        by_cases hx1 : x < 1
        · go_wp2_with fail
          go_ret2
          exact ⟨ret_val (tot_no HW.out), hb⟩
        · have hx2 : 8 < x := by omega
          clear hx
          go_wp2_with fail
          go_ret2
          exact ⟨ret_val (tot_no HW.out), hb⟩
    · have hw : wideB l = true := wideB_mk (by rw [List.take_of_length_le (by omega)] at HI; exact HI.out)
      have HT : Hid (l.take k = l) := List.take_of_length_le (by omega)
      have HW := Lib.hid hw; clear hw
      go_wp2_with fail
      go_ret2
      exact ⟨ret_val (tot_yes HW.out HT.out), hb⟩

theorem or_step (a x k : Nat) (ha : a < 18446744073709551616) : bits .or .u64 (a : Int) (IntKind.u64.wrap ((x : Int) * 2 ^ (8 * k))) = ((a ||| x <<< (8 * k) % 18446744073709551616 : Nat) : Int) := by
  have e : IntKind.u64.wrap ((x : Int) * 2 ^ (8 * k)) = ((x <<< (8 * k) % 18446744073709551616 : Nat) : Int) := by
    rw [Nat.shiftLeft_eq]
    simp [IntKind.wrap, IntKind.bits, IntKind.signed]
  rw [e, u64_or_nat _ _ ha (Nat.mod_lt _ (by omega))]

set_option maxHeartbeats 400000 in
theorem number_same (A : Option Addr) (c B : Nat) (l : List UInt8) (w : World) (hs : Rd w B A (bys l)) (hl : l.length ≤ 8) :
    Calls Try.prog 72 #[.slice A l.length c] w fun e w' => e = .returned (.int .u64 (numF l : Int)) ∧ w' = w := by
  go_enter Try.func72, Try.ntmps72
  go_wp2_with fail
  go_loop [3, 8] (fun s i => ∃ (k : Nat), k ≤ l.length ∧ i = .int .i64 k ∧ s = .int .u64 (numF (l.take k) : Int)) (fun _ i => l.length - (intOf i).toNat)
  case atStart => exact ⟨0, by omega, rfl, rfl⟩
  case round =>
    obtain ⟨k, hk, rfl, rfl⟩ := hrel
    by_cases hlt : k < l.length
    · obtain ⟨b, off, rfl, hbB, hc1⟩ := by_at hs k hlt
      have hor := num_or l k hlt hl
      have HO := Lib.hid hor; clear hor
      have hbt := l[k].toNat_lt
      have ha : Hid (numF (l.take k) < 18446744073709551616) := numF_lt8 (by rw [List.length_take]; omega)
      generalize l[k].toNat = x at *
      go_wp2_with fail
      go_round
      case rel => exact ⟨k + 1, by omega, by go_num, by rw [← HO.out, or_step _ _ _ ha.out]⟩
      case measure => simp [intOf]; omega
    · have HT : Hid (l.take k = l) := List.take_of_length_le (by omega)
      go_wp2_with fail
      go_ret
      exact ⟨ret_int (by rw [HT.out]), rfl⟩
theorem Rd.take {w : World} {B : Nat} {A : Option Addr} {xs : List Value} (h : Rd w B A xs) (k : Nat) : Rd w B A (xs.take k) := fun hn => by
  obtain ⟨b, off, e, hl, hc⟩ := h (by rw [List.length_take] at hn; omega)
  refine ⟨b, off, e, hl, fun j v hv => hc j v ?_⟩
  rw [List.getElem?_take] at hv
  split at hv
  · exact hv
  · cases hv
theorem bys_take (l : List UInt8) (k : Nat) : (bys l).take k = bys (l.take k) := by simp [bys, List.map_take]
/-- The number of the first k of some bytes. -/
theorem number_first (A : Option Addr) (c B k : Nat) (l : List UInt8) (w : World) (hs : Rd w B A (bys l)) (hk : k ≤ 8) (hl : k ≤ l.length) :
    Calls Try.prog 72 #[.slice A k c] w fun e w' => e = .returned (.int .u64 (numF (l.take k) : Int)) ∧ w' = w := by
  have h := number_same A c B (l.take k) w (by rw [← bys_take]; exact hs.take k) (by rw [List.length_take]; omega)
  rwa [List.length_take_of_le hl] at h
end
section
open Go.RowKit

theorem val_step (l : List UInt8) (j : Nat) (hj : j < l.length) (h8 : l.length ≤ 8) (x : Nat) (hx : x = l[j].toNat) : IntKind.u64.wrap (IntKind.u64.wrap ((numF (l.drop (j + 1)) : Int) * 256) + x) = (numF (l.drop j) : Int) := by
  have h1 := numF_drop l j hj
  have h2 := numF_lt8 (l := l.drop j) (by rw [List.length_drop]; omega)
  rw [IntKind.wrap_u64, IntKind.wrap_u64, h1]
  rw [h1] at h2
  subst hx
  omega

/-- append of one element of one cell that lies in the newest block. -/
theorem app_one {P : Program} {T E : TypeId} {z : Value} {bytes : Nat} (hT : P.underlying T = some (.slice E)) (hinfo : (P.info? E).map (fun i => (i.zero, i.size, i.bytes)) = some (some z, 1, bytes)) (hz1 : z.cells.size = 1)
    {ops : Array Oper} {rest : List Oper} {o : Oper} {a : Act} {w : World} {Q : Exit → Act → World → Prop} (hgd : o.guard = none) (s x : Nat)
    (ho : o.op = .call { callee := .builtin .append, args := #[.tmp s, .tmp x], argTypes := #[T, T] })
    (base : Nat) (v : Value) (n : Nat) (xs : List Value) (hs : a.eval (.tmp s) = v) (hown : w.ownsRow base E 1 v n xs) (u : Value) (hu : u.oneCell' = true)
    (hx : a.eval (.tmp x) = .slice (some ⟨w.heap.size, 0, none⟩) 1 1) (hbase : base ≤ w.heap.size) (hb0 : 0 < bytes) (hn : (n + 1) * bytes ≤ 140737488355328)
    (h : ∀ v' w', w'.ownsRow base E 1 v' (n + 1) (xs ++ [u]) → (w.alloc (.cells #[u] E)).grownBy w' v.ownBlock → wpList P ops Q rest (a.put o.dst v') w') :
    wpList P ops Q (o :: rest) a (w.alloc (.cells #[u] E)) := by
  obtain ⟨i0, hi0, hz0, hz2, hz3⟩ := info_parts hinfo
  have hn1 : n + 1 ≤ 140737488355328 := Nat.le_trans (Nat.le_mul_of_pos_right _ hb0) hn
  refine wpList_append_own _ hgd (.tmp s) (.tmp x) _ ho base E i0 _ 1 bytes hT hi0 hz0 hz2 hz3 hz1 (by omega) v n xs hs (World.ownsRow.alloc hown _)
    ⟨w.heap.size, 0, none⟩ 1 1 [u] hx rfl (cell_one_new w u E) (by simpa using hu) (by simp only [maxLen]; omega) hn (by simp; omega) ?_
  intro v' w' h1 h2 _
  exact h v' w' h1 h2

theorem rd_add {w : World} {B : Nat} {b off : Nat} {xs : List Value} (h : Rd w B (some ⟨b, off, none⟩) xs) : ∀ j u, xs[j]? = some u → w.cell? ((⟨b, off, none⟩ : Addr).add j) = some u := by
  intro j u hu
  have hn : 0 < xs.length := by
    have := (List.getElem?_eq_some_iff.1 hu).1
    omega
  obtain ⟨b', off', e, _, hc⟩ := h hn
  simp only [Option.some.injEq, Addr.mk.injEq, and_true] at e
  obtain ⟨rfl, rfl⟩ := e
  have e : (⟨b, off, none⟩ : Addr).add j = ⟨b, off + j, none⟩ := by unfold Addr.add; split <;> simp_all
  rw [e]
  exact hc j u hu

theorem run_app_none {P : Program} (w : World) (base : Nat) (t ty e : TypeId) (i : TypeInfo) (size : Nat) (ht : P.underlying t = some (.slice e)) (hi : P.info? e = some i)
    (v : Value) (n : Nat) (xs : List Value) (hown : w.ownsRow base e size v n xs) (A : Option Addr) (c : Nat) : (Builtin.append_ #[t, t] ty #[v, .slice A 0 c]).run P w = .ok v w := by
  rcases hown.2 with ⟨rfl, rfl⟩ | ⟨g, cap, cur, rfl, _, _, hnc, _⟩
  · rcases A with _ | A <;> simp [Builtin.append_, run_underlying ht, sizeOf, typeInfo, hi, Builtin.lenOf, Builtin.firstCells, loadCells, loadCellsFrom]
  · rcases A with _ | A <;> simp [Builtin.append_, run_underlying ht, sizeOf, typeInfo, hi, Builtin.lenOf, Builtin.firstCells, loadCells, loadCellsFrom, hnc, storeCells]

/-- append of all elements, of one cell each, of a slice that is read as a list. -/
theorem app_all {P : Program} {T E : TypeId} {z : Value} {bytes : Nat} (hT : P.underlying T = some (.slice E)) (hinfo : (P.info? E).map (fun i => (i.zero, i.size, i.bytes)) = some (some z, 1, bytes)) (hz1 : z.cells.size = 1)
    {ops : Array Oper} {rest : List Oper} {o : Oper} {a : Act} {w : World} {Q : Exit → Act → World → Prop} (hgd : o.guard = none) (s x : Nat)
    (ho : o.op = .call { callee := .builtin .append, args := #[.tmp s, .tmp x], argTypes := #[T, T] })
    (base : Nat) (v : Value) (n : Nat) (xs : List Value) (hs : a.eval (.tmp s) = v) (hown : w.ownsRow base E 1 v n xs) (B : Nat) (A : Option Addr) (m c : Nat) (news : List Value)
    (hx : a.eval (.tmp x) = .slice A m c) (hm : news.length = m) (hr : Rd w B A news) (h1 : ∀ u ∈ news, u.oneCell' = true) (hbase : base ≤ w.heap.size) (hb0 : 0 < bytes) (hn : (n + m) * bytes ≤ 140737488355328)
    (h : ∀ v' w', w'.ownsRow base E 1 v' (n + m) (xs ++ news) → w.grownBy w' v.ownBlock → wpList P ops Q rest (a.put o.dst v') w') :
    wpList P ops Q (o :: rest) a w := by
  obtain ⟨i0, hi0, hz0, hz2, hz3⟩ := info_parts hinfo
  have hn1 : n + m ≤ 140737488355328 := Nat.le_trans (Nat.le_mul_of_pos_right _ hb0) hn
  rcases Nat.eq_zero_or_pos m with h0 | h0
  · subst h0
    obtain rfl : news = [] := List.eq_nil_of_length_eq_zero hm
    refine wpList_plain hgd fun K hK => ?_
    have hrun := run_app_none (P := P) w base T o.type E i0 1 hT hi0 v n xs hown A c
    unfold Oper.wp execOp
    simp only [ho, resolve, invoke, builtin, Sem.run_bind, Sem.run_pure, Result.andThen_ok, List.map_toArray, List.map_cons, List.map_nil, hs, hx, hrun]
    refine hK _ _ (h v w (by simpa using hown) ⟨rfl, rfl, rfl, Nat.le_refl _, fun _ _ _ => rfl⟩)
  · obtain ⟨b, off, rfl, _, _⟩ := hr (by omega)
    refine wpList_append_own _ hgd (.tmp s) (.tmp x) _ ho base E i0 _ 1 bytes hT hi0 hz0 hz2 hz3 hz1 (by omega) v n xs hs hown
      ⟨b, off, none⟩ m c news hx (by omega) (rd_add hr) h1 (by simp only [maxLen]; omega) hn hbase ?_
    intro v' w' h1 h2 _
    exact h v' w' h1 h2

theorem infoByte : (Try.prog.info? 5).map (fun i => (i.zero, i.size, i.bytes)) = some (some (.int .u8 0), 1, 1) := by kernel_rfl
theorem infoUn : (Try.prog.info? 22).map (fun i => (i.zero, i.size, i.bytes)) = some (some (.int .u64 0), 1, 8) := by kernel_rfl
theorem infoText : (Try.prog.info? 34).map (fun i => (i.zero, i.size, i.bytes)) = some (some (.slice none 0 0), 1, 24) := by kernel_rfl

/-- A slice of bytes of the call's own. -/
def OwnB (w : World) (base : Nat) (v : Value) (l : List UInt8) : Prop := w.ownsRow base 5 1 v l.length (bys l)
def OwnU (w : World) (base : Nat) (v : Value) (l : List Nat) : Prop := w.ownsRow base 22 1 v l.length (uns l)
theorem ownB_snoc {w : World} {base : Nat} {v : Value} {l : List UInt8} {m : Nat} {b : UInt8} {x : Int} (hm : m = l.length + 1) (hx : x = (b.toNat : Int)) (h : w.ownsRow base 5 1 v m (bys l ++ [.int .u8 x])) : OwnB w base v (l ++ [b]) := by
  subst hm hx
  unfold OwnB
  rw [List.length_append, bys_app]
  exact h
theorem ownB_app {w : World} {base : Nat} {v : Value} {l m : List UInt8} (h : w.ownsRow base 5 1 v (l.length + m.length) (bys l ++ bys m)) : OwnB w base v (l ++ m) := by
  unfold OwnB
  rw [List.length_append, bys_app]
  exact h
theorem ownU_snoc {w : World} {base : Nat} {v : Value} {l : List Nat} {n : Nat} (h : w.ownsRow base 22 1 v (l.length + 1) (uns l ++ [.int .u64 (n : Int)])) : OwnU w base v (l ++ [n]) := by
  unfold OwnU
  rw [List.length_append, uns_app]
  exact h

theorem byte_shr (n k : Nat) : (n : Int) / 2 ^ (8 * k) % 256 = ((UInt8.ofNat (n / 256 ^ k)).toNat : Int) := by
  rw [UInt8.toNat_ofNat', ← pow8]
  simp

set_option maxHeartbeats 400000 in
theorem fadd_any (base : Nat) (v : Value) (l : List UInt8) (x n : Nat) (w : World) (hown : OwnB w base v l) (hbase : base ≤ w.heap.size) (hx : x ≤ 8) (hl : l.length + x ≤ 140737488355328) (hn : n < 18446744073709551616) :
    Calls Try.prog 68 #[v, .int .i64 x, .int .u64 n] w fun e w' => ∃ v', e = .returned v' ∧ OwnB w' base v' (l ++ bytesF x n) ∧ Below base w w' := by
  have HN := Lib.hid hn; clear hn
  have HO0 := Lib.hid hown; clear hown
  go_enter Try.func68, Try.ntmps68
  go_wp2_with fail
  go_loopw [0, 9] (fun s i wr => ∃ (k : Nat), k ≤ x ∧ i = .int .i64 k ∧ OwnB wr base s (l ++ bytesF k n) ∧ Below base w wr) (fun _ i _ => x - (intOf i).toNat)
  case atStart => exact ⟨0, by omega, rfl, by rw [bytesF, List.append_nil]; exact HO0.out, Below.refl _ _⟩
  case round =>
    obtain ⟨k, hk, rfl, hown, hb⟩ := hrel
    have hsz := hb.size
    have HO := Lib.hid hown; clear hown
    by_cases hlt : k < x
    · have HL : Hid ((l ++ bytesF k n).length = l.length + k) := by show _ = _; rw [List.length_append, bytesF_len]
      have HB : Hid (l ++ bytesF k n ++ [UInt8.ofNat (n / 256 ^ k)] = l ++ bytesF (k + 1) n) := by show _ = _; rw [bytesF_snoc, List.append_assoc]
      go_wp2_with (at_builtin; go_loud (refine app_one Try.underlying34 infoByte rfl rfl 12 18 rfl base u0 _ _ rfl HO.out _ rfl rfl (by omega) (by omega) (by rw [HL.out]; omega) ?_); intro v' w' hown' hgr)
      go_roundw
      case rel => exact ⟨k + 1, by omega, by go_num, by rw [← HB.out]; exact ownB_snoc rfl (byte_shr n k) hown', below_own (hb.alloc (by omega) _) (World.ownsRow.alloc HO.out _) (Nat.le_refl _) (by simp; omega) hgr⟩
      case measure => simp [intOf]; omega
    · obtain rfl : k = x := by omega
      go_wp2_with fail
      go_ret
      exact ⟨_, rfl, HO.out, hb⟩
end
section
open Go.RowKit

theorem ownB_nil (w : World) (base : Nat) (hb : base ≤ w.heap.size) : OwnB (w.alloc (.cells #[] 5)) base (.slice (some ⟨w.heap.size, 0, none⟩) 0 0) [] := by
  have h := World.ownsRow_lit (base := base) (e := 5) (size := 1) w #[] 0 hb (by simp [maxLen]) rfl
  simpa [OwnB, bys] using h
theorem ownU_nil (w : World) (base : Nat) (hb : base ≤ w.heap.size) : OwnU (w.alloc (.cells #[] 22)) base (.slice (some ⟨w.heap.size, 0, none⟩) 0 0) [] := by
  have h := World.ownsRow_lit (base := base) (e := 22) (size := 1) w #[] 0 hb (by simp [maxLen]) rfl
  simpa [OwnU, uns] using h

theorem div_wrap {m n k : Nat} (hm : m = n / 256 ^ k) (hn : n < 18446744073709551616) : Value.int .u64 (IntKind.u64.wrap ((m : Int) / 256)) = .int .u64 ((m / 256 : Nat) : Int) := by
  have h : m ≤ n := by rw [hm]; exact Nat.div_le_self _ _
  rw [IntKind.wrap_u64]
  congr 1
  omega
def fitB (x n : Nat) : Bool := decide (n < 256 ^ x)
theorem fit_yes {x n m : Nat} (hm : m = n / 256 ^ x) (h0 : m = 0) : fitB x n = true := by
  unfold fitB
  rw [decide_eq_true_eq]
  rw [h0] at hm
  rcases Nat.lt_or_ge n (256 ^ x) with h | h
  · exact h
  · have := Nat.div_pos h (Nat.pow_pos (by omega))
    omega
theorem fit_no {x n m : Nat} (hm : m = n / 256 ^ x) (h0 : 0 < m) : fitB x n = false := by
  unfold fitB
  rw [decide_eq_false_iff_not]
  intro h
  rw [Nat.div_eq_of_lt h] at hm
  omega
theorem byte_mod {m n k : Nat} (hm : m = n / 256 ^ k) : (m : Int) % 256 = ((UInt8.ofNat (n / 256 ^ k)).toNat : Int) := by
  rw [UInt8.toNat_ofNat', hm]
  simp
theorem div_next {m n k : Nat} (hm : m = n / 256 ^ k) : m / 256 = n / 256 ^ (k + 1) := by
  rw [hm, Nat.div_div_eq_div_mul, Nat.pow_succ]

theorem drew2 {w : World} (n m : Nat) : (w.drewN n).drewN m = w.drewN (n + m) := by simp
theorem number_quiet (A : Option Addr) (c B k : Nat) (l : List UInt8) (w : World) (hs : Rd w B A (bys l)) (hk : k ≤ 8) (hl : k ≤ l.length) (n : Nat) :
    Calls Try.prog 72 #[.slice A k c] (w.drewN n) fun e w'' => e = .returned (.int .u64 (numF (l.take k) : Int)) ∧ ∃ m, w'' = w.drewN m :=
  Calls.quiet_of_same (number_first A c B k l (w.drewN n) hs hk hl)
end
section
open Go.RowKit

def codeF {α : Type} (o : Option α) : Int := if o.isSome then 0 else 21
/-- Bytes, or none, and an error's number. -/
def GivesB (o : Option (List UInt8)) (w : World) (e : Ending) (w' : World) : Prop :=
  ∃ A c, e = .returned (.tuple #[.slice A (o.getD []).length c, .int .i64 (codeF o)]) ∧ Rd w' w'.heap.size A (bys (o.getD [])) ∧ (o.getD []).length ≤ c ∧ Below w.heap.size w w'
theorem givesB_none {o : Option (List UInt8)} {w w' : World} {e : Ending} (ho : o = none) (he : e = .returned (.tuple #[.slice none 0 0, .int .i64 21])) (hb : Below w.heap.size w w') : GivesB o w e w' := by
  subst ho
  exact ⟨none, 0, he, Rd.nil, by simp, hb⟩
theorem givesB_some {o : Option (List UInt8)} {w w' : World} {e : Ending} {b : List UInt8} {base : Nat} {v : Value} (ho : o = some b) (hv : OwnB w' base v b) (he : e = .returned (.tuple #[v, .int .i64 0])) (hb : Below w.heap.size w w') : GivesB o w e w' := by
  subst ho
  obtain ⟨A, c, rfl, h1, h2⟩ := own_rd hv
  exact ⟨A, c, he, h1, h2, hb⟩

theorem total_no (A : Option Addr) (c : Nat) (l : List Int) (w : World) (hs : Rd w w.heap.size A (wds l)) (hl : l.length ≤ 1125899906842624) (h : wideB l = false) :
    Calls Try.prog 67 #[.slice A l.length c] w fun e w' => e = .returned (.tuple #[.int .i64 0, .bool false]) ∧ Below w.heap.size w w' := by
  rw [tot_no h]
  exact total_any A c l w hs hl
theorem total_yes (A : Option Addr) (c : Nat) (l : List Int) (s : Nat) (w : World) (hs : Rd w w.heap.size A (wds l)) (hl : l.length ≤ 1125899906842624) (h : wideB l = true) (hm : sumF l = s) :
    Calls Try.prog 67 #[.slice A l.length c] w fun e w' => e = .returned (.tuple #[.int .i64 (s : Int), .bool true]) ∧ Below w.heap.size w w' := by
  rw [← hm, tot_yes h rfl]
  exact total_any A c l w hs hl

theorem make_bytes (s : Nat) (hs : s ≤ 281474976710656) : ∃ cs : Array Value, cs.size = s ∧ ∀ W : World, (Instr.makeSlice 34 (.int .i64 0) (.int .i64 (s : Int))).run Try.prog W = .ok (.slice (some ⟨W.heap.size, 0, none⟩) 0 s) (W.alloc (.cells cs 5)) := by
  obtain ⟨i0, hi0, hz0, hz2, hz3⟩ := info_parts infoByte
  refine ⟨madeCells (Value.int .u8 0).cells (s * i0.size), by rw [size_madeCells, hz2, Nat.mul_one], fun W => ?_⟩
  have h := run_make (P := Try.prog) W 34 5 i0 _ Try.underlying34 hi0 hz0 .i64 .i64 0 s (Int.le_refl _) (by omega) (by rw [hz3]; omega) (by omega)
  simpa using h
theorem own_made {w : World} {base s : Nat} {cs : Array Value} (hs : cs.size = s) (hb : base ≤ w.heap.size) (hm : s ≤ 281474976710656) : OwnB (w.alloc (.cells cs 5)) base (.slice (some ⟨w.heap.size, 0, none⟩) 0 s) [] :=
  World.ownsRow_made w cs s hb (by simp only [maxLen]; omega) (by rw [hs, Nat.mul_one])

theorem map_some {α β : Type} {o : Option α} {f : α → β} {g : β → β} : (o.map f).map g = o.map fun x => g (f x) := by rw [Option.map_map]; rfl
theorem fit_int {n x : Nat} (h : n < 256 ^ x) : ((n : Int) / 2 ^ (8 * x) != 0) = false := by
  rw [← pow8] at h
  have h2 := Nat.div_eq_of_lt h
  have h3 : ((n / 2 ^ (8 * x) : Nat) : Int) = 0 := by omega
  simp at h3
  simp [h3]
theorem fit_int_no {n x : Nat} (h : ¬ n < 256 ^ x) : ((n : Int) / 2 ^ (8 * x) != 0) = true := by
  rw [← pow8] at h
  have h2 : 0 < n / 2 ^ (8 * x) := Nat.div_pos (by omega) (Nat.pow_pos (by omega))
  have h3 : ((n / 2 ^ (8 * x) : Nat) : Int) ≠ 0 := by omega
  simp at h3
  simp [h3]

theorem put_no (A A' : Option Addr) (c c' : Nat) (ws : List Int) (ns : List Nat) (w : World) (hs : Rd w w.heap.size A (wds ws)) (hl : ws.length ≤ 1125899906842624) (h : wideB ws = false) :
    Calls Try.prog 60 #[.slice A ws.length c, .slice A' ns.length c'] w (GivesB (putF ws ns) w) := by
  have HN := Lib.hid (put_narrow (ns := ns) h)
  have HT := Lib.hid (total_no A c ws w hs hl h)
  clear h
  go_enter Try.func60, Try.ntmps60
  go_wp2_with (go_at_call 67; refine HT.out.mono ?_; rintro e w1 ⟨rfl, hb⟩)
  go_ret2
  exact givesB_none HN.out rfl hb
theorem put_len (A A' : Option Addr) (c c' : Nat) (ws : List Int) (ns : List Nat) (w : World) (hs : Rd w w.heap.size A (wds ws)) (hl : ws.length ≤ 1125899906842624) (h : wideB ws = true) (hn : ws.length ≠ ns.length) :
    Calls Try.prog 60 #[.slice A ws.length c, .slice A' ns.length c'] w (GivesB (putF ws ns) w) := by
  have HN := Lib.hid (put_unlike hn)
  obtain ⟨s, hs'⟩ := Int.eq_ofNat_of_zero_le (sum_bd (wideB_mem h)).1
  have HT := Lib.hid (total_yes A c ws s w hs hl h hs')
  have hne : ((ns.length : Int) != (ws.length : Int)) = true := by rw [bne_iff_ne]; omega
  clear h hn hs'
  go_enter Try.func60, Try.ntmps60
  go_wp2_with (go_at_call 67; refine HT.out.mono ?_; rintro e w1 ⟨rfl, hb⟩)
  go_ret2
  exact givesB_none HN.out rfl hb

theorem putr_end {ws : List Int} {ns : List Nat} {l : List UInt8} {k : Nat} {o : Option (List UInt8)} (h1 : ws.length ≤ k) (h2 : ns.length ≤ k) (h : o = (putF (ws.drop k) (ns.drop k)).map fun r => l ++ r) : o = some l := by
  rw [List.drop_of_length_le h1, List.drop_of_length_le h2] at h
  rw [h]
  simp [putF]
theorem putr_no {ws : List Int} {ns : List Nat} {l : List UInt8} {k x n : Nat} {o : Option (List UInt8)} (h1 : k < ws.length) (h2 : k < ns.length) (hx : ws[k] = (x : Int)) (hn : ns[k] = n) (hf : ¬ (1 ≤ x ∧ x ≤ 8 ∧ n < 256 ^ x)) (h : o = (putF (ws.drop k) (ns.drop k)).map fun r => l ++ r) : o = none := by
  rw [put_step h1 h2, if_neg] at h
  · exact h
  · rw [hx, hn, Int.toNat_natCast]
    intro ⟨a, b, c⟩
    exact hf ⟨by omega, by omega, c⟩
theorem putr_yes {ws : List Int} {ns : List Nat} {l : List UInt8} {k x n : Nat} {o : Option (List UInt8)} (h1 : k < ws.length) (h2 : k < ns.length) (hx : ws[k] = (x : Int)) (hn : ns[k] = n) (hx1 : 1 ≤ x) (hx8 : x ≤ 8) (hf : n < 256 ^ x) (h : o = (putF (ws.drop k) (ns.drop k)).map fun r => l ++ r) :
    o = (putF (ws.drop (k + 1)) (ns.drop (k + 1))).map fun r => (l ++ bytesF x n) ++ r := by
  rw [put_step h1 h2, if_pos ⟨by omega, by omega, by rw [hx, hn, Int.toNat_natCast]; exact hf⟩, map_some, hx, hn, Int.toNat_natCast] at h
  rw [h]
  simp

set_option maxHeartbeats 1000000 in
theorem put_like (A A' : Option Addr) (c c' : Nat) (ws : List Int) (ns : List Nat) (w : World) (hs : Rd w w.heap.size A (wds ws)) (ht : Rd w w.heap.size A' (uns ns)) (hN : ∀ n ∈ ns, n < 18446744073709551616) (hl : ws.length ≤ 17592186044416) (h : wideB ws = true) (hn : ws.length = ns.length) :
    Calls Try.prog 60 #[.slice A ws.length c, .slice A' ns.length c'] w (GivesB (putF ws ns) w) := by
  have hbd := sum_bd (wideB_mem h)
  obtain ⟨s, hs'⟩ := Int.eq_ofNat_of_zero_le hbd.1
  have HT := Lib.hid (total_yes A c ws s w hs (by omega) h hs')
  have HW := Lib.hid (wideB_mem h)
  have hs8 : s ≤ 140737488355328 := by omega
  obtain ⟨cs, hcs, hmk⟩ := make_bytes s (by omega)
  have hl1 : ns.length ≤ ws.length := by omega
  have hl2 : ws.length ≤ ns.length := by omega
  have HC := Lib.hid hcs
  have HN := Lib.hid hN
  have hne : ((ns.length : Int) != (ws.length : Int)) = false := by rw [bne_eq_false_iff_eq]; omega
  obtain ⟨o, ho⟩ : ∃ o, o = putF ws ns := ⟨_, rfl⟩
  rw [← ho]
  have HO := Lib.hid ho
  clear h hn hs' hbd hcs ho hN
  go_enter Try.func60, Try.ntmps60
  go_wp2_with (go_at_call 67; refine HT.out.mono ?_; rintro e w1 ⟨rfl, hb1⟩)
  have hsz1 := hb1.size
  clear hmk
  go_loopw [8, 29] (fun v i wr => ∃ (k : Nat) (l : List UInt8), k ≤ ns.length ∧ i = .int .i64 k ∧ l.length ≤ 8 * k ∧ Hid (o = (putF (ws.drop k) (ns.drop k)).map fun r => l ++ r) ∧ OwnB wr w.heap.size v l ∧ Below w.heap.size w wr) (fun _ i _ => ns.length - (intOf i).toNat)
  case atStart => exact ⟨0, [], by omega, rfl, by simp, by show _ = _; rw [HO.out]; simp, own_made HC.out (by omega) (by omega), hb1.alloc (by omega) _⟩
  case round =>
    obtain ⟨k, l, hk, rfl, hll, HR, hown, hb⟩ := hrel
    have hsz := hb.size
    have HV := Lib.hid hown; clear hown
    by_cases hlt : k < ns.length
    · obtain ⟨b, off, rfl, hbB, hc1⟩ := wd_at hs k (by omega)
      obtain ⟨b', off', rfl, hbB', hc1'⟩ := un_at ht k hlt
      obtain ⟨hc, hf⟩ := bcell hb
      have hwk := HW.out _ (List.getElem_mem (show k < ws.length by omega))
      have HNk := Lib.hid (HN.out _ (List.getElem_mem hlt))
      have hy := fun x n => putr_yes (l := l) (k := k) (x := x) (n := n) (o := o) (ws := ws) (ns := ns) (by omega) hlt
      have hz := fun x n => putr_no (l := l) (k := k) (x := x) (n := n) (o := o) (ws := ws) (ns := ns) (by omega) hlt
      have hk' : k < ws.length := by omega
      generalize ws[k] = z at *
      generalize ns[k] = n at *
      obtain ⟨x, rfl⟩ := Int.eq_ofNat_of_zero_le (show 0 ≤ z by omega)
      have hx1 : 1 ≤ x := by omega
      have hx8 : x ≤ 8 := by omega
      by_cases hfit : n < 256 ^ x
      · have HY := Lib.hid (hy x n rfl rfl hx1 hx8 hfit HR.out)
        have hd := fit_int hfit
        clear hy hz hfit HR hwk
        go_wp2_with (go_at_call 68; refine (fadd_any w.heap.size _ l x n _ HV.out (by omega) hx8 (by omega) HNk.out).mono ?_; rintro e w2 ⟨v2, rfl, hv2, hb2⟩)
        go_roundw
        case rel => exact ⟨k + 1, l ++ bytesF x n, by omega, by go_num, by rw [List.length_append, bytesF_len]; omega, HY.out, hv2, hb.trans hb2⟩
        case measure => simp [intOf]; omega
      · have HZ := Lib.hid (hz x n rfl rfl (fun h => hfit h.2.2) HR.out)
        have hd := fit_int_no hfit
        clear hy hz hfit HR hwk
        go_wp2_with fail
        go_ret2
        exact givesB_none HZ.out rfl hb
    · have HZ := Lib.hid (putr_end (by omega) (by omega) HR.out)
      go_wp2_with fail
      go_ret2
      exact givesB_some HZ.out HV.out rfl hb

theorem put_any (A A' : Option Addr) (c c' : Nat) (ws : List Int) (ns : List Nat) (w : World) (hs : Rd w w.heap.size A (wds ws)) (ht : Rd w w.heap.size A' (uns ns)) (hN : ∀ n ∈ ns, n < 18446744073709551616) (hl : ws.length ≤ 17592186044416) :
    Calls Try.prog 60 #[.slice A ws.length c, .slice A' ns.length c'] w (GivesB (putF ws ns) w) := by
  rcases hb : wideB ws with _ | _
  · exact put_no A A' c c' ws ns w hs (by omega) hb
  · by_cases hn : ws.length = ns.length
    · exact put_like A A' c c' ws ns w hs ht hN hl hb hn
    · exact put_len A A' c c' ws ns w hs (by omega) hb hn
end
section
open Go.RowKit

/-- Numbers, or none, and an error's number. -/
def GivesU (o : Option (List Nat)) (w : World) (e : Ending) (w' : World) : Prop :=
  ∃ A c, e = .returned (.tuple #[.slice A (o.getD []).length c, .int .i64 (codeF o)]) ∧ Rd w' w'.heap.size A (uns (o.getD [])) ∧ (o.getD []).length ≤ c ∧ Below w.heap.size w w'
theorem givesU_none {o : Option (List Nat)} {w w' : World} {e : Ending} (ho : o = none) (he : e = .returned (.tuple #[.slice none 0 0, .int .i64 21])) (hb : Below w.heap.size w w') : GivesU o w e w' := by
  subst ho
  exact ⟨none, 0, he, Rd.nil, by simp, hb⟩
theorem givesU_some {o : Option (List Nat)} {w w' : World} {e : Ending} {l : List Nat} {base : Nat} {v : Value} (ho : o = some l) (hv : OwnU w' base v l) (he : e = .returned (.tuple #[v, .int .i64 0])) (hb : Below w.heap.size w w') : GivesU o w e w' := by
  subst ho
  obtain ⟨A, c, rfl, h1, h2⟩ := own_rd hv
  exact ⟨A, c, he, h1, h2, hb⟩

theorem make_nums (s : Nat) (hs : s ≤ 17592186044416) : ∃ cs : Array Value, cs.size = s ∧ ∀ W : World, (Instr.makeSlice 117 (.int .i64 0) (.int .i64 (s : Int))).run Try.prog W = .ok (.slice (some ⟨W.heap.size, 0, none⟩) 0 s) (W.alloc (.cells cs 22)) := by
  obtain ⟨i0, hi0, hz0, hz2, hz3⟩ := info_parts infoUn
  refine ⟨madeCells (Value.int .u64 0).cells (s * i0.size), by rw [size_madeCells, hz2, Nat.mul_one], fun W => ?_⟩
  have h := run_make (P := Try.prog) W 117 22 i0 _ Try.underlying117 hi0 hz0 .i64 .i64 0 s (Int.le_refl _) (by omega) (by rw [hz3]; omega) (by omega)
  simpa using h
theorem ownU_made {w : World} {base s : Nat} {cs : Array Value} (hs : cs.size = s) (hb : base ≤ w.heap.size) (hm : s ≤ 17592186044416) : OwnU (w.alloc (.cells cs 22)) base (.slice (some ⟨w.heap.size, 0, none⟩) 0 s) [] :=
  World.ownsRow_made w cs s hb (by simp only [maxLen]; omega) (by rw [hs, Nat.mul_one])

theorem getr_end {ws : List Int} {r : List UInt8} {l : List Nat} {k : Nat} {o : Option (List Nat)} (h1 : ws.length ≤ k) (h2 : r.length = 0) (h : o = (getF (ws.drop k) r).map fun x => l ++ x) : o = some l := by
  rw [List.drop_of_length_le h1, List.eq_nil_of_length_eq_zero h2] at h
  rw [h]
  simp [getF]
theorem getr_more {ws : List Int} {r : List UInt8} {l : List Nat} {k : Nat} {o : Option (List Nat)} (h1 : ws.length ≤ k) (h2 : r.length ≠ 0) (h : o = (getF (ws.drop k) r).map fun x => l ++ x) : o = none := by
  rw [List.drop_of_length_le h1] at h
  rw [h]
  have : r ≠ [] := by rintro rfl; exact h2 rfl
  simp [getF, this]
theorem getr_no {ws : List Int} {r : List UInt8} {l : List Nat} {k : Nat} {z : Int} {o : Option (List Nat)} (h1 : k < ws.length) (hx : ws[k] = z) (hf : ¬ (1 ≤ z ∧ z ≤ 8 ∧ z ≤ r.length)) (h : o = (getF (ws.drop k) r).map fun x => l ++ x) : o = none := by
  rw [get_step h1, if_neg] at h
  · exact h
  · rw [hx]
    exact hf
theorem getr_yes {ws : List Int} {r : List UInt8} {l : List Nat} {k x : Nat} {o : Option (List Nat)} (h1 : k < ws.length) (hx : ws[k] = (x : Int)) (hx1 : 1 ≤ x) (hx8 : x ≤ 8) (hr : x ≤ r.length) (h : o = (getF (ws.drop k) r).map fun x => l ++ x) :
    o = (getF (ws.drop (k + 1)) (r.drop x)).map fun y => (l ++ [numF (r.take x)]) ++ y := by
  rw [get_step h1, if_pos ⟨by omega, by omega, by omega⟩, map_some, hx, Int.toNat_natCast] at h
  rw [h]
  simp
theorem sum_drop {ws : List Int} {k : Nat} (h : k < ws.length) : sumF (ws.drop k) = ws[k] + sumF (ws.drop (k + 1)) := by
  rw [List.drop_eq_getElem_cons h]
  rfl

theorem get_no (A A' : Option Addr) (c c' : Nat) (ws : List Int) (b : List UInt8) (w : World) (hs : Rd w w.heap.size A (wds ws)) (hl : ws.length ≤ 1125899906842624) (h : wideB ws = false) :
    Calls Try.prog 69 #[.slice A ws.length c, .slice A' b.length c'] w (GivesU (getF ws b) w) := by
  have HN := Lib.hid (get_narrow (b := b) h)
  have HT := Lib.hid (total_no A c ws w hs hl h)
  clear h
  go_enter Try.func69, Try.ntmps69
  go_wp2_with (go_at_call 67; refine HT.out.mono ?_; rintro e w1 ⟨rfl, hb⟩)
  go_ret2
  exact givesU_none HN.out rfl hb
theorem get_len (A A' : Option Addr) (c c' : Nat) (ws : List Int) (b : List UInt8) (w : World) (hs : Rd w w.heap.size A (wds ws)) (hl : ws.length ≤ 1125899906842624) (h : wideB ws = true) (hn : (b.length : Int) ≠ sumF ws) :
    Calls Try.prog 69 #[.slice A ws.length c, .slice A' b.length c'] w (GivesU (getF ws b) w) := by
  have HN := Lib.hid (get_unlike hn)
  obtain ⟨s, hs'⟩ := Int.eq_ofNat_of_zero_le (sum_bd (wideB_mem h)).1
  have HT := Lib.hid (total_yes A c ws s w hs hl h hs')
  have hne : ((s : Int) != (b.length : Int)) = true := by rw [bne_iff_ne]; omega
  clear h hn hs'
  go_enter Try.func69, Try.ntmps69
  go_wp2_with (go_at_call 67; refine HT.out.mono ?_; rintro e w1 ⟨rfl, hb⟩)
  go_ret2
  exact givesU_none HN.out rfl hb

set_option maxHeartbeats 1000000 in
theorem get_like (A A' : Option Addr) (c c' : Nat) (ws : List Int) (b0 : List UInt8) (w : World) (hs : Rd w w.heap.size A (wds ws)) (ht : Rd w w.heap.size A' (bys b0)) (hbc : b0.length ≤ c') (hl : ws.length ≤ 17592186044416) (h : wideB ws = true) (hn : (b0.length : Int) = sumF ws) :
    Calls Try.prog 69 #[.slice A ws.length c, .slice A' b0.length c'] w (GivesU (getF ws b0) w) := by
  have hbd := sum_bd (wideB_mem h)
  have HT := Lib.hid (total_yes A c ws b0.length w hs (by omega) h hn.symm)
  have HW := Lib.hid (wideB_mem h)
  obtain ⟨cs, hcs, hmk⟩ := make_nums ws.length hl
  have HC := Lib.hid hcs
  have hbl : b0.length ≤ 140737488355328 := by omega
  have hne : ((b0.length : Int) != (b0.length : Int)) = false := by simp
  obtain ⟨o, ho⟩ : ∃ o, o = getF ws b0 := ⟨_, rfl⟩
  rw [← ho]
  have HO := Lib.hid ho
  have HS := Lib.hid hn
  clear h hn hbd hcs ho
  go_enter Try.func69, Try.ntmps69
  go_wp2_with (go_at_call 67; refine HT.out.mono ?_; rintro e w1 ⟨rfl, hb1⟩)
  have hsz1 := hb1.size
  clear hmk hne
  go_loopw [1, 8, 29] (fun q v i wr => ∃ (k : Nat) (l : List Nat) (r : List UInt8) (A1 : Option Addr) (c1 : Nat), k ≤ ws.length ∧ i = .int .i64 k ∧ Hid (l.length = k) ∧ q = .slice A1 r.length c1 ∧ r.length ≤ c1 ∧ c1 ≤ c' ∧ r.length ≤ b0.length ∧ Rd w w.heap.size A1 (bys r) ∧ Hid ((r.length : Int) = sumF (ws.drop k)) ∧
      Hid (o = (getF (ws.drop k) r).map fun x => l ++ x) ∧ OwnU wr w.heap.size v l ∧ Below w.heap.size w wr) (fun _ _ i _ => ws.length - (intOf i).toNat)
  case atStart => exact ⟨0, [], b0, A', c', by omega, rfl, rfl, rfl, hbc, Nat.le_refl _, Nat.le_refl _, ht, HS.out, by show _ = _; rw [HO.out]; simp, ownU_made HC.out (by omega) (by omega), hb1.alloc (by omega) _⟩
  case round =>
    obtain ⟨k, l, r, A1, c1, hk, rfl, HL, rfl, hrc, hcc, hrb, hr, HSd, HR, hown, hb⟩ := hrel
    have hsz := hb.size
    have HV := Lib.hid hown; clear hown
    by_cases hlt : k < ws.length
    · obtain ⟨b, off, rfl, hbB, hc1⟩ := wd_at hs k (by omega)
      obtain ⟨hc, hf⟩ := bcell hb
      have hwk := HW.out _ (List.getElem_mem hlt)
      have hsd := sum_drop hlt
      have hrest := (sum_bd (ws := ws.drop (k + 1)) fun y hy => HW.out y (List.mem_of_mem_drop hy)).1
      have hy := fun x => getr_yes (l := l) (k := k) (x := x) (o := o) (ws := ws) (r := r) hlt
      generalize ws[k] = z at *
      obtain ⟨x, rfl⟩ := Int.eq_ofNat_of_zero_le (show 0 ≤ z by omega)
      have hx1 : 1 ≤ x := by omega
      have hx8 : x ≤ 8 := by omega
      have hxr : x ≤ r.length := by have := HSd.out; omega
      have hxr' : (x : Int) ≤ r.length := by omega
      have hxc : x ≤ c1 := by omega
      have hxc' : (x : Int) ≤ c1 := by omega
      have HY := Lib.hid (hy x rfl hx1 hx8 hxr HR.out)
      have HS2 : Hid (((r.drop x).length : Int) = sumF (ws.drop (k + 1))) := by show _ = _; rw [List.length_drop]; have := HSd.out; omega
      clear hy HR hwk hsd hrest
      obtain ⟨b', off', rfl, hbB', hc1'⟩ := by_at hr 0 (by omega)
      clear hc1'
      have hrd := hr.drop (k := x)
      rw [bys_drop] at hrd
      have Hrd := Lib.hid hrd; clear hrd
      by_cases hcx : c1 = x
      · subst hcx
        have H0 : Hid (r.length - c1 = 0) := by show _ = _; omega
        go_wp2_with (first
          | (go_at_call 72; refine (number_first _ _ w.heap.size c1 r _ (hr.below hb) hx8 hxr).mono ?_; rintro e w2 ⟨rfl, rfl⟩)
          | (at_builtin; go_loud (refine app_one Try.underlying117 infoUn rfl rfl 33 38 rfl w.heap.size u8 _ _ rfl HV.out _ rfl rfl (by omega) (by omega) (by rw [HL.out]; omega) ?_); intro v' w' hown' hgr))
        go_roundw
        case rel => exact ⟨k + 1, l ++ [numF (r.take c1)], r.drop c1, some ⟨b', off', none⟩, 0, by omega, by go_num, by show _ = _; rw [List.length_append, HL.out]; rfl, by rw [List.length_drop, H0.out], by rw [List.length_drop, H0.out]; exact Nat.le_refl _, by omega, by rw [List.length_drop]; omega, (fun h => absurd h (by rw [bys_len, List.length_drop]; have := H0.out; omega)), HS2.out, HY.out, ownU_snoc hown', below_own (hb.alloc (by omega) _) (World.ownsRow.alloc HV.out _) (Nat.le_refl _) (by simp; omega) hgr⟩
        case measure => simp [intOf]; omega
      · go_wp2_with (first
          | (go_at_call 72; refine (number_first _ _ w.heap.size x r _ (hr.below hb) hx8 hxr).mono ?_; rintro e w2 ⟨rfl, rfl⟩)
          | (at_builtin; go_loud (refine app_one Try.underlying117 infoUn rfl rfl 33 38 rfl w.heap.size u8 _ _ rfl HV.out _ rfl rfl (by omega) (by omega) (by rw [HL.out]; omega) ?_); intro v' w' hown' hgr))
        go_roundw
        case rel => exact ⟨k + 1, l ++ [numF (r.take x)], r.drop x, some ⟨b', off' + x, none⟩, c1 - x, by omega, by go_num, by show _ = _; rw [List.length_append, HL.out]; rfl, by rw [List.length_drop], by rw [List.length_drop]; omega, by omega, by rw [List.length_drop]; omega, Hrd.out, HS2.out, HY.out, ownU_snoc hown', below_own (hb.alloc (by omega) _) (World.ownsRow.alloc HV.out _) (Nat.le_refl _) (by simp; omega) hgr⟩
        case measure => simp [intOf]; omega
    · have HZ := Lib.hid (getr_end (by omega) (by have h1 := HSd.out; have h0 : sumF (ws.drop k) = 0 := (by rw [List.drop_of_length_le (by omega)]; rfl); omega) HR.out)
      go_wp2_with fail
      go_ret2
      exact givesU_some HZ.out HV.out rfl hb
end
section
open Go.RowKit

theorem get_any (A A' : Option Addr) (c c' : Nat) (ws : List Int) (b : List UInt8) (w : World) (hs : Rd w w.heap.size A (wds ws)) (ht : Rd w w.heap.size A' (bys b)) (hbc : b.length ≤ c') (hl : ws.length ≤ 17592186044416) :
    Calls Try.prog 69 #[.slice A ws.length c, .slice A' b.length c'] w (GivesU (getF ws b) w) := by
  rcases hb : wideB ws with _ | _
  · exact get_no A A' c c' ws b w hs (by omega) hb
  · by_cases hn : (b.length : Int) = sumF ws
    · exact get_like A A' c c' ws b w hs ht hbc hl hb hn
    · exact get_len A A' c c' ws b w hs (by omega) hb hn
end
end Go.Proofs.Ytdcegkeaopjbnaa
