
/- Numbers of fixed width and texts side by side: plain mathematics on lists, no program. -/
import Derived.Test.YtgbghmgipnphkaaK
set_option maxRecDepth 10000
namespace Go.Proofs.Ytgbghmgipnphkaa
open Go.RowKit

def bys (l : List UInt8) : List Value := l.map fun b : UInt8 => .int .u8 (b.toNat : Int)
def uns (l : List Nat) : List Value := l.map fun n : Nat => .int .u64 (n : Int)
def wds (l : List Int) : List Value := l.map (Value.int .i64)
theorem bys_len (l : List UInt8) : (bys l).length = l.length := by simp [bys]
theorem uns_len (l : List Nat) : (uns l).length = l.length := by simp [uns]
theorem wds_len (l : List Int) : (wds l).length = l.length := by simp [wds]
theorem bys_app (a b : List UInt8) : bys (a ++ b) = bys a ++ bys b := by simp [bys]
theorem uns_app (a b : List Nat) : uns (a ++ b) = uns a ++ uns b := by simp [uns]
theorem bys_one {l : List UInt8} : ∀ u ∈ bys l, u.oneCell' = true := by
  intro u hu
  simp only [bys, List.mem_map] at hu
  obtain ⟨b, _, rfl⟩ := hu
  rfl
theorem wds_one {l : List Int} : ∀ u ∈ wds l, u.oneCell' = true := by
  intro u hu
  simp only [wds, List.mem_map] at hu
  obtain ⟨b, _, rfl⟩ := hu
  rfl
theorem uns_one {l : List Nat} : ∀ u ∈ uns l, u.oneCell' = true := by
  intro u hu
  simp only [uns, List.mem_map] at hu
  obtain ⟨b, _, rfl⟩ := hu
  rfl
theorem bys_at (l : List UInt8) (k : Nat) (h : k < l.length) : (bys l)[k]? = some (.int .u8 (l[k].toNat : Int)) := by simp [bys, h]
theorem uns_at (l : List Nat) (k : Nat) (h : k < l.length) : (uns l)[k]? = some (.int .u64 (l[k] : Int)) := by simp [uns, h]
theorem wds_at (l : List Int) (k : Nat) (h : k < l.length) : (wds l)[k]? = some (.int .i64 l[k]) := by simp [wds, h]
theorem bys_drop (l : List UInt8) (k : Nat) : (bys l).drop k = bys (l.drop k) := by simp [bys, List.map_drop]

/-- The number of bytes, the lowest first. -/
def numF : List UInt8 → Nat
  | [] => 0
  | b :: r => b.toNat + 256 * numF r
def bytesF : Nat → Nat → List UInt8
  | 0, _ => []
  | w + 1, n => UInt8.ofNat n :: bytesF w (n / 256)

theorem numF_lt : ∀ l : List UInt8, numF l < 256 ^ l.length
  | [] => by simp [numF]
  | b :: r => by
    have h := numF_lt r
    have hb := b.toNat_lt
    simp only [numF, List.length_cons, Nat.pow_succ]
    omega
theorem numF_app : ∀ a b : List UInt8, numF (a ++ b) = numF a + 256 ^ a.length * numF b
  | [], b => by simp [numF]
  | x :: a, b => by
    simp only [List.cons_append, numF, numF_app a b, List.length_cons, Nat.pow_succ]
    rw [Nat.mul_add, ← Nat.mul_assoc, Nat.mul_comm 256 (256 ^ a.length)]
    omega
theorem numF_snoc (l : List UInt8) (k : Nat) (hk : k < l.length) : numF (l.take (k + 1)) = numF (l.take k) + 256 ^ k * l[k].toNat := by
  rw [List.take_succ_eq_append_getElem hk, numF_app, List.length_take_of_le (by omega)]
  simp [numF]
theorem numF_drop (l : List UInt8) (k : Nat) (hk : k < l.length) : numF (l.drop k) = l[k].toNat + 256 * numF (l.drop (k + 1)) := by
  rw [List.drop_eq_getElem_cons hk]
  rfl
theorem pow8 (k : Nat) : 2 ^ (8 * k) = 256 ^ k := by rw [Nat.pow_mul]
theorem pow_le8 {k : Nat} (h : k ≤ 8) : 256 ^ k ≤ 18446744073709551616 := by
  have := Nat.pow_le_pow_right (n := 256) (by omega) h
  simpa using this
theorem numF_lt8 {l : List UInt8} (h : l.length ≤ 8) : numF l < 18446744073709551616 := Nat.lt_of_lt_of_le (numF_lt l) (pow_le8 h)
theorem nat_join' {x y p : Nat} (hx : x % 256 ^ p = 0) (hy : y < 256 ^ p) : y ||| x = y + x := by
  rw [← pow8] at hx hy
  obtain ⟨c, rfl⟩ := Nat.dvd_of_mod_eq_zero hx
  rw [Nat.or_comm, Nat.add_comm, Nat.mul_comm, ← Nat.shiftLeft_eq, Nat.shiftLeft_add_eq_or_of_lt hy]
theorem num_or (l : List UInt8) (k : Nat) (hk : k < l.length) (h8 : l.length ≤ 8) : numF (l.take k) ||| ((l[k].toNat <<< (8 * k)) % 18446744073709551616) = numF (l.take (k + 1)) := by
  have h1 := numF_lt (l.take k)
  rw [List.length_take_of_le (by omega)] at h1
  have h2 := l[k].toNat_lt
  have h3 : l[k].toNat * 256 ^ k < 18446744073709551616 := by
    have h4 : l[k].toNat * 256 ^ k < 256 * 256 ^ k := Nat.mul_lt_mul_of_pos_right h2 (Nat.pow_pos (by omega))
    have h5 := pow_le8 (k := k + 1) (by omega)
    rw [Nat.pow_succ] at h5
    omega
  rw [numF_snoc l k hk, Nat.shiftLeft_eq, pow8, Nat.mod_eq_of_lt h3, nat_join' ?_ h1]
  · rw [Nat.mul_comm]
  · exact Nat.mul_mod_left _ _

theorem bytesF_len : ∀ w n, (bytesF w n).length = w
  | 0, _ => rfl
  | w + 1, n => by simp [bytesF, bytesF_len w]
theorem bytesF_snoc : ∀ w n, bytesF (w + 1) n = bytesF w n ++ [UInt8.ofNat (n / 256 ^ w)]
  | 0, n => by simp [bytesF]
  | w + 1, n => by
    rw [bytesF, bytesF_snoc w (n / 256), bytesF, List.cons_append, Nat.div_div_eq_div_mul, Nat.pow_succ, Nat.mul_comm 256]
theorem numF_bytesF : ∀ w n, numF (bytesF w n) = n % 256 ^ w
  | 0, n => by simp [bytesF, numF, Nat.mod_one]
  | w + 1, n => by
    rw [bytesF, numF, numF_bytesF w, Nat.pow_succ, Nat.mul_comm (256 ^ w) 256, Nat.mod_mul]
    simp
theorem bytesF_numF : ∀ l : List UInt8, bytesF l.length (numF l) = l
  | [] => rfl
  | b :: r => by
    have hb := b.toNat_lt
    rw [numF, List.length_cons, bytesF, show (b.toNat + 256 * numF r) / 256 = numF r by omega, bytesF_numF r]
    congr 1
    apply UInt8.toNat_inj.1
    rw [UInt8.toNat_ofNat']
    omega
theorem bytesF_inj {w n m : Nat} (hn : n < 256 ^ w) (hm : m < 256 ^ w) (h : bytesF w n = bytesF w m) : n = m := by
  have := congrArg numF h
  rwa [numF_bytesF, numF_bytesF, Nat.mod_eq_of_lt hn, Nat.mod_eq_of_lt hm] at this

/-- Can all be widths? -/
def wideB (ws : List Int) : Bool := ws.all fun x => decide (1 ≤ x) && decide (x ≤ 8)
def sumF : List Int → Int
  | [] => 0
  | x :: r => x + sumF r
theorem sumF_app : ∀ a b, sumF (a ++ b) = sumF a + sumF b
  | [], b => by simp [sumF]
  | x :: a, b => by simp only [List.cons_append, sumF, sumF_app a b]; omega
theorem wideB_cons (x : Int) (r : List Int) : wideB (x :: r) = (decide (1 ≤ x ∧ x ≤ 8) && wideB r) := by
  simp [wideB]
theorem wideB_mem {ws : List Int} (h : wideB ws = true) : ∀ x ∈ ws, 1 ≤ x ∧ x ≤ 8 := by
  simpa [wideB] using h
theorem wideB_mk {ws : List Int} (h : ∀ x ∈ ws, 1 ≤ x ∧ x ≤ 8) : wideB ws = true := by
  simpa [wideB] using h
theorem sum_bd : ∀ {ws : List Int}, (∀ x ∈ ws, 1 ≤ x ∧ x ≤ 8) → 0 ≤ sumF ws ∧ ws.length ≤ sumF ws ∧ sumF ws ≤ 8 * ws.length
  | [], _ => by simp [sumF]
  | x :: r, h => by
    have h1 := h x (by simp)
    have h2 := sum_bd (ws := r) fun y hy => h y (by simp [hy])
    simp only [sumF, List.length_cons]
    omega

/-- The numbers as bytes. -/
def putF : List Int → List Nat → Option (List UInt8)
  | [], [] => some []
  | w :: ws, n :: ns => if 1 ≤ w ∧ w ≤ 8 ∧ n < 256 ^ w.toNat then (putF ws ns).map fun r => bytesF w.toNat n ++ r else none
  | _, _ => none
/-- The numbers of bytes. -/
def getF : List Int → List UInt8 → Option (List Nat)
  | [], b => if b = [] then some [] else none
  | w :: ws, b => if 1 ≤ w ∧ w ≤ 8 ∧ w ≤ b.length then (getF ws (b.drop w.toNat)).map fun r => numF (b.take w.toNat) :: r else none

theorem put_some : ∀ {ws : List Int} {ns : List Nat} {b : List UInt8}, putF ws ns = some b → wideB ws = true ∧ ns.length = ws.length ∧ (b.length : Int) = sumF ws
  | [], [], b, h => by
    simp only [putF, Option.some.injEq] at h
    subst h
    exact ⟨rfl, rfl, rfl⟩
  | [], n :: ns, b, h => by simp [putF] at h
  | w :: ws, [], b, h => by simp [putF] at h
  | w :: ws, n :: ns, b, h => by
    simp only [putF] at h
    split at h
    · rename_i hc
      obtain ⟨r, hr, rfl⟩ := Option.map_eq_some_iff.1 h
      obtain ⟨h1, h2, h3⟩ := put_some hr
      refine ⟨by rw [wideB_cons, h1, Bool.and_true, decide_eq_true_eq]; exact ⟨hc.1, hc.2.1⟩, by simp [h2], ?_⟩
      simp only [List.length_append, bytesF_len, sumF]
      omega
    · cases h
theorem get_put : ∀ {ws : List Int} {ns : List Nat} {b : List UInt8}, putF ws ns = some b → getF ws b = some ns
  | [], [], b, h => by
    simp only [putF, Option.some.injEq] at h
    subst h
    rfl
  | [], n :: ns, b, h => by simp [putF] at h
  | w :: ws, [], b, h => by simp [putF] at h
  | w :: ws, n :: ns, b, h => by
    simp only [putF] at h
    split at h
    · rename_i hc
      obtain ⟨h1, h2, h3⟩ := hc
      obtain ⟨r, hr, rfl⟩ := Option.map_eq_some_iff.1 h
      have hl := bytesF_len w.toNat n
      simp only [getF]
      rw [if_pos ⟨h1, h2, by simp only [List.length_append, hl]; omega⟩, List.drop_left' hl, List.take_left' hl, get_put hr, numF_bytesF, Nat.mod_eq_of_lt h3]
      rfl
    · cases h
theorem put_get : ∀ {ws : List Int} {b : List UInt8} {ns : List Nat}, getF ws b = some ns → putF ws ns = some b
  | [], b, ns, h => by
    simp only [getF] at h
    split at h
    · rename_i hb
      simp only [Option.some.injEq] at h
      subst h hb
      rfl
    · cases h
  | w :: ws, b, ns, h => by
    simp only [getF] at h
    split at h
    · rename_i hc
      obtain ⟨h1, h2, h3⟩ := hc
      obtain ⟨r, hr, rfl⟩ := Option.map_eq_some_iff.1 h
      have hl : (b.take w.toNat).length = w.toNat := by rw [List.length_take]; omega
      have hn := numF_lt (b.take w.toNat)
      have hb := bytesF_numF (b.take w.toNat)
      rw [hl] at hn hb
      simp only [putF]
      rw [if_pos ⟨h1, h2, hn⟩, put_get hr, hb]
      simp
    · cases h
theorem put_inj {ws : List Int} {a b : List Nat} {x : List UInt8} (ha : putF ws a = some x) (hb : putF ws b = some x) : a = b := by
  have h1 := get_put ha
  rw [get_put hb] at h1
  exact (Option.some.inj h1).symm
theorem get_lt {ws : List Int} : ∀ {b : List UInt8} {ns : List Nat}, getF ws b = some ns → ∀ n ∈ ns, n < 18446744073709551616 := by
  induction ws with
  | nil =>
    intro b ns h
    simp only [getF] at h
    split at h
    · simp only [Option.some.injEq] at h
      subst h
      simp
    · cases h
  | cons w ws ih =>
    intro b ns h
    simp only [getF] at h
    split at h
    · rename_i hc
      obtain ⟨r, hr, rfl⟩ := Option.map_eq_some_iff.1 h
      intro n hn
      rcases List.mem_cons.1 hn with rfl | hn
      · exact numF_lt8 (by rw [List.length_take]; omega)
      · exact ih hr n hn
    · cases h

theorem put_step {ws : List Int} {ns : List Nat} {k : Nat} (h1 : k < ws.length) (h2 : k < ns.length) : putF (ws.drop k) (ns.drop k) = if 1 ≤ ws[k] ∧ ws[k] ≤ 8 ∧ ns[k] < 256 ^ ws[k].toNat then (putF (ws.drop (k + 1)) (ns.drop (k + 1))).map fun r => bytesF ws[k].toNat ns[k] ++ r else none := by
  rw [List.drop_eq_getElem_cons h1, List.drop_eq_getElem_cons h2]
  rfl
theorem get_step {ws : List Int} {b : List UInt8} {k : Nat} (h1 : k < ws.length) : getF (ws.drop k) b = if 1 ≤ ws[k] ∧ ws[k] ≤ 8 ∧ ws[k] ≤ b.length then (getF (ws.drop (k + 1)) (b.drop ws[k].toNat)).map fun r => numF (b.take ws[k].toNat) :: r else none := by
  rw [List.drop_eq_getElem_cons h1]
  rfl
theorem put_unlike : ∀ {ws : List Int} {ns : List Nat}, ws.length ≠ ns.length → putF ws ns = none := by
  intro ws ns h
  rcases hp : putF ws ns with _ | b
  · rfl
  · exact absurd (put_some hp).2.1.symm h
theorem put_narrow : ∀ {ws : List Int} {ns : List Nat}, wideB ws = false → putF ws ns = none := by
  intro ws ns h
  rcases hp : putF ws ns with _ | b
  · rfl
  · rw [(put_some hp).1] at h
    cases h
theorem get_some {ws : List Int} {ns : List Nat} {b : List UInt8} (h : getF ws b = some ns) : wideB ws = true ∧ ns.length = ws.length ∧ (b.length : Int) = sumF ws := put_some (put_get h)
theorem get_narrow {ws : List Int} {b : List UInt8} (h : wideB ws = false) : getF ws b = none := by
  rcases hp : getF ws b with _ | ns
  · rfl
  · rw [(get_some hp).1] at h
    cases h
theorem get_unlike {ws : List Int} {b : List UInt8} (h : (b.length : Int) ≠ sumF ws) : getF ws b = none := by
  rcases hp : getF ws b with _ | ns
  · rfl
  · exact absurd (get_some hp).2.2 h

/-- Texts side by side. -/
def leadF (n : Nat) : List UInt8 := bytesF 2 n
def bodyF (ts : List (List UInt8)) : List UInt8 := ts.flatMap fun t => leadF t.length ++ t
def shortB (ts : List (List UInt8)) : Bool := ts.all fun t => decide (t.length ≤ 65535)
def joinF (ts : List (List UInt8)) : Option (List UInt8) := if ts.length ≤ 65535 ∧ shortB ts = true then some (leadF ts.length ++ bodyF ts) else none
/-- The texts of bytes, so many. -/
def splitN : Nat → List UInt8 → Option (List (List UInt8))
  | 0, b => if b = [] then some [] else none
  | k + 1, b => if b.length < 2 then none else if (b.drop 2).length < numF (b.take 2) then none else
      (splitN k ((b.drop 2).drop (numF (b.take 2)))).map fun r => (b.drop 2).take (numF (b.take 2)) :: r
def splitF (b : List UInt8) : Option (List (List UInt8)) := if b.length < 2 then none else splitN (numF (b.take 2)) (b.drop 2)

theorem lead_len (n : Nat) : (leadF n).length = 2 := bytesF_len 2 n
theorem lead_num {n : Nat} (h : n ≤ 65535) : numF (leadF n) = n := by
  rw [leadF, numF_bytesF, Nat.mod_eq_of_lt (by omega)]
theorem num_lead {l : List UInt8} (h : l.length = 2) : leadF (numF l) = l := by
  have := bytesF_numF l
  rwa [h] at this
theorem num2_lt (b : List UInt8) : numF (b.take 2) ≤ 65535 := by
  have h := numF_lt (b.take 2)
  have h2 : (b.take 2).length ≤ 2 := List.length_take_le _ _
  have h3 := Nat.pow_le_pow_right (n := 256) (by omega) h2
  omega
theorem short_mem {ts : List (List UInt8)} (h : shortB ts = true) : ∀ t ∈ ts, t.length ≤ 65535 := by
  simpa [shortB] using h
theorem short_mk {ts : List (List UInt8)} (h : ∀ t ∈ ts, t.length ≤ 65535) : shortB ts = true := by
  simpa [shortB] using h
theorem body_app (a b : List (List UInt8)) : bodyF (a ++ b) = bodyF a ++ bodyF b := by simp [bodyF]
theorem body_cons (t : List UInt8) (r : List (List UInt8)) : bodyF (t :: r) = leadF t.length ++ (t ++ bodyF r) := by simp [bodyF]
theorem body_len : ∀ {ts : List (List UInt8)}, (∀ t ∈ ts, t.length ≤ 65535) → (bodyF ts).length ≤ 65537 * ts.length
  | [], _ => by simp [bodyF]
  | t :: r, h => by
    have h1 := h t (by simp)
    have h2 := body_len (ts := r) fun y hy => h y (by simp [hy])
    rw [body_cons]
    simp only [List.length_append, lead_len, List.length_cons]
    omega
theorem splitN_body : ∀ {ts : List (List UInt8)} (_ : ∀ t ∈ ts, t.length ≤ 65535) (x : List UInt8), splitN ts.length (bodyF ts ++ x) = if x = [] then some ts else none
  | [], _, x => by simp [bodyF, splitN]
  | t :: r, h, x => by
    have h1 := h t (by simp)
    have ht : (bodyF (t :: r) ++ x).take 2 = leadF t.length := by
      rw [body_cons, List.append_assoc, List.take_left' (lead_len _)]
    have hd : (bodyF (t :: r) ++ x).drop 2 = t ++ (bodyF r ++ x) := by
      rw [body_cons, List.append_assoc, List.drop_left' (lead_len _), List.append_assoc]
    simp only [List.length_cons, splitN]
    rw [ht, hd, lead_num h1, if_neg, if_neg, List.drop_left' rfl, List.take_left' rfl, splitN_body (fun y hy => h y (by simp [hy]))]
    · split <;> rfl
    · simp
    · rw [body_cons]; simp [lead_len]
theorem split_join {ts : List (List UInt8)} {b : List UInt8} (h : joinF ts = some b) : splitF b = some ts := by
  unfold joinF at h
  split at h
  · rename_i hc
    simp only [Option.some.injEq] at h
    subst h
    unfold splitF
    rw [if_neg (by simp [lead_len]), List.take_left' (lead_len _), List.drop_left' (lead_len _), lead_num hc.1]
    have := splitN_body (short_mem hc.2) []
    simpa using this
  · cases h
theorem split_more {ts : List (List UInt8)} {b x : List UInt8} (h : joinF ts = some b) (hx : x ≠ []) : splitF (b ++ x) = none := by
  unfold joinF at h
  split at h
  · rename_i hc
    simp only [Option.some.injEq] at h
    subst h
    unfold splitF
    rw [List.append_assoc, if_neg (by simp [lead_len]), List.take_left' (lead_len _), List.drop_left' (lead_len _), lead_num hc.1, splitN_body (short_mem hc.2) x, if_neg hx]
  · cases h
theorem splitN_some : ∀ {k : Nat} {b : List UInt8} {ts : List (List UInt8)}, splitN k b = some ts → ts.length = k ∧ (∀ t ∈ ts, t.length ≤ 65535) ∧ bodyF ts = b
  | 0, b, ts, h => by
    simp only [splitN] at h
    split at h
    · rename_i hb
      simp only [Option.some.injEq] at h
      subst h hb
      simp [bodyF]
    · cases h
  | k + 1, b, ts, h => by
    simp only [splitN] at h
    split at h
    · cases h
    · split at h
      · cases h
      · rename_i h1 h2
        obtain ⟨r, hr, rfl⟩ := Option.map_eq_some_iff.1 h
        obtain ⟨e1, e2, e3⟩ := splitN_some hr
        have hn := num2_lt b
        have hl : (List.take (numF (b.take 2)) (b.drop 2)).length = numF (b.take 2) := by rw [List.length_take]; omega
        refine ⟨by simp [e1], fun t ht => ?_, ?_⟩
        · rcases List.mem_cons.1 ht with rfl | ht
          · omega
          · exact e2 t ht
        · rw [body_cons, hl, e3, num_lead (by rw [List.length_take]; omega), List.take_append_drop, List.take_append_drop]
theorem join_split {b : List UInt8} {ts : List (List UInt8)} (h : splitF b = some ts) : joinF ts = some b := by
  unfold splitF at h
  split at h
  · cases h
  · obtain ⟨e1, e2, e3⟩ := splitN_some h
    have hn := num2_lt b
    unfold joinF
    rw [if_pos ⟨by omega, short_mk e2⟩, e1, e3, num_lead (by rw [List.length_take]; omega), List.take_append_drop]
theorem split_cut {ts : List (List UInt8)} {b : List UInt8} {k : Nat} (h : joinF ts = some b) (hk : k < b.length) : splitF (b.take k) = none := by
  rcases hs : splitF (b.take k) with _ | us
  · rfl
  · have hj := join_split hs
    have := split_more (x := b.drop k) hj (by
      intro h0
      have := congrArg List.length h0
      rw [List.length_drop] at this
      simp at this
      omega)
    rw [List.take_append_drop, split_join h] at this
    cases this
end Go.Proofs.Ytgbghmgipnphkaa
