/-
  The check sum as a function on numbers and lists of bytes, and what follows of it: linear, one to one, bursts; nothing of the program.
-/
import Derived.WalkKit
namespace Go.Proofs.Ytelfckhiafnniaa

/-- One turn of the register, the bit being 0. -/
def tn (r : Nat) : Nat := if r % 2 = 0 then r / 2 else (r / 2) ^^^ 2197175160
/-- One turn of the register with a bit. -/
def turn (r b : Nat) : Nat := if r % 2 = b then r / 2 else (r / 2) ^^^ 2197175160
/-- So many turns with bits of 0. -/
def itn : Nat → Nat → Nat
  | 0, x => x
  | k + 1, x => tn (itn k x)
/-- So many turns with the bits of z, the lowest first. -/
def eat (z : Nat) : Nat → Nat → Nat
  | 0, r => r
  | k + 1, r => turn (eat z k r) (z / 2 ^ k % 2)
/-- The register behind bytes. -/
def reg (r : Nat) (zs : List Int) : Nat := zs.foldl (fun r z => eat z.toNat 8 r) r
/-- The sum that goes on behind another one. -/
def more (s : Nat) (zs : List Int) : Nat := 4294967295 - reg (4294967295 - s) zs

theorem xor_even (a b : Nat) : (a ^^^ b) / 2 = a / 2 ^^^ b / 2 := Nat.xor_div_two
theorem xor_mod (a b : Nat) : (a ^^^ b) % 2 = (a + b) % 2 := by
  have e := Nat.xor_mod_two_pow (a := a) (b := b) (n := 1)
  rw [Nat.pow_one] at e
  rw [e]
  rcases Nat.mod_two_eq_zero_or_one a with ha | ha <;> rcases Nat.mod_two_eq_zero_or_one b with hb | hb <;> rw [ha, hb]
  · show 0 = _; omega
  · show 1 = _; omega
  · show 1 = _; omega
  · show 0 = _; omega

theorem xor_zero_eq {a b : Nat} (h : a ^^^ b = 0) : a = b := by
  have := congrArg (· ^^^ b) h
  simpa [Nat.xor_assoc] using this

theorem tn_lt {r : Nat} (h : r < 4294967296) : tn r < 4294967296 := by
  unfold tn
  split
  · omega
  · exact Nat.xor_lt_two_pow (n := 32) (by omega) (by decide)

theorem turn_eq (r b : Nat) (hb : b < 2) : turn r b = tn (r ^^^ b) := by
  unfold turn tn
  rw [xor_even, xor_mod]
  have h0 : b / 2 = 0 := by omega
  rw [h0, Nat.xor_zero]
  by_cases h : r % 2 = b
  · rw [if_pos h, if_pos (by omega)]
  · rw [if_neg h, if_neg (by omega)]

theorem tn_xor (a b : Nat) : tn (a ^^^ b) = tn a ^^^ tn b := by
  unfold tn
  rw [xor_even, xor_mod]
  by_cases ha : a % 2 = 0
  · by_cases hb : b % 2 = 0
    · rw [if_pos ha, if_pos hb, if_pos (by omega)]
    · rw [if_pos ha, if_neg hb, if_neg (by omega), Nat.xor_assoc]
  · by_cases hb : b % 2 = 0
    · rw [if_neg ha, if_pos hb, if_neg (by omega), Nat.xor_assoc, Nat.xor_assoc, Nat.xor_comm (b / 2)]
    · rw [if_neg ha, if_neg hb, if_pos (by omega), Nat.xor_assoc (a / 2), ← Nat.xor_assoc _ (b / 2), Nat.xor_comm 2197175160 (b / 2), Nat.xor_assoc (b / 2), Nat.xor_self, Nat.xor_zero]

theorem itn_lt (k : Nat) {r : Nat} (h : r < 4294967296) : itn k r < 4294967296 := by
  induction k with
  | zero => exact h
  | succ k ih => exact tn_lt ih

theorem itn_xor (k a b : Nat) : itn k (a ^^^ b) = itn k a ^^^ itn k b := by
  induction k with
  | zero => rfl
  | succ k ih => simp only [itn, ih, tn_xor]

theorem itn_add (j k x : Nat) : itn (j + k) x = itn j (itn k x) := by
  induction j with
  | zero => simp [itn]
  | succ j ih => rw [Nat.succ_add]; simp only [itn, ih]

theorem itn_pow (k v : Nat) : itn k (2 ^ k * v) = v := by
  induction k generalizing v with
  | zero => simp [itn]
  | succ k ih =>
    have e : 2 ^ (k + 1) * v = 2 ^ k * (2 * v) := by rw [Nat.pow_succ, Nat.mul_assoc]
    simp only [itn, e, ih, tn]
    rw [if_pos (by omega)]
    omega

theorem xor_add (k x y : Nat) (h : x < 2 ^ k) : x ^^^ (2 ^ k * y) = 2 ^ k * y + x := by
  apply Nat.eq_of_testBit_eq
  intro j
  rw [Nat.testBit_xor, Nat.testBit_two_pow_mul_add _ h, Nat.testBit_two_pow_mul]
  by_cases hj : j < k
  · simp [hj, Nat.not_le.2 hj]
  · have : x.testBit j = false := Nat.testBit_lt_two_pow (Nat.lt_of_lt_of_le h (Nat.pow_le_pow_right (by omega) (by omega)))
    simp [hj, this, Nat.le_of_not_lt hj]

theorem eat_eq (z k r : Nat) : eat z k r = itn k (r ^^^ (z % 2 ^ k)) := by
  induction k with
  | zero => simp [eat, itn, Nat.mod_one]
  | succ k ih =>
    have hb : z / 2 ^ k % 2 < 2 := Nat.mod_lt _ (by omega)
    simp only [eat, itn]
    rw [turn_eq _ _ hb, ih]
    congr 1
    conv => lhs; rhs; rw [← itn_pow k (z / 2 ^ k % 2)]
    rw [← itn_xor, Nat.xor_assoc, xor_add k _ _ (Nat.mod_lt _ (Nat.two_pow_pos k)), Nat.pow_succ, Nat.mod_mul, Nat.add_comm]

theorem eat8 (z r : Nat) (h : z < 256) : eat z 8 r = itn 8 (r ^^^ z) := by
  rw [eat_eq, Nat.mod_eq_of_lt (by omega)]

theorem eat_lt (z k : Nat) {r : Nat} (h : r < 4294967296) : eat z k r < 4294967296 := by
  induction k with
  | zero => exact h
  | succ k ih =>
    simp only [eat]
    unfold turn
    split
    · omega
    · exact Nat.xor_lt_two_pow (n := 32) (by omega) (by decide)

theorem reg_lt (zs : List Int) {r : Nat} (h : r < 4294967296) : reg r zs < 4294967296 := by
  induction zs generalizing r with
  | nil => exact h
  | cons z zs ih => exact ih (eat_lt _ _ h)

theorem reg_append (r : Nat) (xs ys : List Int) : reg r (xs ++ ys) = reg (reg r xs) ys := by simp [reg]
theorem reg_snoc (r : Nat) (xs : List Int) (z : Int) : reg r (xs ++ [z]) = eat z.toNat 8 (reg r xs) := by simp [reg]
theorem reg_cons (r : Nat) (z : Int) (xs : List Int) : reg r (z :: xs) = reg (eat z.toNat 8 r) xs := by simp [reg]
theorem reg_take_succ (r : Nat) (zs : List Int) (k : Nat) (h : k < zs.length) : reg r (zs.take (k + 1)) = eat (zs.getD k 0).toNat 8 (reg r (zs.take k)) := by
  rw [List.take_succ_eq_append_getElem h, reg_snoc]
  simp [List.getD, List.getElem?_eq_getElem h]

theorem more_lt (s : Nat) (zs : List Int) : more s zs < 4294967296 := by unfold more; omega

theorem more_join (xs ys : List Int) : more (more 0 xs) ys = more 0 (xs ++ ys) := by
  have := reg_lt xs (r := 4294967295) (by omega)
  unfold more
  rw [reg_append]
  have e : 4294967295 - (4294967295 - reg (4294967295 - 0) xs) = reg (4294967295 - 0) xs := by simp only [Nat.sub_zero]; omega
  rw [e]

/-- All bits of a register turned. -/
theorem turned (x : Nat) (h : x < 4294967296) : x ^^^ 4294967295 = 4294967295 - x := by
  have e : (4294967295 : Nat) = 2 ^ 32 - 1 := by decide
  apply Nat.eq_of_testBit_eq
  intro j
  rw [Nat.testBit_xor, e, Nat.testBit_two_pow_sub_one, Nat.sub_sub, Nat.add_comm 1 x, Nat.testBit_two_pow_sub_succ (by omega)]
  by_cases hj : j < 32
  · simp [hj]
  · have : x.testBit j = false := Nat.testBit_lt_two_pow (Nat.lt_of_lt_of_le h (Nat.pow_le_pow_right (n := 2) (by omega) (i := 32) (by omega)))
    simp [hj, this]

/-- Three lists held against each other bit by bit. -/
def xor3 : List Int → List Int → List Int → List Int
  | a :: as, b :: bs, c :: cs => ((a.toNat ^^^ b.toNat ^^^ c.toNat : Nat) : Int) :: xor3 as bs cs
  | _, _, _ => []

theorem xor_lt256 {x y : Nat} (hx : x < 256) (hy : y < 256) : x ^^^ y < 256 := Nat.xor_lt_two_pow (n := 8) hx hy

theorem byteN {z : Int} (h : 0 ≤ z ∧ z ≤ 255) : z.toNat < 256 := by omega

theorem xor_six (p q r a b c : Nat) : (p ^^^ q ^^^ r) ^^^ (a ^^^ b ^^^ c) = (p ^^^ a) ^^^ (q ^^^ b) ^^^ (r ^^^ c) := by
  apply Nat.eq_of_testBit_eq
  intro j
  simp only [Nat.testBit_xor]
  cases p.testBit j <;> cases q.testBit j <;> cases r.testBit j <;> cases a.testBit j <;> cases b.testBit j <;> cases c.testBit j <;> rfl

theorem reg_lin (as bs cs : List Int) (ha : ∀ z ∈ as, 0 ≤ z ∧ z ≤ 255) (hb : ∀ z ∈ bs, 0 ≤ z ∧ z ≤ 255) (hc : ∀ z ∈ cs, 0 ≤ z ∧ z ≤ 255) (h1 : as.length = bs.length) (h2 : bs.length = cs.length) (p q r : Nat) :
    reg (p ^^^ q ^^^ r) (xor3 as bs cs) = reg p as ^^^ reg q bs ^^^ reg r cs := by
  induction as generalizing bs cs p q r with
  | nil =>
    have e1 : bs = [] := List.eq_nil_of_length_eq_zero (by simpa using h1.symm)
    subst e1
    have e2 : cs = [] := List.eq_nil_of_length_eq_zero (by simpa using h2.symm)
    subst e2
    rfl
  | cons a as ih =>
    cases bs with
    | nil => simp at h1
    | cons b bs =>
      cases cs with
      | nil => simp at h2
      | cons c cs =>
        have ha0 := byteN (ha a (by simp))
        have hb0 := byteN (hb b (by simp))
        have hc0 := byteN (hc c (by simp))
        simp only [xor3, reg_cons, Int.toNat_natCast]
        rw [eat8 _ _ (xor_lt256 (xor_lt256 ha0 hb0) hc0), eat8 _ _ ha0, eat8 _ _ hb0, eat8 _ _ hc0, xor_six, itn_xor, itn_xor]
        exact ih bs cs (fun z hz => ha z (by simp [hz])) (fun z hz => hb z (by simp [hz])) (fun z hz => hc z (by simp [hz])) (by simpa using h1) (by simpa using h2) _ _ _

theorem more_lin (as bs cs : List Int) (ha : ∀ z ∈ as, 0 ≤ z ∧ z ≤ 255) (hb : ∀ z ∈ bs, 0 ≤ z ∧ z ≤ 255) (hc : ∀ z ∈ cs, 0 ≤ z ∧ z ≤ 255) (h1 : as.length = bs.length) (h2 : bs.length = cs.length) :
    more 0 (xor3 as bs cs) = more 0 as ^^^ more 0 bs ^^^ more 0 cs := by
  have l := reg_lin as bs cs ha hb hc h1 h2 4294967295 4294967295 4294967295
  have e : (4294967295 : Nat) ^^^ 4294967295 ^^^ 4294967295 = 4294967295 := by decide
  rw [e] at l
  have k : ∀ zs : List Int, more 0 zs = reg 4294967295 zs ^^^ 4294967295 := fun zs => (turned _ (reg_lt zs (by omega))).symm
  rw [k, k, k, k, l]
  generalize reg 4294967295 as = x
  generalize reg 4294967295 bs = y
  generalize reg 4294967295 cs = z
  conv => lhs; rhs; rw [← e]
  exact xor_six _ _ _ _ _ _

theorem xor3_length (as bs cs : List Int) (h1 : as.length = bs.length) (h2 : bs.length = cs.length) : (xor3 as bs cs).length = as.length := by
  induction as generalizing bs cs with
  | nil => simp [xor3]
  | cons a as ih =>
    cases bs with
    | nil => simp at h1
    | cons b bs =>
      cases cs with
      | nil => simp at h2
      | cons c cs => simp [xor3, ih bs cs (by simpa using h1) (by simpa using h2)]

theorem xor3_byte (as bs cs : List Int) (ha : ∀ z ∈ as, 0 ≤ z ∧ z ≤ 255) (hb : ∀ z ∈ bs, 0 ≤ z ∧ z ≤ 255) (hc : ∀ z ∈ cs, 0 ≤ z ∧ z ≤ 255) : ∀ z ∈ xor3 as bs cs, 0 ≤ z ∧ z ≤ 255 := by
  induction as generalizing bs cs with
  | nil => simp [xor3]
  | cons a as ih =>
    cases bs with
    | nil => simp [xor3]
    | cons b bs =>
      cases cs with
      | nil => simp [xor3]
      | cons c cs =>
        intro z hz
        simp only [xor3, List.mem_cons] at hz
        rcases hz with rfl | hz
        · have := xor_lt256 (xor_lt256 (byteN (ha a (by simp))) (byteN (hb b (by simp)))) (byteN (hc c (by simp)))
          omega
        · exact ih bs cs (fun z hz => ha z (by simp [hz])) (fun z hz => hb z (by simp [hz])) (fun z hz => hc z (by simp [hz])) z hz

theorem xor3_take_succ (as bs cs : List Int) (k : Nat) (h0 : k < as.length) (h1 : as.length = bs.length) (h2 : bs.length = cs.length) :
    xor3 (as.take (k + 1)) (bs.take (k + 1)) (cs.take (k + 1)) = xor3 (as.take k) (bs.take k) (cs.take k) ++ [(((as.getD k 0).toNat ^^^ (bs.getD k 0).toNat ^^^ (cs.getD k 0).toNat : Nat) : Int)] := by
  induction k generalizing as bs cs with
  | zero =>
    match as, bs, cs, h0, h1, h2 with
    | a :: as, b :: bs, c :: cs, _, _, _ => simp [xor3]
  | succ k ih =>
    match as, bs, cs, h0, h1, h2 with
    | a :: as, b :: bs, c :: cs, h0, h1, h2 =>
      have e := ih as bs cs (by simpa using h0) (by simpa using h1) (by simpa using h2)
      simp only [List.take_succ_cons] at e ⊢
      simp only [xor3, List.cons_append, List.getD_cons_succ]
      rw [e]

/-- The turns are one to one. -/
theorem tn_zero {x : Nat} (h : x < 4294967296) (h0 : tn x = 0) : x = 0 := by
  unfold tn at h0
  split at h0
  · omega
  · have := xor_zero_eq h0
    omega

theorem itn_zero (k : Nat) {x : Nat} (h : x < 4294967296) (h0 : itn k x = 0) : x = 0 := by
  induction k with
  | zero => exact h0
  | succ k ih => exact ih (tn_zero (itn_lt k h) h0)

theorem itn_inj (k : Nat) {x y : Nat} (hx : x < 4294967296) (hy : y < 4294967296) (h : itn k x = itn k y) : x = y := by
  refine xor_zero_eq (itn_zero k (Nat.xor_lt_two_pow (n := 32) hx hy) ?_)
  rw [itn_xor, h, Nat.xor_self]

theorem xor_left_inj {a b c : Nat} (h : a ^^^ b = a ^^^ c) : b = c := by
  have := congrArg (a ^^^ ·) h
  simpa [← Nat.xor_assoc] using this

theorem xor_right_inj {a b c : Nat} (h : b ^^^ a = c ^^^ a) : b = c := by
  rw [Nat.xor_comm b, Nat.xor_comm c] at h
  exact xor_left_inj h

theorem reg_inj (zs : List Int) (hb : ∀ z ∈ zs, 0 ≤ z ∧ z ≤ 255) {p q : Nat} (hp : p < 4294967296) (hq : q < 4294967296) (h : reg p zs = reg q zs) : p = q := by
  induction zs generalizing p q with
  | nil => exact h
  | cons z zs ih =>
    have hz := byteN (hb z (by simp))
    rw [reg_cons, reg_cons] at h
    have e := ih (fun z hz => hb z (by simp [hz])) (eat_lt _ _ hp) (eat_lt _ _ hq) h
    rw [eat8 _ _ hz, eat8 _ _ hz] at e
    exact xor_right_inj (itn_inj 8 (Nat.xor_lt_two_pow (n := 32) hp (by omega)) (Nat.xor_lt_two_pow (n := 32) hq (by omega)) e)

/-- Bytes as a number, the lowest first. -/
def le : List Int → Nat
  | [] => 0
  | z :: zs => 2 ^ 8 * le zs + z.toNat

theorem le_lt (zs : List Int) (hb : ∀ z ∈ zs, 0 ≤ z ∧ z ≤ 255) : le zs < 2 ^ (8 * zs.length) := by
  induction zs with
  | nil => simp [le]
  | cons z zs ih =>
    have h1 := ih (fun z hz => hb z (by simp [hz]))
    have h2 := byteN (hb z (by simp))
    have e : 2 ^ (8 * (z :: zs).length) = 2 ^ 8 * 2 ^ (8 * zs.length) := by rw [List.length_cons, Nat.mul_add, Nat.add_comm, Nat.pow_add]
    rw [e]
    simp only [le]
    omega

theorem le_inj (xs ys : List Int) (hx : ∀ z ∈ xs, 0 ≤ z ∧ z ≤ 255) (hy : ∀ z ∈ ys, 0 ≤ z ∧ z ≤ 255) (hl : xs.length = ys.length) (h : le xs = le ys) : xs = ys := by
  induction xs generalizing ys with
  | nil => exact (List.eq_nil_of_length_eq_zero (by simpa using hl.symm)).symm
  | cons x xs ih =>
    cases ys with
    | nil => simp at hl
    | cons y ys =>
      have h1 := hx x (by simp)
      have h2 := hy y (by simp)
      simp only [le] at h
      have e1 : x = y := by omega
      have e2 : le xs = le ys := by omega
      rw [e1, ih ys (fun z hz => hx z (by simp [hz])) (fun z hz => hy z (by simp [hz])) (by simpa using hl) e2]

theorem reg_le (zs : List Int) (hb : ∀ z ∈ zs, 0 ≤ z ∧ z ≤ 255) (hl : zs.length ≤ 4) (r : Nat) : reg r zs = itn (8 * zs.length) (r ^^^ le zs) := by
  induction zs generalizing r with
  | nil => simp [reg, le, itn]
  | cons z zs ih =>
    have hz := byteN (hb z (by simp))
    have e : 8 * (z :: zs).length = 8 * zs.length + 8 := by rw [List.length_cons]; omega
    rw [reg_cons, eat8 _ _ hz, ih (fun z hz => hb z (by simp [hz])) (by simp at hl; omega), e, itn_add]
    congr 1
    simp only [le]
    rw [← xor_add 8 z.toNat (le zs) hz, ← Nat.xor_assoc, itn_xor 8 (r ^^^ z.toNat), itn_pow]

/-- A change within four bytes next to each other is always seen. -/
theorem burst (A M N D : List Int) (hm : ∀ z ∈ M, 0 ≤ z ∧ z ≤ 255) (hn : ∀ z ∈ N, 0 ≤ z ∧ z ≤ 255) (hd : ∀ z ∈ D, 0 ≤ z ∧ z ≤ 255) (hl : M.length = N.length) (h4 : M.length ≤ 4)
    (h : more 0 (A ++ M ++ D) = more 0 (A ++ N ++ D)) : M = N := by
  have h32 : ∀ {L : List Int}, L.length ≤ 4 → (∀ z ∈ L, 0 ≤ z ∧ z ≤ 255) → le L < 4294967296 := by
    intro L hL hb
    refine Nat.lt_of_lt_of_le (le_lt L hb) ?_
    exact Nat.pow_le_pow_right (n := 2) (by omega) (j := 32) (by omega)
  have hr : reg 4294967295 (A ++ M ++ D) = reg 4294967295 (A ++ N ++ D) := by
    have h1 := reg_lt (A ++ M ++ D) (r := 4294967295) (by omega)
    have h2 := reg_lt (A ++ N ++ D) (r := 4294967295) (by omega)
    unfold more at h
    simp only [Nat.sub_zero] at h
    omega
  simp only [reg_append] at hr
  have hA := reg_lt A (r := 4294967295) (by omega)
  have e := reg_inj D hd (reg_lt M hA) (reg_lt N hA) hr
  rw [reg_le M hm h4, reg_le N hn (by omega), hl] at e
  have k := itn_inj _ (Nat.xor_lt_two_pow (n := 32) hA (h32 h4 hm)) (Nat.xor_lt_two_pow (n := 32) hA (h32 (by omega) hn)) e
  exact le_inj M N hm hn hl (xor_left_inj k)

theorem ex_none : more 0 [] = 0 := by decide
theorem ex_digits : more 0 [49, 50, 51, 52, 53, 54, 55, 56, 57] = 3808858755 := by decide +kernel
theorem ex_join : more (more 0 [49, 50, 51, 52]) [53, 54, 55, 56, 57] = 3808858755 := by decide +kernel
theorem ex_zero : more 0 ((List.range 32).map fun _ => (0 : Int)) = 2324772522 := by decide +kernel
theorem ex_full : more 0 ((List.range 32).map fun _ => (255 : Int)) = 1655221059 := by decide +kernel
theorem ex_row : more 0 ((List.range 32).map fun (i : Nat) => (i : Int)) = 1188919630 := by decide +kernel

end Go.Proofs.Ytelfckhiafnniaa
