/-
  Plain facts on check sums (CRC-32C by its definition: one bit, eight bits, many bytes): they are linear under 'either', keep to 32 bits, and one step can be undone. Of no program. Own work.
-/
import Derived.Laws.BitsAllLaws
namespace Go.Proofs.Ytgchgbbldhpgeab
open Go

def poly : Nat := 0x82F63B78
/-- One step. -/
def bitN (c : Nat) : Nat := if c % 2 = 1 then (c / 2) ^^^ poly else c / 2
def iterN (f : Nat → Nat) : Nat → Nat → Nat
  | 0, c => c
  | k + 1, c => iterN f k (f c)
theorem iter_succ' (f : Nat → Nat) : ∀ k c, iterN f (k + 1) c = f (iterN f k c)
  | 0, _ => rfl
  | k + 1, c => by rw [iterN, iter_succ' f k (f c)]; rfl
theorem iter_add (f : Nat → Nat) : ∀ a b c, iterN f (a + b) c = iterN f b (iterN f a c)
  | 0, b, c => by simp [iterN]
  | a + 1, b, c => by rw [Nat.add_right_comm]; simp only [iterN]; exact iter_add f a b (f c)
/-- Eight steps; as many times eight. -/
def eightN (c : Nat) : Nat := iterN bitN 8 c
def stepsN (c n : Nat) : Nat := iterN eightN n c
def innerN (c : Nat) (bs : List Nat) : Nat := bs.foldl (fun c b => eightN (c ^^^ b)) c
def notN (c : Nat) : Nat := c ^^^ 4294967295
def moreN (s : Nat) (bs : List Nat) : Nat := notN (innerN (notN s) bs)
theorem xor_div2 (a b : Nat) : (a ^^^ b) / 2 = (a / 2) ^^^ (b / 2) := by
  have := Nat.xor_div_two_pow (a := a) (b := b) (n := 1)
  simpa using this
theorem xor_mod2 (a b : Nat) : (a ^^^ b) % 2 = (a % 2) ^^^ (b % 2) := by
  have := Nat.xor_mod_two_pow (a := a) (b := b) (n := 1)
  simpa using this
theorem bit_lin (a b : Nat) : bitN (a ^^^ b) = bitN a ^^^ bitN b := by
  unfold bitN
  rw [xor_div2, xor_mod2]
  have ha : a % 2 = 0 ∨ a % 2 = 1 := by omega
  have hb : b % 2 = 0 ∨ b % 2 = 1 := by omega
  rcases ha with ha | ha <;> rcases hb with hb | hb <;> rw [ha, hb]
  · simp
  · simp [Nat.xor_assoc]
  · simp only [Nat.xor_zero, if_true]
    rw [if_neg (by decide), Nat.xor_assoc, Nat.xor_comm (b / 2), ← Nat.xor_assoc]
  · simp only [Nat.xor_self, if_true]
    rw [if_neg (by decide), Nat.xor_assoc, Nat.xor_comm poly, Nat.xor_assoc, Nat.xor_self, Nat.xor_zero]
theorem iter_lin (f : Nat → Nat) (h : ∀ a b, f (a ^^^ b) = f a ^^^ f b) : ∀ k a b, iterN f k (a ^^^ b) = iterN f k a ^^^ iterN f k b
  | 0, _, _ => rfl
  | k + 1, a, b => by simp only [iterN]; rw [h, iter_lin f h k]
theorem eight_lin (a b : Nat) : eightN (a ^^^ b) = eightN a ^^^ eightN b := iter_lin _ bit_lin 8 a b
theorem steps_lin (n a b : Nat) : stepsN (a ^^^ b) n = stepsN a n ^^^ stepsN b n := iter_lin _ eight_lin n a b
theorem xor_lt32 {a b : Nat} (ha : a < 4294967296) (hb : b < 4294967296) : a ^^^ b < 4294967296 := Nat.xor_lt_two_pow (n := 32) ha hb
theorem bit_lt {c : Nat} (h : c < 4294967296) : bitN c < 4294967296 := by
  unfold bitN; split
  · exact xor_lt32 (by omega) (by decide)
  · omega
theorem iter_lt (f : Nat → Nat) (h : ∀ c, c < 4294967296 → f c < 4294967296) : ∀ k c, c < 4294967296 → iterN f k c < 4294967296
  | 0, _, hc => hc
  | k + 1, c, hc => iter_lt f h k (f c) (h c hc)
theorem eight_lt {c : Nat} (h : c < 4294967296) : eightN c < 4294967296 := iter_lt _ (fun _ => bit_lt) 8 c h
theorem steps_lt (n : Nat) {c : Nat} (h : c < 4294967296) : stepsN c n < 4294967296 := iter_lt _ (fun _ => eight_lt) n c h
theorem not_lt {c : Nat} (h : c < 4294967296) : notN c < 4294967296 := xor_lt32 h (by decide)
theorem not_not (c : Nat) : notN (notN c) = c := by unfold notN; rw [Nat.xor_assoc, Nat.xor_self, Nat.xor_zero]
theorem inner_lt : ∀ (bs : List Nat) {c : Nat}, c < 4294967296 → (∀ b ∈ bs, b < 256) → innerN c bs < 4294967296
  | [], _, hc, _ => hc
  | b :: bs, c, hc, hb => by
    simp only [innerN, List.foldl_cons]
    exact inner_lt bs (eight_lt (xor_lt32 hc (Nat.lt_trans (hb b (by simp)) (by decide)))) (fun x hx => hb x (by simp [hx]))
theorem more_lt {s : Nat} {bs : List Nat} (hs : s < 4294967296) (hb : ∀ b ∈ bs, b < 256) : moreN s bs < 4294967296 := not_lt (inner_lt bs (not_lt hs) hb)
theorem inner_append (c : Nat) (as bs : List Nat) : innerN c (as ++ bs) = innerN (innerN c as) bs := by simp [innerN, List.foldl_append]
/-- Sums hang on no cuts. -/
theorem more_append (s : Nat) (as bs : List Nat) : moreN s (as ++ bs) = moreN (moreN s as) bs := by
  unfold moreN; rw [inner_append, not_not]
theorem bit_zero : bitN 0 = 0 := rfl
theorem iter_zero (f : Nat → Nat) (h : f 0 = 0) : ∀ k, iterN f k 0 = 0
  | 0 => rfl
  | k + 1 => by simp only [iterN]; rw [h, iter_zero f h k]
theorem eight_zero : eightN 0 = 0 := iter_zero _ bit_zero 8
theorem steps_zero (n : Nat) : stepsN 0 n = 0 := iter_zero _ eight_zero n
theorem steps_succ (c n : Nat) : stepsN c (n + 1) = stepsN (eightN c) n := rfl
theorem steps_add (c a b : Nat) : stepsN c (a + b) = stepsN (stepsN c a) b := iter_add _ a b c
/-- What was there goes by all bytes; what comes is beside it. -/
theorem inner_lin : ∀ (bs : List Nat) (c d : Nat), innerN (c ^^^ d) bs = stepsN c bs.length ^^^ innerN d bs
  | [], c, d => rfl
  | b :: bs, c, d => by
    simp only [innerN, List.foldl_cons, List.length_cons]
    rw [steps_succ, Nat.xor_assoc, eight_lin]
    exact inner_lin bs (eightN c) (eightN (d ^^^ b))
theorem xor_left_cancel' (a b : Nat) : a ^^^ (a ^^^ b) = b := by rw [← Nat.xor_assoc, Nat.xor_self, Nat.zero_xor]
/-- The sum of two texts follows from theirs. -/
theorem more_join (s : Nat) (as bs : List Nat) : moreN s (as ++ bs) = stepsN (moreN s as) bs.length ^^^ moreN 0 bs := by
  unfold moreN
  rw [inner_append]
  generalize innerN (notN s) as = c
  have e1 : innerN c bs = stepsN c bs.length ^^^ innerN 0 bs := by
    have := inner_lin bs c 0
    rwa [Nat.xor_zero] at this
  have e2 : innerN (notN 0) bs = stepsN 4294967295 bs.length ^^^ innerN 0 bs := by
    have := inner_lin bs 4294967295 0
    rw [Nat.xor_zero] at this
    unfold notN
    rw [Nat.zero_xor]
    exact this
  rw [e1, e2]
  unfold notN
  rw [steps_lin]
  generalize stepsN c bs.length = x
  generalize stepsN 4294967295 bs.length = y
  generalize innerN 0 bs = z
  generalize (4294967295 : Nat) = o
  rw [Nat.xor_assoc x y, Nat.xor_assoc y z o, xor_left_cancel', Nat.xor_assoc]
theorem inner_zeros (n : Nat) : ∀ c, innerN c (List.replicate n 0) = stepsN c n := by
  induction n with
  | zero => intro c; rfl
  | succ n ih =>
    intro c
    rw [List.replicate_succ]
    simp only [innerN, List.foldl_cons, Nat.xor_zero]
    exact ih (eightN c)
/-- Zeros behind. -/
theorem more_zeros (s n : Nat) : moreN s (List.replicate n 0) = notN (stepsN (notN s) n) := by
  unfold moreN; rw [inner_zeros]
/-- Eight steps of a number whose lowest byte is 0: it goes a byte to the right. -/
theorem bit_even (y : Nat) : bitN (2 * y) = y := by
  unfold bitN
  rw [if_neg (by omega)]
  omega
theorem eight_high (y : Nat) : eightN (256 * y) = y := by
  have e : 256 * y = 2 * (2 * (2 * (2 * (2 * (2 * (2 * (2 * y))))))) := by omega
  unfold eightN
  rw [e]
  simp only [iterN, bit_even]
theorem four_high (y : Nat) : iterN bitN 4 (16 * y) = y := by
  have e : 16 * y = 2 * (2 * (2 * (2 * y))) := by omega
  rw [e]
  simp only [iterN, bit_even]
theorem split_low (k c : Nat) : c = (2 ^ k * (c / 2 ^ k)) ^^^ (c % 2 ^ k) := by
  have h := Nat.two_pow_add_eq_or_of_lt (Nat.mod_lt c (Nat.two_pow_pos k)) (c / 2 ^ k)
  have hd := Nat.div_add_mod c (2 ^ k)
  rw [hd] at h
  have hx : 2 ^ k * (c / 2 ^ k) ||| c % 2 ^ k = 2 ^ k * (c / 2 ^ k) ^^^ c % 2 ^ k := by
    apply Nat.eq_of_testBit_eq
    intro i
    rw [Nat.testBit_or, Nat.testBit_xor, Nat.mul_comm, Nat.testBit_mul_two_pow, Nat.testBit_mod_two_pow]
    by_cases hi : k ≤ i
    · simp [show ¬ i < k by omega]
    · simp [hi]
  rw [← hx]
  exact h
/-- By a table of bytes. -/
theorem eight_table (c : Nat) : eightN c = (c / 256) ^^^ eightN (c % 256) := by
  have h := split_low 8 c
  have e : eightN c = eightN ((2 ^ 8 * (c / 2 ^ 8)) ^^^ (c % 2 ^ 8)) := by rw [← h]
  rw [e, eight_lin, show (2 : Nat) ^ 8 = 256 from rfl, eight_high]
theorem four_lin (a b : Nat) : iterN bitN 4 (a ^^^ b) = iterN bitN 4 a ^^^ iterN bitN 4 b := iter_lin _ bit_lin 4 a b
theorem eight_fours (c : Nat) : eightN c = iterN bitN 4 (iterN bitN 4 c) := rfl
/-- By a table of half bytes. -/
theorem four_table (c : Nat) : iterN bitN 4 c = (c / 16) ^^^ iterN bitN 4 (c % 16) := by
  have h := split_low 4 c
  have e : iterN bitN 4 c = iterN bitN 4 ((2 ^ 4 * (c / 2 ^ 4)) ^^^ (c % 2 ^ 4)) := by rw [← h]
  rw [e, four_lin, show (2 : Nat) ^ 4 = 16 from rfl, four_high]

/-- One step can be undone: so unlike numbers stay unlike. -/
theorem bit_inj0 {c : Nat} (h : c < 4294967296) (h0 : bitN c = 0) : c = 0 := by
  unfold bitN at h0
  split at h0
  · have : c / 2 = poly := by
      have := congrArg (· ^^^ poly) h0
      simpa [Nat.xor_assoc] using this
    unfold poly at this
    omega
  · omega
theorem iter_inj0 (f : Nat → Nat) (hl : ∀ c, c < 4294967296 → f c < 4294967296) (hi : ∀ c, c < 4294967296 → f c = 0 → c = 0) : ∀ k c, c < 4294967296 → iterN f k c = 0 → c = 0
  | 0, _, _, h => h
  | k + 1, c, hc, h => hi c hc (iter_inj0 f hl hi k (f c) (hl c hc) h)
theorem eight_inj0 {c : Nat} (h : c < 4294967296) (h0 : eightN c = 0) : c = 0 := iter_inj0 _ (fun _ => bit_lt) (fun _ => bit_inj0) 8 c h h0
theorem steps_inj0 (n : Nat) {c : Nat} (h : c < 4294967296) (h0 : stepsN c n = 0) : c = 0 := iter_inj0 _ (fun _ => eight_lt) (fun _ => eight_inj0) n c h h0
/-- A byte that is turned. -/
theorem inner_turn (as bs : List Nat) (b x c : Nat) : innerN c (as ++ (b ^^^ x) :: bs) = innerN c (as ++ b :: bs) ^^^ stepsN (eightN x) bs.length := by
  rw [inner_append, inner_append]
  generalize innerN c as = d
  show innerN (eightN (d ^^^ (b ^^^ x))) bs = innerN (eightN (d ^^^ b)) bs ^^^ _
  rw [← Nat.xor_assoc, eight_lin, Nat.xor_comm (eightN (d ^^^ b)), inner_lin, Nat.xor_comm]
theorem more_turn (s : Nat) (as bs : List Nat) (b x : Nat) : moreN s (as ++ (b ^^^ x) :: bs) = moreN s (as ++ b :: bs) ^^^ stepsN (eightN x) bs.length := by
  unfold moreN
  rw [inner_turn]
  unfold notN
  generalize innerN (s ^^^ 4294967295) (as ++ b :: bs) = p
  generalize stepsN (eightN x) bs.length = q
  rw [Nat.xor_assoc, Nat.xor_comm q, ← Nat.xor_assoc]
theorem turn_zero (n x : Nat) (hx : x < 256) : stepsN (eightN x) n = 0 ↔ x = 0 := by
  refine ⟨fun h => ?_, fun h => by rw [h, eight_zero, steps_zero]⟩
  exact eight_inj0 (by omega) (steps_inj0 n (eight_lt (by omega)) h)
theorem xor_eq_self (a b : Nat) : a = a ^^^ b ↔ b = 0 := by
  refine ⟨fun h => ?_, fun h => by rw [h, Nat.xor_zero]⟩
  have := congrArg (a ^^^ ·) h
  simp only [Nat.xor_self, xor_left_cancel'] at this
  exact this.symm

/-! A linear map by its 32 columns. -/
/-- What a number's bits pick out of columns: from the lowest on. -/
def pick : List Nat → Nat → Nat
  | [], _ => 0
  | m :: ms, v => (if v % 2 = 1 then m else 0) ^^^ pick ms (v / 2)
/-- The columns of a map: what it makes of 1, 2, 4 and so on. -/
def cols (f : Nat → Nat) (k : Nat) : List Nat := (List.range k).map fun i => f (2 ^ i)
theorem pick_cols_from (f : Nat → Nat) (h0 : f 0 = 0) (hl : ∀ a b, f (a ^^^ b) = f a ^^^ f b) :
    ∀ (k j v : Nat), v < 2 ^ k → pick ((List.range' j k).map fun i => f (2 ^ i)) v = f (2 ^ j * v)
  | 0, j, v, h => by
    obtain rfl : v = 0 := by simpa using h
    simp [pick, h0]
  | k + 1, j, v, h => by
    rw [List.range'_succ, List.map_cons, pick, pick_cols_from f h0 hl k (j + 1) (v / 2) (by rw [Nat.pow_succ] at h; omega)]
    have e : 2 ^ j * v = (2 ^ j * (v % 2)) ^^^ (2 ^ (j + 1) * (v / 2)) := by
      apply Nat.eq_of_testBit_eq
      intro i
      rw [Nat.testBit_xor, Nat.mul_comm, Nat.testBit_mul_two_pow, Nat.mul_comm (2 ^ j), Nat.testBit_mul_two_pow, Nat.mul_comm (2 ^ (j + 1)), Nat.testBit_mul_two_pow]
      by_cases h1 : j + 1 ≤ i
      · obtain ⟨t, ht⟩ : ∃ t, i - j = t + 1 := ⟨i - j - 1, by omega⟩
        have ht' : i - (j + 1) = t := by omega
        rw [ht, ht', Nat.testBit_succ, Nat.testBit_succ, show v % 2 / 2 = 0 by omega]
        simp [h1, show j ≤ i by omega]
      · by_cases h2 : j ≤ i
        · have : i - j = 0 := by omega
          rw [this, Nat.testBit_zero, Nat.testBit_zero]
          simp [h1, h2]
        · simp [h1, h2]
    rw [e, hl]
    congr 1
    have hv : v % 2 = 0 ∨ v % 2 = 1 := by omega
    rcases hv with hv | hv
    · rw [hv]; simp [h0]
    · rw [hv]; simp
theorem pick_cols (f : Nat → Nat) (h0 : f 0 = 0) (hl : ∀ a b, f (a ^^^ b) = f a ^^^ f b) (k v : Nat) (h : v < 2 ^ k) : pick (cols f k) v = f v := by
  have := pick_cols_from f h0 hl k 0 v h
  rw [Nat.pow_zero, Nat.one_mul] at this
  unfold cols
  rw [List.range_eq_range']
  exact this
/-- The columns of a map done twice. -/
theorem cols_square (f : Nat → Nat) (h0 : f 0 = 0) (hl : ∀ a b, f (a ^^^ b) = f a ^^^ f b) (hlt : ∀ c, c < 4294967296 → f c < 4294967296) :
    (cols f 32).map (pick (cols f 32)) = cols (fun c => f (f c)) 32 := by
  unfold cols
  rw [List.map_map]
  apply List.map_congr_left
  intro i hi
  have hi' : i < 32 := by simpa using hi
  simp only [Function.comp]
  have hp : (2 : Nat) ^ i < 4294967296 := Nat.lt_of_lt_of_eq (Nat.pow_lt_pow_right (by decide) hi') (by decide)
  exact pick_cols f h0 hl 32 (f (2 ^ i)) (hlt _ hp)
/-- As many steps as a number's bits tell: by squares. -/
theorem iter_double (f : Nat → Nat) (n c : Nat) : iterN f (2 * n) c = iterN (fun x => f (f x)) n c := by
  induction n generalizing c with
  | zero => rfl
  | succ n ih =>
    rw [show 2 * (n + 1) = 2 * n + 1 + 1 by omega]
    simp only [iterN]
    exact ih (f (f c))
theorem iter_bits (f : Nat → Nat) (n c : Nat) : iterN f n c = iterN (fun x => f (f x)) (n / 2) (if n % 2 = 1 then f c else c) := by
  rw [← iter_double]
  have hn : n % 2 = 0 ∨ n % 2 = 1 := by omega
  rcases hn with h | h
  · rw [if_neg (by omega), show 2 * (n / 2) = n by omega]
  · rw [if_pos h]
    have : n = 2 * (n / 2) + 1 := by omega
    conv => lhs; rw [this]
    rfl
end Go.Proofs.Ytgchgbbldhpgeab
