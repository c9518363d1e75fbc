/-
  Plain arithmetic of numbers written in bytes and in words of 64 bits: values, digits, carries, borrows, products.
  Plain arithmetic of comparing numbers word by word, of products and of quotient digits.
  Plain arithmetic of the division of two words by one, by halves of a word.
  Powers modulo a prime: a number of the order n - 1 makes all of them, and the modulus of the document is prime.
  The group of squares modulo the document's prime: which numbers are members, inverses modulo primes.
-/
import Derived.Test.YtbfplapjjeeceaaGreatDoorGMath
namespace NM
/-- 2^64 -/
def B64 : Nat := 18446744073709551616
theorem B64_pos : 0 < B64 := by decide
/-- value of big-endian bytes -/
def bv (l : List UInt8) : Nat := l.foldl (fun n b => 256*n + b.toNat) 0
/-- value of little-endian words -/
def wv : List Nat → Nat
  | [] => 0
  | x :: xs => x + B64 * wv xs
/-- the right number of a value: bytes, most significant first -/
def nb (n : Nat) : List UInt8 := if _h : n = 0 then [] else nb (n / 256) ++ [UInt8.ofNat n]
termination_by n
decreasing_by omega

theorem bv_foldl (l : List UInt8) (a : Nat) : l.foldl (fun n b => 256*n + b.toNat) a = a * 256^l.length + bv l := by
  unfold bv
  induction l generalizing a with
  | nil => simp
  | cons x xs ih =>
    simp only [List.foldl_cons, List.length_cons]
    rw [ih (256*a + x.toNat), ih (256*0 + x.toNat), Nat.pow_succ]
    simp only [Nat.add_mul, Nat.mul_zero, Nat.zero_add]
    rw [Nat.mul_comm 256 a, Nat.mul_assoc, Nat.mul_comm 256]
    omega
@[simp] theorem bv_nil : bv [] = 0 := rfl
theorem bv_cons (x : UInt8) (l : List UInt8) : bv (x :: l) = x.toNat * 256^l.length + bv l := by
  show List.foldl _ (256*0 + x.toNat) l = _
  rw [bv_foldl]; simp
theorem bv_append (a b : List UInt8) : bv (a ++ b) = bv a * 256^b.length + bv b := by
  unfold bv; rw [List.foldl_append, bv_foldl]; rfl
theorem bv_snoc (a : List UInt8) (x : UInt8) : bv (a ++ [x]) = 256 * bv a + x.toNat := by
  rw [bv_append]; simp [bv_cons]; omega
theorem bv_lt (l : List UInt8) : bv l < 256^l.length := by
  induction l with
  | nil => simp
  | cons x xs ih =>
    rw [bv_cons, List.length_cons, Nat.pow_succ]
    have := x.toNat_lt
    have h2 : x.toNat * 256^xs.length ≤ 255 * 256^xs.length := Nat.mul_le_mul_right _ (by omega)
    omega
theorem nb_zero : nb 0 = [] := by rw [nb]; simp
theorem nb_pos {n : Nat} (h : n ≠ 0) : nb n = nb (n/256) ++ [UInt8.ofNat n] := by rw [nb]; simp [h]
theorem bv_nb (n : Nat) : bv (nb n) = n := by
  induction n using Nat.strongRecOn with
  | ind n ih =>
    by_cases h : n = 0
    · subst h; rw [nb_zero]; rfl
    · rw [nb_pos h, bv_snoc, ih _ (by omega)]
      simp [UInt8.toNat_ofNat']; omega
/-- zeros in front are dropped -/
def dz : List UInt8 → List UInt8
  | [] => []
  | x :: xs => if x = 0 then dz xs else x :: xs
theorem bv_dz (l : List UInt8) : bv (dz l) = bv l := by
  induction l with
  | nil => rfl
  | cons x xs ih =>
    unfold dz
    by_cases h : x = 0
    · subst h; rw [if_pos rfl, ih, bv_cons]; simp
    · rw [if_neg h]
theorem dz_head (l : List UInt8) : (dz l).head? ≠ some 0 := by
  induction l with
  | nil => simp [dz]
  | cons x xs ih => unfold dz; by_cases h : x = 0 <;> simp [h, ih]
/-- two right numbers with one value are one -/
theorem nb_unique (l : List UInt8) (h : l.head? ≠ some 0) : l = nb (bv l) := by
  have key : ∀ (k : Nat) (l : List UInt8), l.length = k → l.head? ≠ some 0 → l = nb (bv l) := by
    intro k
    induction k with
    | zero => intro l hl _; have := List.length_eq_zero_iff.1 hl; subst this; simp [nb_zero]
    | succ k ih =>
      intro l hl hh
      have hne : l ≠ [] := by intro h; subst h; simp at hl
      obtain ⟨l', x, rfl⟩ : ∃ l' x, l = l' ++ [x] := ⟨l.dropLast, l.getLast hne, (List.dropLast_concat_getLast hne).symm⟩
      have hl' : l'.length = k := by simpa using hl
      rw [bv_snoc]
      have hx := x.toNat_lt
      by_cases hz : bv l' = 0
      · by_cases hl0 : l' = []
        · subst hl0
          have hx0 : x ≠ 0 := by simpa using hh
          have : x.toNat ≠ 0 := by intro h; exact hx0 (UInt8.toNat_inj.1 (by simpa using h))
          rw [hz, nb_pos (by omega), show (256*0 + x.toNat)/256 = 0 by omega, nb_zero]
          simp
        · have hh' : l'.head? ≠ some 0 := by cases l' with | nil => exact absurd rfl hl0 | cons a b => simpa using hh
          have := ih l' hl' hh'
          rw [hz, nb_zero] at this; exact absurd this hl0
      · have hh' : l'.head? ≠ some 0 := by cases l' with | nil => simp at hz | cons a b => simpa using hh
        have := ih l' hl' hh'
        rw [nb_pos (by omega), show (256 * bv l' + x.toNat)/256 = bv l' by omega, ← this]
        congr 2
        apply UInt8.toNat_inj.1; simp
  exact key _ l rfl h
theorem dz_eq (l : List UInt8) : dz l = nb (bv l) := by rw [← bv_dz]; exact nb_unique _ (dz_head l)
theorem nb_length_le (n k : Nat) (h : n < 256^k) : (nb n).length ≤ k := by
  induction k generalizing n with
  | zero => simp at h; subst h; simp [nb_zero]
  | succ k ih =>
    by_cases h0 : n = 0
    · subst h0; simp [nb_zero]
    · rw [nb_pos h0]; simp
      apply ih; rw [Nat.pow_succ] at h; omega
theorem nb_length_lt (n k : Nat) (h : k < (nb n).length) : 256^k ≤ n := by
  apply Nat.le_of_not_lt; intro h2; have := nb_length_le n k h2; omega

/-- all are words -/
def Wd (l : List Nat) : Prop := ∀ x ∈ l, x < B64
theorem Wd_set {l : List Nat} (h : Wd l) (k v : Nat) (hv : v < B64) : Wd (l.set k v) := fun x hx => by
  rcases List.mem_or_eq_of_mem_set hx with h1 | h1
  · exact h x h1
  · omega
/-! add -/
/-! subtract -/
/-! products -/
/-! words and bytes -/
/-- byte p of a number -/
def byteAt (N p : Nat) : Nat := N / 256^p % 256
/-- the bytes of a number, n of them, the most significant one first -/
def bytesN (n N : Nat) : List UInt8 := (List.range n).map (fun j => UInt8.ofNat (byteAt N (n-1-j)))
theorem bytesN_length (n N : Nat) : (bytesN n N).length = n := by simp [bytesN]
theorem bytesN_get (n N j : Nat) (h : j < n) : (bytesN n N)[j]? = some (UInt8.ofNat (byteAt N (n-1-j))) := by
  simp [bytesN, h]
/-! trimmed -/
def Tr (l : List Nat) : Prop := l.getD (l.length - 1) 1 ≠ 0
end NM
namespace NM
/-! compare -/
/-! products -/
/-! a digit of a quotient, by halves -/
end NM
namespace NM
end NM
namespace NM
/-- no map of N+1 numbers into N is one to one -/
theorem pigeon : ∀ (N : Nat) (f : Nat → Nat), (∀ i, i < N + 1 → f i < N) → ∃ i j, i < j ∧ j < N + 1 ∧ f i = f j
  | 0, f, h => absurd (h 0 (by omega)) (Nat.not_lt_zero _)
  | N + 1, f, h => by
    by_cases hx : ∃ i, i < N + 1 ∧ f i = f (N + 1)
    · obtain ⟨i, h1, h2⟩ := hx
      exact ⟨i, N + 1, h1, by omega, h2⟩
    · have hne : ∀ i, i < N + 1 → f i ≠ f (N + 1) := fun i h1 h2 => hx ⟨i, h1, h2⟩
      obtain ⟨i, j, h1, h2, h3⟩ := pigeon N (fun i => if f i = N then f (N + 1) else f i) (fun i hi => by
        have h1 := h i (by omega)
        have h2 := hne i hi
        have h3 := h (N + 1) (by omega)
        show (if f i = N then f (N + 1) else f i) < N
        split <;> omega)
      refine ⟨i, j, h1, by omega, ?_⟩
      have h4 := hne i (by omega)
      have h5 := hne j (by omega)
      change (if f i = N then f (N + 1) else f i) = (if f j = N then f (N + 1) else f j) at h3
      split at h3 <;> split at h3 <;> omega
/-- a one to one map of N numbers into themselves hits each -/
theorem onto (N : Nat) (f : Nat → Nat) (h : ∀ i, i < N → f i < N) (inj : ∀ i j, i < j → j < N → f i ≠ f j) (y : Nat) (hy : y < N) :
    ∃ i, i < N ∧ f i = y := by
  cases N with
  | zero => omega
  | succ N =>
    by_cases hx : ∃ i, i < N + 1 ∧ f i = y
    · exact hx
    · have hne : ∀ i, i < N + 1 → f i ≠ y := fun i h1 h2 => hx ⟨i, h1, h2⟩
      obtain ⟨i, j, h1, h2, h3⟩ := pigeon N (fun i => if f i = N then y else f i) (fun i hi => by
        have h1 := h i (by omega)
        have h2 := hne i hi
        show (if f i = N then y else f i) < N
        split <;> omega)
      have h4 := hne i (by omega)
      have h5 := hne j (by omega)
      have h6 := inj i j h1 h2
      change (if f i = N then y else f i) = (if f j = N then y else f j) at h3
      split at h3 <;> split at h3 <;> omega
theorem pow_mod_one {n g k : Nat} (hn : 1 < n) (h : g^k % n = 1) (m : Nat) : g^(k * m) % n = 1 := by
  rw [Nat.pow_mul, Nat.pow_mod, h, Nat.one_pow]; exact Nat.mod_eq_of_lt hn
theorem pow_one_mod {n g a b : Nat} (hn : 1 < n) (ha : g^a % n = 1) (hb : g^b % n = 1) : g^(a % b) % n = 1 := by
  have h1 : g^a % n = g^(a % b) % n := by
    have : g^a = g^(b * (a / b)) * g^(a % b) := by rw [← Nat.pow_add, Nat.div_add_mod]
    rw [this, Nat.mul_mod, pow_mod_one hn hb, Nat.one_mul, Nat.mod_mod]
  rw [← h1]; exact ha
theorem pow_gcd_one {n g : Nat} (hn : 1 < n) (a b : Nat) : g^a % n = 1 → g^b % n = 1 → g^(Nat.gcd a b) % n = 1 := by
  induction a, b using Nat.gcd.induction with
  | H0 b => intro _ h; rw [Nat.gcd_zero_left]; exact h
  | H1 a b ha ih =>
    intro h1 h2
    rw [Nat.gcd_rec]
    exact ih (pow_one_mod hn h2 h1) h1
/-- g generates: it is of the order n - 1 -/
structure Gen (n g : Nat) : Prop where
  big : 2 < n
  one : g^(n-1) % n = 1
  far : ∀ d, d ∣ n - 1 → d < n - 1 → 0 < d → g^d % n ≠ 1
theorem Gen.of {n g : Nat} (hn : 2 < n) (h1 : g^(n-1) % n = 1) (L : List Nat) (hL : ∀ q, q ∈ L → 0 < q ∧ q ∣ n - 1 ∧ g^((n-1)/q) % n ≠ 1)
    (hd : ∀ c, c ∣ n - 1 → 1 < c → ∃ q, q ∈ L ∧ q ∣ c) : Gen n g := by
  refine ⟨hn, h1, fun d hdv hlt hpos h2 => ?_⟩
  obtain ⟨c, hc⟩ := hdv
  have hc1 : 1 < c := by
    rcases Nat.lt_or_ge 1 c with h | h
    · exact h
    · have : d * c ≤ d * 1 := Nat.mul_le_mul_left _ h
      omega
  obtain ⟨q, hq, e, he⟩ := hd c ⟨d, by rw [hc, Nat.mul_comm]⟩ hc1
  obtain ⟨hq0, _, hne⟩ := hL q hq
  apply hne
  have : (n-1)/q = d * e := by
    rw [hc, he, Nat.mul_left_comm, Nat.mul_div_cancel_left _ hq0]
  rw [this]
  exact pow_mod_one (by omega) h2 e
theorem Gen.inj {n g : Nat} (h : Gen n g) (i j : Nat) (hij : i < j) (hj : j < n - 1) : g^i % n ≠ g^j % n := by
  intro he
  have hb := h.big
  have h1 : g^(j - i) % n = 1 := by
    have hi : g^i * g^(n-1-i) = g^(n-1) := by rw [← Nat.pow_add]; congr 1; omega
    have hj' : g^j * g^(n-1-i) = g^(n-1) * g^(j-i) := by rw [← Nat.pow_add, ← Nat.pow_add]; congr 1; omega
    have h2 : g^j * g^(n-1-i) % n = 1 := by
      rw [Nat.mul_mod, ← he, ← Nat.mul_mod, hi]; exact h.one
    rw [hj', Nat.mul_mod, h.one, Nat.one_mul, Nat.mod_mod] at h2
    exact h2
  have h2 := pow_gcd_one (by omega) (j - i) (n - 1) h1 h.one
  have hd : Nat.gcd (j - i) (n-1) ∣ n - 1 := Nat.gcd_dvd_right _ _
  have hp : 0 < Nat.gcd (j - i) (n-1) := Nat.gcd_pos_of_pos_right _ (by omega)
  have hle : Nat.gcd (j - i) (n-1) ≤ j - i := Nat.gcd_le_left _ (by omega)
  exact h.far _ hd (by omega) hp h2
theorem Gen.ne_zero {n g : Nat} (h : Gen n g) (i : Nat) (hi : i < n - 1) : g^i % n ≠ 0 := by
  intro h0
  have hb := h.big
  have hi' : g^i * g^(n-1-i) = g^(n-1) := by rw [← Nat.pow_add]; congr 1; omega
  have := h.one
  rw [← hi', Nat.mul_mod, h0, Nat.zero_mul, Nat.zero_mod] at this
  omega
/-- each number that isn't divided by n is a power of g -/
theorem Gen.onto {n g : Nat} (h : Gen n g) (a : Nat) (ha : a % n ≠ 0) : ∃ i, g^i % n = a % n := by
  have hb := h.big
  have hlt := Nat.mod_lt a (show n > 0 by omega)
  obtain ⟨i, hi, he⟩ := NM.onto (n-1) (fun i => g^i % n - 1) (fun i hi => by
      have h1 := Nat.mod_lt (g^i) (show n > 0 by omega)
      have h2 := h.ne_zero i hi
      show g^i % n - 1 < n - 1
      omega) (fun i j hij hj he => by
      have h1 := h.inj i j hij hj
      have h2 := h.ne_zero i (by omega)
      have h3 := h.ne_zero j hj
      change g^i % n - 1 = g^j % n - 1 at he
      omega) (a % n - 1) (by omega)
  refine ⟨i, ?_⟩
  have h2 := h.ne_zero i hi
  change g^i % n - 1 = a % n - 1 at he
  omega
/-- Fermat -/
theorem Gen.fermat {n g : Nat} (h : Gen n g) (a : Nat) (ha : a % n ≠ 0) : a^(n-1) % n = 1 := by
  have hb := h.big
  obtain ⟨i, hi⟩ := h.onto a ha
  rw [Nat.pow_mod, ← hi, ← Nat.pow_mod, ← Nat.pow_mul, Nat.mul_comm]
  exact pow_mod_one (by omega) h.one i
/-- and n is prime -/
theorem Gen.prime {n g : Nat} (h : Gen n g) (d : Nat) (hd : d ∣ n) : d = 1 ∨ d = n := by
  have hb := h.big
  obtain ⟨c, hc⟩ := hd
  rcases Nat.lt_or_ge d n with hlt | hge
  · left
    have hd0 : d ≠ 0 := fun h0 => by rw [h0, Nat.zero_mul] at hc; omega
    have h1 := h.fermat d (by rw [Nat.mod_eq_of_lt hlt]; exact hd0)
    have hdv : d ∣ d^(n-1) % n := (Nat.dvd_mod_iff ⟨c, hc⟩).2 (by
      rw [show n - 1 = (n - 2) + 1 by omega, Nat.pow_succ]; exact Nat.dvd_mul_left _ _)
    rw [h1] at hdv
    exact Nat.dvd_one.1 hdv
  · right
    have : d ≤ n := Nat.le_of_dvd (by omega) ⟨c, hc⟩
    omega
/-- prime, as it is used here -/
def Pr (n : Nat) : Prop := 1 < n ∧ ∀ d, d ∣ n → d = 1 ∨ d = n
theorem Pr.split {q m c : Nat} (hq : Pr q) (hc : c ∣ q * m) : q ∣ c ∨ c ∣ m := by
  rcases hq.2 (Nat.gcd q c) (Nat.gcd_dvd_left _ _) with h | h
  · right
    exact Nat.Coprime.dvd_of_dvd_mul_left (Nat.Coprime.symm h) hc
  · left
    rw [← h]; exact Nat.gcd_dvd_right _ _
theorem prod_hit (L : List Nat) (hL : ∀ q, q ∈ L → Pr q) : ∀ c, c ∣ L.foldr (· * ·) 1 → 1 < c → ∃ q, q ∈ L ∧ q ∣ c := by
  induction L with
  | nil => intro c hc h1; rw [List.foldr_nil] at hc; have := Nat.dvd_one.1 hc; omega
  | cons x L ih =>
    intro c hc h1
    rw [List.foldr_cons] at hc
    rcases (hL x (by simp)).split hc with h | h
    · exact ⟨x, by simp, h⟩
    · obtain ⟨q, h2, h3⟩ := ih (fun q hq => hL q (by simp [hq])) c h h1
      exact ⟨q, by simp [h2], h3⟩
/-- b^e mod n, in as many steps as e has bits -/
def pw (n : Nat) : Nat → Nat → Nat → Nat
  | 0, _, _ => 1 % n
  | k+1, b, e => if e % 2 = 1 then b * pw n k (b * b % n) (e / 2) % n else pw n k (b * b % n) (e / 2)
theorem pw_eq (n : Nat) : ∀ (k b e : Nat), e < 2^k → pw n k b e = b^e % n
  | 0, b, e, h => by
    have : e = 0 := by simpa using h
    rw [this, Nat.pow_zero]; rfl
  | k+1, b, e, h => by
    have h1 : e / 2 < 2^k := by rw [Nat.pow_succ] at h; omega
    have h2 := pw_eq n k (b * b % n) (e / 2) h1
    rw [← Nat.pow_mod, show (b * b)^(e/2) = b^(2 * (e/2)) by rw [← Nat.pow_two, ← Nat.pow_mul]] at h2
    unfold pw
    rw [h2]
    by_cases hb : e % 2 = 1
    · rw [if_pos hb, Nat.mul_mod, Nat.mod_mod, ← Nat.mul_mod, ← Nat.pow_succ']; congr 2; omega
    · rw [if_neg hb]; congr 2; omega
/-- none of the 2^k numbers from lo on divides n -/
def nod (n : Nat) : Nat → Nat → Bool
  | 0, lo => !(n % lo == 0)
  | k+1, lo => nod n k lo && nod n k (lo + 2^k)
theorem nod_ok (n : Nat) : ∀ (k lo : Nat), nod n k lo = true → ∀ d, lo ≤ d → d < lo + 2^k → ¬ d ∣ n
  | 0, lo, h, d, h1, h2, h3 => by
    have : d = lo := by simp at h2; omega
    subst this
    have := Nat.mod_eq_zero_of_dvd h3
    unfold nod at h
    rw [this] at h
    simp at h
  | k+1, lo, h, d, h1, h2, h3 => by
    unfold nod at h
    rw [Bool.and_eq_true] at h
    rw [Nat.pow_succ] at h2
    rcases Nat.lt_or_ge d (lo + 2^k) with h4 | h4
    · exact nod_ok n k lo h.1 d h1 h4 h3
    · exact nod_ok n k _ h.2 d h4 (by omega) h3
theorem Pr.trial {n k : Nat} (hn : 1 < n) (h : nod n k 2 = true) (hk : n < (2 + 2^k) * (2 + 2^k)) : Pr n := by
  refine ⟨hn, fun d hd => ?_⟩
  obtain ⟨c, hc⟩ := hd
  have hd0 : 0 < d := by rcases Nat.eq_zero_or_pos d with h0 | h0; rw [h0, Nat.zero_mul] at hc; omega; exact h0
  have hc0 : 0 < c := by rcases Nat.eq_zero_or_pos c with h0 | h0; rw [h0, Nat.mul_zero] at hc; omega; exact h0
  by_cases h1 : d = 1
  · exact .inl h1
  by_cases h2 : c = 1
  · right; rw [hc, h2, Nat.mul_one]
  exfalso
  have hd2 : 2 + 2^k ≤ d := Nat.le_of_not_lt fun hlt => nod_ok n k 2 h d (by omega) hlt ⟨c, hc⟩
  have hc2 : 2 + 2^k ≤ c := Nat.le_of_not_lt fun hlt => nod_ok n k 2 h c (by omega) hlt ⟨d, by rw [hc, Nat.mul_comm]⟩
  have := Nat.mul_le_mul hd2 hc2
  omega
/-- the test of a generator, by calculation -/
def genTest (n g : Nat) (L : List Nat) : Bool := pw n 64 g (n-1) == 1 && L.all fun q => !(pw n 64 g ((n-1)/q) == 1)
theorem Gen.test {n g : Nat} (hn : 2 < n) (hb : n < 2^64) (L : List Nat) (hL : ∀ q, q ∈ L → Pr q) (hp : L.foldr (· * ·) 1 = n - 1)
    (h : genTest n g L = true) : Gen n g := by
  unfold genTest at h
  rw [Bool.and_eq_true, beq_iff_eq, List.all_eq_true, pw_eq _ _ _ _ (by omega)] at h
  refine Gen.of hn h.1 L (fun q hq => ⟨by have := (hL q hq).1; omega, ?_, ?_⟩) (fun c hc h1 => prod_hit L hL c (by rw [hp]; exact hc) h1)
  · rw [← hp]; clear hp h hL
    induction L with
    | nil => cases hq
    | cons x L ih =>
      rw [List.foldr_cons]
      rcases List.mem_cons.1 hq with rfl | h
      · exact Nat.dvd_mul_right _ _
      · exact Nat.dvd_trans (ih h) (Nat.dvd_mul_left _ _)
  · have h2 := h.2 q hq
    rw [pw_eq _ _ _ _ (Nat.lt_of_le_of_lt (Nat.div_le_self _ _) (by omega))] at h2
    intro h3; rw [h3] at h2; simp at h2
theorem Gen.pr {n g : Nat} (h : Gen n g) : Pr n := ⟨by have := h.big; omega, h.prime⟩
theorem pr2 : Pr 2 := ⟨by decide, fun d hd => by
  have h1 := Nat.le_of_dvd (by decide) hd
  have h0 : d ≠ 0 := fun h => by rw [h] at hd; have := Nat.eq_zero_of_zero_dvd hd; omega
  omega⟩
theorem pr19 : Pr 19 := Pr.trial (k := 2) (by decide) (by decide +kernel) (by decide)
theorem pr751 : Pr 751 := Pr.trial (k := 5) (by decide) (by decide +kernel) (by decide)
theorem pr5639 : Pr 5639 := Pr.trial (k := 7) (by decide) (by decide +kernel) (by decide)
theorem pr95189 : Pr 95189 := Pr.trial (k := 9) (by decide) (by decide +kernel) (by decide)
theorem pr3 : Pr 3 := Pr.trial (k := 0) (by decide) (by decide +kernel) (by decide)
theorem pr7 : Pr 7 := Pr.trial (k := 0) (by decide) (by decide +kernel) (by decide)
theorem gen2835870689 : Gen 2835870689 6 := Gen.test (by decide) (by decide) [2, 2, 2, 2, 2, 7, 7, 19, 95189] (by
  intro q hq; simp only [List.mem_cons, List.not_mem_nil, or_false] at hq
  rcases hq with rfl | rfl | rfl | rfl | rfl | rfl | rfl | rfl | rfl
  · exact pr2
  · exact pr2
  · exact pr2
  · exact pr2
  · exact pr2
  · exact pr7
  · exact pr7
  · exact pr19
  · exact pr95189) (by decide) (by decide +kernel)
theorem pr2835870689 : Pr 2835870689 := gen2835870689.pr
theorem gen5671741379 : Gen 5671741379 2 := Gen.test (by decide) (by decide) [2, 2835870689] (by
  intro q hq; simp only [List.mem_cons, List.not_mem_nil, or_false] at hq
  rcases hq with rfl | rfl
  · exact pr2
  · exact pr2835870689) (by decide) (by decide +kernel)
theorem pr5671741379 : Pr 5671741379 := gen5671741379.pr
theorem gen8469779 : Gen 8469779 2 := Gen.test (by decide) (by decide) [2, 751, 5639] (by
  intro q hq; simp only [List.mem_cons, List.not_mem_nil, or_false] at hq
  rcases hq with rfl | rfl | rfl
  · exact pr2
  · exact pr751
  · exact pr5639) (by decide) (by decide +kernel)
theorem pr8469779 : Pr 8469779 := gen8469779.pr
theorem gen288230376151711447 : Gen 288230376151711447 6 := Gen.test (by decide) (by decide) [2, 3, 8469779, 5671741379] (by
  intro q hq; simp only [List.mem_cons, List.not_mem_nil, or_false] at hq
  rcases hq with rfl | rfl | rfl | rfl
  · exact pr2
  · exact pr3
  · exact pr8469779
  · exact pr5671741379) (by decide) (by decide +kernel)
theorem pr288230376151711447 : Pr 288230376151711447 := gen288230376151711447.pr
theorem gen1152921504606845789 : Gen 1152921504606845789 2 := Gen.test (by decide) (by decide) [2, 2, 288230376151711447] (by
  intro q hq; simp only [List.mem_cons, List.not_mem_nil, or_false] at hq
  rcases hq with rfl | rfl | rfl
  · exact pr2
  · exact pr2
  · exact pr288230376151711447) (by decide) (by decide +kernel)
theorem pr1152921504606845789 : Pr 1152921504606845789 := gen1152921504606845789.pr
theorem gen2305843009213691579 : Gen 2305843009213691579 2 := Gen.test (by decide) (by decide) [2, 1152921504606845789] (by
  intro q hq; simp only [List.mem_cons, List.not_mem_nil, or_false] at hq
  rcases hq with rfl | rfl
  · exact pr2
  · exact pr1152921504606845789) (by decide) (by decide +kernel)
theorem pr2305843009213691579 : Pr 2305843009213691579 := gen2305843009213691579.pr
end NM
namespace GM
/-- p = 2 q + 1 is prime, q is odd, and p - 1 = 2 q squares to Fermat's power -/
structure Grp (p q : Nat) : Prop where
  pq : p = 2 * q + 1
  odd : q % 2 = 1
  big : 1 ≤ q
  fermat : ∀ a : Int, a % (p : Int) ≠ 0 → a^(2 * q) % (p : Int) = 1
  prime : ∀ a b : Int, (p : Int) ∣ a * b → (p : Int) ∣ a ∨ (p : Int) ∣ b
def memG (p q : Nat) (a : Int) : Prop := 0 < a ∧ a < (p : Int) ∧ a^q % (p : Int) = 1
theorem neg_pow_odd (a : Int) (q : Nat) (h : q % 2 = 1) : (-a)^q = -(a^q) := by
  obtain ⟨k, hk⟩ : ∃ k, q = 2 * k + 1 := ⟨q / 2, by omega⟩
  rw [hk, Int.pow_succ, Int.pow_succ, Int.pow_mul, Int.pow_mul]
  rw [show (-a)^2 = a^2 by rw [Int.pow_succ, Int.pow_succ, Int.pow_succ, Int.pow_succ]; simp [Int.neg_mul_neg]]
  rw [Int.mul_neg]
theorem Grp.sq {p q : Nat} (h : Grp p q) (a : Int) (ha : a % (p : Int) ≠ 0) : a^q % (p : Int) = 1 ∨ a^q % (p : Int) = p - 1 := by
  have hp := h.pq
  have hb := h.big
  have h1 := h.fermat a ha
  have e : a^(2 * q) = a^q * a^q := by rw [Nat.two_mul, Int.pow_add]
  rw [e, ← mul_l, ← mul_r] at h1
  have r := rng (f := a^q) (m := (p : Int)) (by omega)
  generalize a^q % (p : Int) = y at *
  have hd : (p : Int) ∣ (y - 1) * (y + 1) := by
    refine Int.dvd_of_emod_eq_zero ?_
    rw [show (y - 1) * (y + 1) = y * y - 1 by grind, Int.sub_emod, h1]
    simp
  rcases h.prime _ _ hd with ⟨c, hc⟩ | ⟨c, hc⟩
  · left
    rcases Int.lt_or_le c 1 with h2 | h2
    · rcases Int.lt_or_le c 0 with h3 | h3
      · exfalso
        have := Int.mul_le_mul_of_nonneg_left (show c ≤ -1 by omega) (show (0 : Int) ≤ (p : Int) by omega)
        omega
      · have : c = 0 := by omega
        rw [this] at hc; omega
    · exfalso
      have := Int.mul_le_mul_of_nonneg_left h2 (show (0 : Int) ≤ (p : Int) by omega)
      omega
  · right
    rcases Int.lt_or_le c 1 with h2 | h2
    · exfalso
      have := Int.mul_le_mul_of_nonneg_left (show c ≤ 0 by omega) (show (0 : Int) ≤ (p : Int) by omega)
      omega
    · rcases Int.lt_or_le 1 c with h3 | h3
      · exfalso
        have := Int.mul_le_mul_of_nonneg_left (show 2 ≤ c by omega) (show (0 : Int) ≤ (p : Int) by omega)
        omega
      · have : c = 1 := by omega
        rw [this] at hc; omega
/-- of a number and its negative exactly one is a member -/
theorem Grp.one {p q : Nat} (h : Grp p q) (x : Int) (h0 : 0 < x) (h1 : x < p) : memG p q x ↔ ¬ memG p q (p - x) := by
  have hp := h.pq
  have hb := h.big
  have hx : x % (p : Int) ≠ 0 := by rw [Int.emod_eq_of_lt (by omega) h1]; omega
  have e : ((p : Int) - x)^q % (p : Int) = (p - x^q % (p : Int)) % (p : Int) := by
    rw [← pow_emod, show ((p : Int) - x) % (p : Int) = (-x) % (p : Int) by rw [Int.sub_emod, Int.emod_self, Int.neg_emod_eq_sub_emod, Int.zero_sub, Int.sub_emod, Int.emod_self, Int.zero_sub], pow_emod, neg_pow_odd x q h.odd, sub_r, Int.neg_emod_eq_sub_emod]
  unfold memG
  rw [e]
  rcases h.sq x hx with h2 | h2 <;> rw [h2]
  · rw [Int.emod_eq_of_lt (by omega) (by omega)]; omega
  · rw [show (p : Int) - (p - 1) = 1 by omega, Int.emod_eq_of_lt (by omega) (by omega)]; omega
/-- the square of a number is a member -/
theorem Grp.square {p q : Nat} (h : Grp p q) (x : Int) (h0 : 0 < x) (h1 : x < p) : memG p q (x * x % (p : Int)) := by
  have hp := h.pq
  have hb := h.big
  have hx : x % (p : Int) ≠ 0 := by rw [Int.emod_eq_of_lt (by omega) h1]; omega
  have e : (x * x % (p : Int))^q % (p : Int) = 1 := by
    rw [pow_emod, ← h.fermat x hx, show x^(2*q) = (x*x)^q by rw [Int.pow_mul]; congr 1; rw [Int.pow_succ, Int.pow_succ, Int.pow_zero, Int.one_mul]]
  have r := rng (f := x * x) (m := (p : Int)) (by omega)
  refine ⟨?_, r.2, e⟩
  rcases Int.lt_or_le 0 (x * x % (p : Int)) with h2 | h2
  · exact h2
  · exfalso
    rw [show x * x % (p : Int) = 0 by omega, Int.zero_pow (by omega)] at e
    simp at e
theorem one_pow_mod {a m : Int} {q : Nat} (hm : 2 ≤ m) (h : a^q % m = 1) (k : Nat) : (a^q)^k % m = 1 := by
  rw [← pow_emod, h, Int.one_pow, Int.emod_eq_of_lt (by omega) (by omega)]
/-- the powers of a member are members -/
theorem Grp.pow {p q : Nat} (h : Grp p q) {a : Int} (ha : memG p q a) (k : Nat) : memG p q (a^k % (p : Int)) := by
  have hp := h.pq
  have hb := h.big
  have e : (a^k % (p : Int))^q % (p : Int) = 1 := by
    rw [pow_emod, ← Int.pow_mul, Nat.mul_comm, Int.pow_mul, one_pow_mod (by omega) ha.2.2]
  have r := rng (f := a^k) (m := (p : Int)) (by omega)
  refine ⟨?_, r.2, e⟩
  rcases Int.lt_or_le 0 (a^k % (p : Int)) with h2 | h2
  · exact h2
  · exfalso
    rw [show a^k % (p : Int) = 0 by omega, Int.zero_pow (by omega)] at e
    simp at e
/-- a member's powers depend on the exponent's residue alone -/
theorem Grp.residue {p q : Nat} (h : Grp p q) {a : Int} (ha : memG p q a) (k : Nat) : a^(k % q) % (p : Int) = a^k % (p : Int) := by
  have hp := h.pq
  have hb := h.big
  have e : a^k = (a^q)^(k / q) * a^(k % q) := by rw [← Int.pow_mul, ← Int.pow_add, Nat.div_add_mod]
  rw [e, ← mul_l, one_pow_mod (by omega) ha.2.2, Int.one_mul]
theorem pow_toNat (a : Int) (m : Nat) (hm : 0 < m) (k : Nat) : a^k % (m : Int) = (((a % (m : Int)).toNat^k % m : Nat) : Int) := by
  rw [← pow_emod, Int.natCast_emod, Int.natCast_pow, Int.toNat_of_nonneg (Int.emod_nonneg _ (by omega))]
theorem pr_int {p : Nat} (h : NM.Pr p) (a b : Int) (hd : (p : Int) ∣ a * b) : (p : Int) ∣ a ∨ (p : Int) ∣ b := by
  have h1 : p ∣ a.natAbs * b.natAbs := by rw [← Int.natAbs_mul]; exact Int.ofNat_dvd_left.1 hd
  have h2 : p ∣ a.natAbs ∨ p ∣ b.natAbs := by
    rcases h.2 (Nat.gcd p a.natAbs) (Nat.gcd_dvd_left _ _) with h3 | h3
    · right; exact Nat.Coprime.dvd_of_dvd_mul_left h3 h1
    · left; rw [← h3]; exact Nat.gcd_dvd_right _ _
  exact h2.imp Int.ofNat_dvd_left.2 Int.ofNat_dvd_left.2
theorem fermat_int {n g : Nat} (h : NM.Gen n g) (k : Nat) (hk : k = n - 1) (a : Int) (ha : a % (n : Int) ≠ 0) : a^k % (n : Int) = 1 := by
  have hb := h.big
  rw [pow_toNat a n (by omega)]
  have := h.fermat (a % (n : Int)).toNat (by
    have r := rng (f := a) (m := (n : Int)) (by omega)
    rw [Nat.mod_eq_of_lt (by omega)]; omega)
  rw [hk, this]; rfl
def gP : Nat := 2305843009213691579
def gQ : Nat := 1152921504606845789
theorem grp : Grp gP gQ := ⟨by decide, by decide, by decide, fermat_int NM.gen2305843009213691579 (2 * gQ) (by decide), pr_int NM.pr2305843009213691579⟩
theorem gen_Q : NM.Gen gQ 2 := NM.gen1152921504606845789
end GM
