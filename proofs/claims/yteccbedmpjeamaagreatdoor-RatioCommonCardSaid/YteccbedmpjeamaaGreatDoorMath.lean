/-
  Plain arithmetic of numbers written in bytes and in words of 64 bits: values, digits, carries, borrows, products.
  Plain arithmetic of comparing numbers word by word, of products and of quotient digits.
  Plain arithmetic of the division of two words by one, by halves of a word.
-/

namespace NM
/-- 2^64 -/
def B64 : Nat := 18446744073709551616
theorem B64_eq : B64 = 2^64 := rfl
theorem B64_pos : 0 < B64 := by decide
/-- value of big-endian bytes -/
def bv (l : List UInt8) : Nat := l.foldl (fun n b => 256*n + b.toNat) 0
/-- value of little-endian words -/
def wv : List Nat → Nat
  | [] => 0
  | x :: xs => x + B64 * wv xs
/-- the right number of a value: bytes, most significant first -/
def nb (n : Nat) : List UInt8 := if _h : n = 0 then [] else nb (n / 256) ++ [UInt8.ofNat n]
termination_by n
decreasing_by omega

theorem bv_foldl (l : List UInt8) (a : Nat) : l.foldl (fun n b => 256*n + b.toNat) a = a * 256^l.length + bv l := by
  unfold bv
  induction l generalizing a with
  | nil => simp
  | cons x xs ih =>
    simp only [List.foldl_cons, List.length_cons]
    rw [ih (256*a + x.toNat), ih (256*0 + x.toNat), Nat.pow_succ]
    simp only [Nat.add_mul, Nat.mul_zero, Nat.zero_add]
    rw [Nat.mul_comm 256 a, Nat.mul_assoc, Nat.mul_comm 256]
    omega
@[simp] theorem bv_nil : bv [] = 0 := rfl
theorem bv_cons (x : UInt8) (l : List UInt8) : bv (x :: l) = x.toNat * 256^l.length + bv l := by
  show List.foldl _ (256*0 + x.toNat) l = _
  rw [bv_foldl]; simp
theorem bv_append (a b : List UInt8) : bv (a ++ b) = bv a * 256^b.length + bv b := by
  unfold bv; rw [List.foldl_append, bv_foldl]; rfl
theorem bv_snoc (a : List UInt8) (x : UInt8) : bv (a ++ [x]) = 256 * bv a + x.toNat := by
  rw [bv_append]; simp [bv_cons]; omega
theorem bv_lt (l : List UInt8) : bv l < 256^l.length := by
  induction l with
  | nil => simp
  | cons x xs ih =>
    rw [bv_cons, List.length_cons, Nat.pow_succ]
    have := x.toNat_lt
    have h2 : x.toNat * 256^xs.length ≤ 255 * 256^xs.length := Nat.mul_le_mul_right _ (by omega)
    omega
theorem nb_zero : nb 0 = [] := by rw [nb]; simp
theorem nb_pos {n : Nat} (h : n ≠ 0) : nb n = nb (n/256) ++ [UInt8.ofNat n] := by rw [nb]; simp [h]
theorem bv_nb (n : Nat) : bv (nb n) = n := by
  induction n using Nat.strongRecOn with
  | ind n ih =>
    by_cases h : n = 0
    · subst h; rw [nb_zero]; rfl
    · rw [nb_pos h, bv_snoc, ih _ (by omega)]
      simp [UInt8.toNat_ofNat']; omega
theorem nb_inj {a b : Nat} (h : nb a = nb b) : a = b := by rw [← bv_nb a, h, bv_nb]
theorem nb_head (n : Nat) : (nb n).head? ≠ some 0 := by
  induction n using Nat.strongRecOn with
  | ind n ih =>
    by_cases h : n = 0
    · subst h; rw [nb_zero]; simp
    · rw [nb_pos h]
      by_cases h2 : n / 256 = 0
      · rw [h2, nb_zero]; simp
        intro h3
        have : (UInt8.ofNat n).toNat = 0 := by rw [h3]; rfl
        simp [UInt8.toNat_ofNat'] at this; omega
      · have := ih (n/256) (by omega)
        cases hh : nb (n/256) with
        | nil => exact absurd (by rw [← bv_nb (n/256), hh]; rfl) h2
        | cons x xs => rw [hh] at this; simpa using this
/-- zeros in front are dropped -/
def dz : List UInt8 → List UInt8
  | [] => []
  | x :: xs => if x = 0 then dz xs else x :: xs
theorem bv_dz (l : List UInt8) : bv (dz l) = bv l := by
  induction l with
  | nil => rfl
  | cons x xs ih =>
    unfold dz
    by_cases h : x = 0
    · subst h; rw [if_pos rfl, ih, bv_cons]; simp
    · rw [if_neg h]
theorem dz_head (l : List UInt8) : (dz l).head? ≠ some 0 := by
  induction l with
  | nil => simp [dz]
  | cons x xs ih => unfold dz; by_cases h : x = 0 <;> simp [h, ih]
/-- two right numbers with one value are one -/
theorem nb_unique (l : List UInt8) (h : l.head? ≠ some 0) : l = nb (bv l) := by
  have key : ∀ (k : Nat) (l : List UInt8), l.length = k → l.head? ≠ some 0 → l = nb (bv l) := by
    intro k
    induction k with
    | zero => intro l hl _; have := List.length_eq_zero_iff.1 hl; subst this; simp [nb_zero]
    | succ k ih =>
      intro l hl hh
      have hne : l ≠ [] := by intro h; subst h; simp at hl
      obtain ⟨l', x, rfl⟩ : ∃ l' x, l = l' ++ [x] := ⟨l.dropLast, l.getLast hne, (List.dropLast_concat_getLast hne).symm⟩
      have hl' : l'.length = k := by simpa using hl
      rw [bv_snoc]
      have hx := x.toNat_lt
      by_cases hz : bv l' = 0
      · by_cases hl0 : l' = []
        · subst hl0
          have hx0 : x ≠ 0 := by simpa using hh
          have : x.toNat ≠ 0 := by intro h; exact hx0 (UInt8.toNat_inj.1 (by simpa using h))
          rw [hz, nb_pos (by omega), show (256*0 + x.toNat)/256 = 0 by omega, nb_zero]
          simp
        · have hh' : l'.head? ≠ some 0 := by cases l' with | nil => exact absurd rfl hl0 | cons a b => simpa using hh
          have := ih l' hl' hh'
          rw [hz, nb_zero] at this; exact absurd this hl0
      · have hh' : l'.head? ≠ some 0 := by cases l' with | nil => simp at hz | cons a b => simpa using hh
        have := ih l' hl' hh'
        rw [nb_pos (by omega), show (256 * bv l' + x.toNat)/256 = bv l' by omega, ← this]
        congr 2
        apply UInt8.toNat_inj.1; simp
  exact key _ l rfl h
theorem dz_eq (l : List UInt8) : dz l = nb (bv l) := by rw [← bv_dz]; exact nb_unique _ (dz_head l)
theorem nb_length_le (n k : Nat) (h : n < 256^k) : (nb n).length ≤ k := by
  induction k generalizing n with
  | zero => simp at h; subst h; simp [nb_zero]
  | succ k ih =>
    by_cases h0 : n = 0
    · subst h0; simp [nb_zero]
    · rw [nb_pos h0]; simp
      apply ih; rw [Nat.pow_succ] at h; omega
theorem nb_length_lt (n k : Nat) (h : k < (nb n).length) : 256^k ≤ n := by
  apply Nat.le_of_not_lt; intro h2; have := nb_length_le n k h2; omega

theorem wv_append (a b : List Nat) : wv (a ++ b) = wv a + B64^a.length * wv b := by
  induction a with
  | nil => simp [wv]
  | cons x xs ih => simp only [List.cons_append, wv, ih, List.length_cons, Nat.pow_succ, Nat.mul_add]; rw [← Nat.mul_assoc, Nat.mul_comm (B64^xs.length)]; omega
theorem wv_snoc (a : List Nat) (x : Nat) : wv (a ++ [x]) = wv a + B64^a.length * x := by rw [wv_append]; simp [wv]
/-- all are words -/
def Wd (l : List Nat) : Prop := ∀ x ∈ l, x < B64
theorem wv_lt (l : List Nat) (h : Wd l) : wv l < B64^l.length := by
  induction l with
  | nil => simp [wv]
  | cons x xs ih =>
    have h1 := h x (by simp)
    have h2 := ih (fun y hy => h y (by simp [hy]))
    simp only [wv, List.length_cons, Nat.pow_succ]
    have : B64 * wv xs ≤ B64 * (B64^xs.length - 1) := Nat.mul_le_mul_left _ (by omega)
    rw [Nat.mul_sub, Nat.mul_one, Nat.mul_comm B64 (B64^_)] at this
    have h3 : B64 ≤ B64^xs.length * B64 := Nat.le_mul_of_pos_left _ (Nat.pow_pos B64_pos)
    omega
theorem wv_inj (a b : List Nat) (hl : a.length = b.length) (ha : Wd a) (hb : Wd b) (h : wv a = wv b) : a = b := by
  induction a generalizing b with
  | nil => cases b with | nil => rfl | cons => simp at hl
  | cons x xs ih =>
    cases b with
    | nil => simp at hl
    | cons y ys =>
      have hx := ha x (by simp)
      have hy := hb y (by simp)
      simp only [wv] at h
      have e1 : x = y := by
        have := congrArg (· % B64) h
        simp only [Nat.add_mul_mod_self_left] at this
        rwa [Nat.mod_eq_of_lt hx, Nat.mod_eq_of_lt hy] at this
      subst e1
      have e2 : wv xs = wv ys := Nat.eq_of_mul_eq_mul_left B64_pos (by omega)
      rw [ih ys (by simpa using hl) (fun z hz => ha z (by simp [hz])) (fun z hz => hb z (by simp [hz])) e2]
theorem wv_replicate (n : Nat) : wv (List.replicate n 0) = 0 := by
  induction n with | zero => rfl | succ n ih => rw [List.replicate_succ, wv, ih]; simp
theorem Wd_take {l : List Nat} (h : Wd l) (k : Nat) : Wd (l.take k) := fun x hx => h x (List.mem_of_mem_take hx)
theorem Wd_drop {l : List Nat} (h : Wd l) (k : Nat) : Wd (l.drop k) := fun x hx => h x (List.mem_of_mem_drop hx)
theorem Wd_append {a b : List Nat} (ha : Wd a) (hb : Wd b) : Wd (a ++ b) := fun x hx => by rcases List.mem_append.1 hx with h | h; exact ha x h; exact hb x h
theorem wv_split (l : List Nat) (k : Nat) (hk : k ≤ l.length) : wv l = wv (l.take k) + B64^k * wv (l.drop k) := by
  conv => lhs; rw [← List.take_append_drop k l]
  rw [wv_append, List.length_take, Nat.min_eq_left hk]
theorem wv_digit (l : List Nat) (h : Wd l) (k : Nat) : l.getD k 0 = wv l / B64^k % B64 := by
  induction l generalizing k with
  | nil => simp [wv]
  | cons x xs ih =>
    have hx := h x (by simp)
    cases k with
    | zero => simp [wv, Nat.mod_eq_of_lt hx]
    | succ k =>
      simp only [List.getD_cons_succ, wv]
      rw [ih (fun z hz => h z (by simp [hz])), Nat.pow_succ, Nat.mul_comm (B64^k), ← Nat.div_div_eq_div_mul]
      rw [Nat.add_mul_div_left _ _ B64_pos, Nat.div_eq_of_lt hx, Nat.zero_add]
theorem wv_set (l : List Nat) (k v : Nat) (h : k < l.length) : wv (l.set k v) + B64^k * l.getD k 0 = wv l + B64^k * v := by
  induction l generalizing k with
  | nil => simp at h
  | cons x xs ih =>
    cases k with
    | zero => simp [wv]; omega
    | succ k =>
      have := ih k (by simpa using h)
      simp only [List.set_cons_succ, wv, List.getD_cons_succ, Nat.pow_succ]
      have e1 : B64^k * B64 * xs.getD k 0 = B64 * (B64^k * xs.getD k 0) := by rw [Nat.mul_comm (B64^k), Nat.mul_assoc]
      have e2 : B64^k * B64 * v = B64 * (B64^k * v) := by rw [Nat.mul_comm (B64^k), Nat.mul_assoc]
      rw [e1, e2]
      have := congrArg (B64 * ·) this
      simp only [Nat.mul_add] at this
      omega
theorem Wd_set {l : List Nat} (h : Wd l) (k v : Nat) (hv : v < B64) : Wd (l.set k v) := fun x hx => by
  rcases List.mem_or_eq_of_mem_set hx with h1 | h1
  · exact h x h1
  · omega
theorem Wd_getD {l : List Nat} (h : Wd l) (k : Nat) : l.getD k 0 < B64 := by
  by_cases hk : k < l.length
  · rw [List.getD_eq_getElem?_getD, List.getElem?_eq_getElem hk]; exact h _ (List.getElem_mem hk)
  · rw [List.getD_eq_getElem?_getD, List.getElem?_eq_none (by omega)]; exact B64_pos
theorem take_succ_getD (l : List Nat) (k : Nat) (h : k < l.length) : l.take (k+1) = l.take k ++ [l.getD k 0] := by
  rw [List.take_succ_eq_append_getElem h, List.getD_eq_getElem?_getD, List.getElem?_eq_getElem h]; rfl
theorem wv_take_succ (l : List Nat) (k : Nat) (h : k < l.length) : wv (l.take (k+1)) = wv (l.take k) + B64^k * l.getD k 0 := by
  rw [take_succ_getD l k h, wv_snoc, List.length_take, Nat.min_eq_left (by omega)]
/-! add -/
theorem add_step (X x0 y : List Nat) (k c : Nat) (hk : k < X.length) (hy : k < y.length) (hX : Wd X) (hY : Wd y) (hc : c ≤ 1)
    (hv : wv X + c * B64^k = wv x0 + wv (y.take k)) :
    wv (X.set k ((X.getD k 0 + y.getD k 0 + c) % B64)) + ((X.getD k 0 + y.getD k 0 + c) / B64) * B64^(k+1) = wv x0 + wv (y.take (k+1)) ∧
    (X.getD k 0 + y.getD k 0 + c) / B64 ≤ 1 := by
  have h1 := Wd_getD hX k
  have h2 := Wd_getD hY k
  refine ⟨?_, ?_⟩
  · have e := wv_set X k ((X.getD k 0 + y.getD k 0 + c) % B64) hk
    rw [wv_take_succ y k hy, ← Nat.add_assoc, ← hv]
    have d := Nat.div_add_mod (X.getD k 0 + y.getD k 0 + c) B64
    generalize (X.getD k 0 + y.getD k 0 + c) % B64 = r at *
    generalize (X.getD k 0 + y.getD k 0 + c) / B64 = q at *
    have d2 := congrArg (B64^k * ·) d
    simp only [Nat.mul_add] at d2
    rw [Nat.pow_succ, Nat.mul_comm q, Nat.mul_assoc (B64^k), Nat.mul_comm c]
    omega
  · have : (X.getD k 0 + y.getD k 0 + c) < 2 * B64 := by omega
    have := (Nat.div_lt_iff_lt_mul B64_pos).2 this
    omega
/-- a carry that goes on -/
theorem carry_step (X : List Nat) (k c V : Nat) (hk : k < X.length) (hX : Wd X) (hc : c < B64) (hv : wv X + c * B64^k = V) :
    wv (X.set k ((X.getD k 0 + c) % B64)) + ((X.getD k 0 + c) / B64) * B64^(k+1) = V ∧ (X.getD k 0 + c) / B64 ≤ 1 := by
  have h1 := Wd_getD hX k
  refine ⟨?_, ?_⟩
  · have e := wv_set X k ((X.getD k 0 + c) % B64) hk
    rw [← hv]
    have d := Nat.div_add_mod (X.getD k 0 + c) B64
    generalize (X.getD k 0 + c) % B64 = r at *
    generalize (X.getD k 0 + c) / B64 = q at *
    have d2 := congrArg (B64^k * ·) d
    simp only [Nat.mul_add] at d2
    rw [Nat.pow_succ, Nat.mul_comm q, Nat.mul_assoc (B64^k), Nat.mul_comm c]
    omega
  · have : (X.getD k 0 + c) < 2 * B64 := by omega
    have := (Nat.div_lt_iff_lt_mul B64_pos).2 this
    omega
/-! subtract -/
theorem sub_digit (x y c : Nat) (hx : x < B64) (hy : y < B64) (hc : c ≤ 1) :
    (x + B64 - y - c) % B64 + y + c = x + (if x < y + c then 1 else 0) * B64 := by
  split
  · rw [Nat.mod_eq_of_lt (by omega)]; omega
  · have : x + B64 - y - c = (x - y - c) + B64 := by omega
    rw [this, Nat.add_mod_right, Nat.mod_eq_of_lt (by omega)]; omega
theorem sub_step (X : List Nat) (k c y V U : Nat) (hk : k < X.length) (hX : Wd X) (hy : y < B64) (hc : c ≤ 1)
    (hv : wv X + U = V + c * B64^k) :
    wv (X.set k ((X.getD k 0 + B64 - y - c) % B64)) + (U + B64^k * y) = V + (if X.getD k 0 < y + c then 1 else 0) * B64^(k+1) := by
  have h1 := Wd_getD hX k
  have e := wv_set X k ((X.getD k 0 + B64 - y - c) % B64) hk
  have d := sub_digit (X.getD k 0) y c h1 hy hc
  generalize (X.getD k 0 + B64 - y - c) % B64 = r at *
  generalize (if X.getD k 0 < y + c then 1 else 0) = q at *
  have d2 := congrArg (B64^k * ·) d
  simp only [Nat.mul_add] at d2
  rw [Nat.pow_succ]
  have e1 : q * (B64^k * B64) = B64^k * (q * B64) := by rw [Nat.mul_comm q, Nat.mul_assoc, Nat.mul_comm B64]
  rw [e1]
  have e2 : c * B64^k = B64^k * c := Nat.mul_comm _ _
  omega
/-! products -/
theorem mul_digit (x y d c : Nat) (hx : x < B64) (hy : y < B64) (hd : d < B64) (hc : c < B64) : (x + y * d + c) / B64 < B64 := by
  apply (Nat.div_lt_iff_lt_mul B64_pos).2
  have : y * d ≤ (B64 - 1) * (B64 - 1) := Nat.mul_le_mul (by omega) (by omega)
  have e : (B64 - 1) * (B64 - 1) + (B64 - 1) + (B64 - 1) < B64 * B64 := by decide
  omega
theorem mulAdd_step (X x0 y : List Nat) (k c d : Nat) (hk : k < X.length) (hy : k < y.length)
    (hv : wv X + c * B64^k = wv x0 + d * wv (y.take k)) :
    wv (X.set k ((X.getD k 0 + y.getD k 0 * d + c) % B64)) + ((X.getD k 0 + y.getD k 0 * d + c) / B64) * B64^(k+1) = wv x0 + d * wv (y.take (k+1)) := by
  have e := wv_set X k ((X.getD k 0 + y.getD k 0 * d + c) % B64) hk
  have dd := Nat.div_add_mod (X.getD k 0 + y.getD k 0 * d + c) B64
  generalize (X.getD k 0 + y.getD k 0 * d + c) % B64 = r at *
  generalize (X.getD k 0 + y.getD k 0 * d + c) / B64 = q at *
  have d2 := congrArg (B64^k * ·) dd
  rw [wv_take_succ y k hy, Nat.mul_add, ← Nat.add_assoc, ← hv]
  simp only [Nat.mul_add] at d2
  rw [Nat.pow_succ]
  have e1 : q * (B64^k * B64) = B64^k * (B64 * q) := by rw [Nat.mul_comm q, Nat.mul_assoc]
  have e2 : d * (B64^k * y.getD k 0) = B64^k * (y.getD k 0 * d) := by rw [Nat.mul_left_comm, Nat.mul_comm d]
  rw [e1, e2, Nat.mul_comm c]
  omega
/-! words and bytes -/
theorem B64_pow256 : B64 = 256^8 := by decide
theorem pow_place (q r : Nat) : 256^(8*q+r) = B64^q * 256^r := by rw [Nat.pow_add, Nat.pow_mul, B64_pow256]
theorem or_step (a c s : Nat) (hc : c < 256) : (2^(s+8) * a) ||| (c * 2^s) = 2^(s+8) * a + c * 2^s := by
  symm
  apply Nat.two_pow_add_eq_or_of_lt
  rw [Nat.pow_add, Nat.mul_comm]
  exact Nat.mul_lt_mul_of_pos_left (by omega) (Nat.pow_pos (by omega))
theorem pow256_two (r : Nat) : 256^r = 2^(r*8) := by rw [Nat.mul_comm, Nat.pow_mul]
theorem words_step (X : List Nat) (V place c : Nat) (hX : Wd X) (hq : place/8 < X.length) (hv : wv X = V * 256^(place+1)) (hc : c < 256) :
    X.getD (place/8) 0 ||| (c * 2^(place%8*8)) = X.getD (place/8) 0 + c * 2^(place%8*8) ∧
    X.getD (place/8) 0 + c * 2^(place%8*8) < B64 ∧
    wv (X.set (place/8) (X.getD (place/8) 0 + c * 2^(place%8*8))) = (256*V + c) * 256^place := by
  have hr : place % 8 < 8 := Nat.mod_lt _ (by omega)
  have hp : place = 8*(place/8) + place%8 := (Nat.div_add_mod place 8).symm
  have e1 : X.getD (place/8) 0 = 256^(place%8+1) * (V % 256^(7 - place%8)) := by
    rw [wv_digit X hX, hv]
    conv => lhs; rw [show place + 1 = 8*(place/8) + (place%8+1) by omega, pow_place]
    rw [Nat.mul_left_comm, Nat.mul_div_cancel_left _ (Nat.pow_pos B64_pos)]
    rw [Nat.mul_comm V]
    rw [show B64 = 256^(place%8+1) * 256^(7 - place%8) by rw [← Nat.pow_add, B64_pow256]; congr 1; omega]
    rw [Nat.mul_mod_mul_left]
  have e2 : (256:Nat)^(place%8+1) = 2^(place%8*8+8) := by rw [pow256_two]; congr 1; omega
  have hset := wv_set X (place/8) (X.getD (place/8) 0 + c * 2^(place%8*8)) hq
  refine ⟨?_, ?_, ?_⟩
  · rw [e1, e2]; exact or_step _ _ _ hc
  · rw [e1, show B64 = 256^(place%8+1) * 256^(7 - place%8) by rw [← Nat.pow_add, B64_pow256]; congr 1; omega]
    have h1 : V % 256^(7 - place%8) + 1 ≤ 256^(7 - place%8) := Nat.mod_lt _ (Nat.pow_pos (by omega))
    have h2 : 256^(place%8+1) * (V % 256^(7 - place%8) + 1) ≤ 256^(place%8+1) * 256^(7 - place%8) := Nat.mul_le_mul_left _ h1
    have h3 : c * 2^(place%8*8) < 256^(place%8+1) := by
      rw [Nat.pow_succ, pow256_two, Nat.mul_comm]; exact Nat.mul_lt_mul_of_pos_left (by omega) (Nat.pow_pos (by omega))
    rw [Nat.mul_add, Nat.mul_one] at h2
    omega
  · have e3 : B64^(place/8) * (c * 2^(place%8*8)) = c * 256^place := by
      rw [← pow256_two, Nat.mul_left_comm, ← pow_place, ← hp]
    rw [Nat.mul_add, e3] at hset
    rw [Nat.pow_succ] at hv
    rw [Nat.add_mul, show 256 * V * 256^place = V * (256^place * 256) by rw [Nat.mul_comm 256 V, Nat.mul_assoc, Nat.mul_comm 256], ← hv]
    omega
/-- byte p of a number -/
def byteAt (N p : Nat) : Nat := N / 256^p % 256
theorem byte_of_word (X : List Nat) (hX : Wd X) (p : Nat) : X.getD (p/8) 0 / 2^(p%8*8) % 256 = byteAt (wv X) p := by
  have hr : p % 8 < 8 := Nat.mod_lt _ (by omega)
  have hp : p = 8*(p/8) + p%8 := (Nat.div_add_mod p 8).symm
  unfold byteAt
  conv => rhs; rw [hp, pow_place, ← Nat.div_div_eq_div_mul]
  rw [wv_digit X hX, ← pow256_two]
  rw [show B64 = 256^(p%8) * 256^(8 - p%8) by rw [← Nat.pow_add, B64_pow256]; congr 1; omega]
  rw [Nat.mod_mul_right_div_self]
  apply Nat.mod_mod_of_dvd
  exact ⟨256^(7 - p%8), by rw [← Nat.pow_succ']; congr 1; omega⟩
/-- the bytes of a number, n of them, the most significant one first -/
def bytesN (n N : Nat) : List UInt8 := (List.range n).map (fun j => UInt8.ofNat (byteAt N (n-1-j)))
theorem bytesN_length (n N : Nat) : (bytesN n N).length = n := by simp [bytesN]
theorem bytesN_get (n N j : Nat) (h : j < n) : (bytesN n N)[j]? = some (UInt8.ofNat (byteAt N (n-1-j))) := by
  simp [bytesN, h]
theorem bytesN_succ (n N : Nat) : bytesN (n+1) N = bytesN n (N/256) ++ [UInt8.ofNat (byteAt N 0)] := by
  unfold bytesN
  rw [List.range_succ, List.map_append]
  congr 1
  · apply List.map_congr_left
    intro j hj
    have hj := List.mem_range.1 hj
    congr 1
    unfold byteAt
    rw [show n + 1 - 1 - j = (n - 1 - j) + 1 by omega, Nat.pow_succ, Nat.mul_comm, Nat.div_div_eq_div_mul]
  · simp
theorem bv_bytesN (n N : Nat) : bv (bytesN n N) = N % 256^n := by
  induction n generalizing N with
  | zero => simp [bytesN, Nat.mod_one]
  | succ n ih =>
    rw [bytesN_succ, bv_snoc, ih]
    have : (UInt8.ofNat (byteAt N 0)).toNat = N % 256 := by simp [byteAt]
    rw [this, Nat.pow_succ, Nat.mul_comm (256^n), Nat.mod_mul]; omega
/-! trimmed -/
def Tr (l : List Nat) : Prop := l.getD (l.length - 1) 1 ≠ 0
theorem Tr_nil : Tr [] := by simp [Tr]
theorem Tr_lt {l : List Nat} (h : Tr l) (hl : l ≠ []) : B64^(l.length-1) ≤ wv l := by
  have hlen : 0 < l.length := List.length_pos_iff.2 hl
  have hs := wv_split l (l.length-1) (by omega)
  have hd : l.drop (l.length-1) = [l.getD (l.length-1) 1] := by
    rw [List.drop_eq_getElem_cons (by omega), List.getD_eq_getElem?_getD, List.getElem?_eq_getElem (by omega)]
    simp [show l.length - 1 + 1 = l.length by omega]
  rw [hd] at hs; simp only [wv, Nat.mul_zero, Nat.add_zero] at hs
  have hp : 1 ≤ l.getD (l.length-1) 1 := by unfold Tr at h; omega
  have := Nat.mul_le_mul_left (B64^(l.length-1)) hp
  omega
theorem Tr_pos {l : List Nat} (h : Tr l) (hl : l ≠ []) : 0 < wv l := Nat.lt_of_lt_of_le (Nat.pow_pos B64_pos) (Tr_lt h hl)
theorem Tr_len_lt {x y : List Nat} (hx : Wd x) (hy : Tr y) (h : x.length < y.length) : wv x < wv y := by
  have hy0 : y ≠ [] := by intro h2; subst h2; simp at h
  have h1 := wv_lt x hx
  have h2 := Tr_lt hy hy0
  have h3 : B64^x.length ≤ B64^(y.length-1) := Nat.pow_le_pow_right B64_pos (by omega)
  omega
theorem Tr_len_le {x y : List Nat} (hy : Wd y) (hx : Tr x) (h : wv x ≤ wv y) : x.length ≤ y.length := by
  apply Nat.le_of_not_lt; intro h2
  have := Tr_len_lt hy hx h2; omega
theorem wv_zero_iff {l : List Nat} (h : Tr l) : wv l = 0 ↔ l = [] := by
  constructor
  · intro h2; apply Classical.byContradiction; intro h3; have := Tr_pos h h3; omega
  · intro h2; subst h2; rfl
theorem wv_zeros (l : List Nat) (h : ∀ j, j < l.length → l.getD j 0 = 0) : wv l = 0 := by
  induction l with
  | nil => rfl
  | cons x xs ih =>
    have h0 : x = 0 := by have := h 0 (by simp); simpa using this
    have := ih (fun j hj => by have := h (j+1) (by simpa using hj); simpa using this)
    simp [wv, h0, this]
theorem wv_take_zeros (l : List Nat) (k : Nat) (hk : k ≤ l.length) (h : ∀ j, k ≤ j → j < l.length → l.getD j 0 = 0) : wv (l.take k) = wv l := by
  rw [wv_split l k hk, wv_zeros (l.drop k)]
  · simp
  · intro j hj
    have := h (k+j) (by omega) (by simp at hj; omega)
    simpa [List.getD_eq_getElem?_getD, List.getElem?_drop] using this
theorem Tr_take (l : List Nat) (k : Nat) (hk : k ≤ l.length) (h : k = 0 ∨ l.getD (k-1) 0 ≠ 0) : Tr (l.take k) := by
  unfold Tr
  rw [List.length_take, Nat.min_eq_left hk]
  rcases h with h | h
  · subst h; simp
  · by_cases h0 : k = 0
    · subst h0; simp
    · rw [List.getD_eq_getElem?_getD, List.getElem?_take_of_lt (by omega), List.getElem?_eq_getElem (by omega)]
      rw [List.getD_eq_getElem?_getD, List.getElem?_eq_getElem (by omega)] at h
      simpa using h
theorem Tr_unique {x y : List Nat} (hx : Wd x) (hy : Wd y) (tx : Tr x) (ty : Tr y) (h : wv x = wv y) : x = y :=
  wv_inj x y (Nat.le_antisymm (Tr_len_le hy tx (by omega)) (Tr_len_le hx ty (by omega))) hx hy h
end NM
namespace NM
/-! compare -/
theorem wv_drop_cons (x : List Nat) (k : Nat) (h : k < x.length) : wv (x.drop k) = x.getD k 0 + B64 * wv (x.drop (k+1)) := by
  rw [List.drop_eq_getElem_cons h, wv, List.getD_eq_getElem?_getD, List.getElem?_eq_getElem h]; rfl
theorem cmp_lt (x y : List Nat) (k : Nat) (hl : x.length = y.length) (hk : k < x.length) (hx : Wd x)
    (hd : wv (x.drop (k+1)) = wv (y.drop (k+1))) (h : x.getD k 0 < y.getD k 0) : wv x < wv y := by
  rw [wv_split x k (by omega), wv_split y k (by omega), wv_drop_cons x k hk, wv_drop_cons y k (by omega), ← hd]
  have h1 := wv_lt (x.take k) (Wd_take hx k)
  rw [List.length_take, Nat.min_eq_left (by omega)] at h1
  have h2 : B64^k * (x.getD k 0 + 1) ≤ B64^k * y.getD k 0 := Nat.mul_le_mul_left _ h
  simp only [Nat.mul_add, Nat.mul_one] at *
  omega
theorem cmp_step (x y : List Nat) (k : Nat) (hl : x.length = y.length) (hk : k < x.length)
    (hd : wv (x.drop (k+1)) = wv (y.drop (k+1))) (h : x.getD k 0 = y.getD k 0) : wv (x.drop k) = wv (y.drop k) := by
  rw [wv_drop_cons x k hk, wv_drop_cons y k (by omega), hd, h]
/-! products -/
theorem product_room (x y : List Nat) (i d S n : Nat) (hx : Wd x) (hy : Wd y) (hi : i < y.length) (hd : d < B64) (hn : n = x.length + y.length)
    (hS : S = wv x * wv (y.take i)) : S / B64^i + d * wv x < B64^(n - i) := by
  have h1 := wv_lt x hx
  have h2 := wv_lt (y.take i) (Wd_take hy i)
  rw [List.length_take, Nat.min_eq_left (by omega)] at h2
  have h3 : S / B64^i ≤ wv x := by
    apply Nat.div_le_of_le_mul
    rw [hS, Nat.mul_comm]
    exact Nat.mul_le_mul_right _ (by omega)
  have h4 : d * wv x ≤ (B64 - 1) * wv x := Nat.mul_le_mul_right _ (by omega)
  have h5 : (B64 - 1) * wv x + wv x = B64 * wv x := by
    rw [Nat.sub_mul, Nat.one_mul]; exact Nat.sub_add_cancel (Nat.le_mul_of_pos_left _ B64_pos)
  have h6 : B64 * wv x < B64 * B64^x.length := Nat.mul_lt_mul_of_pos_left h1 B64_pos
  have h7 : B64 * B64^x.length ≤ B64^(n-i) := by rw [← Nat.pow_succ']; exact Nat.pow_le_pow_right B64_pos (by omega)
  omega
theorem product_step (x y Sl : List Nat) (i : Nat) (Z : List Nat) (hi : i < y.length) (hSl : i ≤ Sl.length)
    (hS : wv Sl = wv x * wv (y.take i)) (hZ : wv Z = wv (Sl.drop i) + y.getD i 0 * wv x) :
    wv (Sl.take i ++ Z) = wv x * wv (y.take (i+1)) := by
  rw [wv_append, List.length_take, Nat.min_eq_left hSl, hZ, wv_take_succ y i hi, Nat.mul_add, Nat.mul_add, ← hS]
  have := wv_split Sl i hSl
  rw [Nat.mul_left_comm (wv x), Nat.mul_comm (wv x) (y.getD i 0)]
  omega
theorem drop_div (l : List Nat) (h : Wd l) (k : Nat) : wv (l.drop k) = wv l / B64^k := by
  by_cases hk : k ≤ l.length
  · rw [wv_split l k hk, Nat.add_mul_div_left _ _ (Nat.pow_pos B64_pos), Nat.div_eq_of_lt, Nat.zero_add]
    have := wv_lt (l.take k) (Wd_take h k)
    rwa [List.length_take, Nat.min_eq_left hk] at this
  · rw [List.drop_eq_nil_of_le (by omega), Nat.div_eq_of_lt]
    · rfl
    · exact Nat.lt_of_lt_of_le (wv_lt l h) (Nat.pow_le_pow_right B64_pos (by omega))
/-! a digit of a quotient, by halves -/
theorem dd_good (β yn1 yn0 u un1 q1 rhat : Nat) (h : q1*yn1 + rhat = u) (hg : q1*yn0 ≤ β*rhat + un1) (hy : 0 < yn1*β + yn0) :
    q1 ≤ (u*β + un1) / (yn1*β + yn0) := by
  apply (Nat.le_div_iff_mul_le hy).2
  subst h
  rw [Nat.mul_add, ← Nat.mul_assoc, Nat.add_mul]
  rw [Nat.mul_comm rhat]
  omega
theorem dd_bad (β yn1 yn0 u un1 q1 rhat : Nat) (h : q1*yn1 + rhat = u) (hb : β ≤ q1 ∨ β*rhat + un1 < q1*yn0)
    (hu : u < yn1*β + yn0) (h1 : un1 < β) : (u*β + un1) / (yn1*β + yn0) < q1 := by
  have hy : 0 < yn1*β + yn0 := by omega
  apply (Nat.div_lt_iff_lt_mul hy).2
  rcases hb with hb | hb
  · have a1 : (u+1)*β ≤ (yn1*β + yn0)*β := Nat.mul_le_mul_right _ hu
    have a2 : (yn1*β + yn0)*β ≤ (yn1*β + yn0)*q1 := Nat.mul_le_mul_left _ hb
    rw [Nat.add_mul] at a1
    rw [Nat.mul_comm q1]
    omega
  · subst h
    rw [Nat.mul_add, ← Nat.mul_assoc, Nat.add_mul]
    rw [Nat.mul_comm rhat]
    omega
end NM
namespace NM
/-- the quotient digit is at most the estimate -/
theorem dd_start (β y1 y0 u un1 : Nat) (hy : 0 < y1) (hβ : 0 < β) (h1 : un1 < β) : (u*β + un1) / (y1*β + y0) ≤ u / y1 := by
  have e : u / y1 = (u*β + un1) / (y1*β) := by
    rw [Nat.mul_comm y1 β, ← Nat.div_div_eq_div_mul, Nat.mul_comm u β, Nat.mul_add_div hβ, Nat.div_eq_of_lt h1, Nat.add_zero]
  rw [e]
  exact Nat.div_le_div_left (Nat.le_add_right _ _) (Nat.mul_pos hy hβ)
/-- an estimate that went past the half -/
theorem dd_break (β y1 y0 u un1 q r : Nat) (h : q*y1 + r = u) (hq : q ≤ β) (hr : β ≤ r) (hy0 : y0 < β) (hy : 0 < y1*β + y0) : q ≤ (u*β + un1) / (y1*β + y0) := by
  apply dd_good β y1 y0 u un1 q r h _ hy
  have h1 : q * y0 ≤ β * y0 := Nat.mul_le_mul_right _ hq
  have h2 : β * y0 ≤ β * r := Nat.mul_le_mul_left _ (by omega)
  omega
theorem dd_lt (β Y u un1 : Nat) (hu : u < Y) (h1 : un1 < β) : (u*β + un1) / Y < β := by
  apply (Nat.div_lt_iff_lt_mul (by omega)).2
  have : (u+1)*β ≤ Y*β := Nat.mul_le_mul_right _ hu
  rw [Nat.add_mul] at this
  rw [Nat.mul_comm β]; omega
/-- the estimate is at most the half and one -/
theorem dd_cap (β y1 y0 u q r : Nat) (h : q*y1 + r = u) (hu : u < y1*β + y0) (hy0 : y0 < β) (h2 : β ≤ 2*y1) : q ≤ β + 1 := by
  apply Nat.le_of_not_lt; intro h3
  have : (β+2)*y1 ≤ q*y1 := Nat.mul_le_mul_right _ h3
  rw [Nat.add_mul, Nat.mul_comm β] at this
  omega
theorem shl_split (lo s : Nat) (hs : s ≤ 64) : lo * 2^s = lo / 2^(64-s) * 2^64 + lo * 2^s % 2^64 := by
  have e : lo / 2^(64-s) = lo * 2^s / 2^64 := by
    have : (2:Nat)^64 = 2^(64-s) * 2^s := by rw [← Nat.pow_add]; congr 1; omega
    rw [this, Nat.mul_div_mul_right _ _ (Nat.pow_pos (by omega))]
  rw [e]; have := Nat.div_add_mod (lo * 2^s) (2^64); omega
structure DV (hi lo y s Y y1 y0 u a un1 un0 Q1 R1 Q0 R0 : Nat) : Prop where
  hY : Y = y * 2^s
  Ylt : Y < 18446744073709551616
  h1 : y1 = Y / 4294967296
  h0 : y0 = Y % 4294967296
  y1lo : 2147483648 ≤ y1
  y1hi : y1 < 4294967296
  y0hi : y0 < 4294967296
  hor : (hi * 2^s) ||| (lo / 2^(64-s)) = u
  his : hi * 2^s < 18446744073709551616
  uY : u < Y
  ha : a = lo * 2^s % 18446744073709551616
  hun1 : un1 = a / 4294967296
  hun0 : un0 = a % 4294967296
  un1lt : un1 < 4294967296
  un0lt : un0 < 4294967296
  YY : Y = y1 * 4294967296 + y0
  q1 : Q1 = (u * 4294967296 + un1) / (y1 * 4294967296 + y0)
  r1 : R1 + Q1 * Y = u * 4294967296 + un1
  R1Y : R1 < Y
  q0 : Q0 = (R1 * 4294967296 + un0) / (y1 * 4294967296 + y0)
  r0 : R0 + Q0 * Y = R1 * 4294967296 + un0
  R0Y : R0 < Y
  Q1lt : Q1 < 4294967296
  Q0lt : Q0 < 4294967296
  quo : Q1 * 4294967296 + Q0 = (hi * 18446744073709551616 + lo) / y
  rem : R0 / 2^s = (hi * 18446744073709551616 + lo) % y
theorem dv_exists (hi lo y s : Nat) (hlo : lo < 18446744073709551616) (hhi : hi < y) (hs : s ≤ 63) (h63 : 9223372036854775808 ≤ y * 2^s) (h64 : y * 2^s < 18446744073709551616) :
    ∃ Y y1 y0 u a un1 un0 Q1 R1 Q0 R0, DV hi lo y s Y y1 y0 u a un1 un0 Q1 R1 Q0 R0 := by
  obtain ⟨Y, hY⟩ : ∃ Y, Y = y * 2^s := ⟨_, rfl⟩
  obtain ⟨l1, hl1⟩ : ∃ l1, l1 = lo / 2^(64-s) := ⟨_, rfl⟩
  obtain ⟨a, ha⟩ : ∃ a, a = lo * 2^s % 18446744073709551616 := ⟨_, rfl⟩
  obtain ⟨u, hu⟩ : ∃ u, u = hi * 2^s + l1 := ⟨_, rfl⟩
  have hsp := shl_split lo s (by omega)
  have e64 : (2:Nat)^64 = 18446744073709551616 := by decide
  rw [e64, ← hl1, ← ha] at hsp
  have hpos : 0 < 2^s := Nat.pow_pos (by omega)
  have hN : (hi * 18446744073709551616 + lo) * 2^s = u * 18446744073709551616 + a := by
    rw [Nat.add_mul, hsp, hu, Nat.add_mul, Nat.mul_right_comm]; omega
  have hNlt : hi * 18446744073709551616 + lo < y * 18446744073709551616 := by omega
  have uY : u < Y := by
    have h1 : (hi * 18446744073709551616 + lo) * 2^s < (y * 18446744073709551616) * 2^s := Nat.mul_lt_mul_of_pos_right hNlt hpos
    rw [hN, Nat.mul_right_comm, ← hY] at h1
    omega
  have hla : a < 18446744073709551616 := by rw [ha]; exact Nat.mod_lt _ (by decide)
  have l1lt : l1 < 2^s := by
    rw [hl1]
    apply (Nat.div_lt_iff_lt_mul (Nat.pow_pos (by omega))).2
    rw [← Nat.pow_add, show s + (64 - s) = 64 by omega]; omega
  rw [← hY] at h63 h64
  have hYY : Y = Y / 4294967296 * 4294967296 + Y % 4294967296 := by omega
  have hYp : 0 < Y := by omega
  obtain ⟨Q1, hQ1⟩ : ∃ Q1, Q1 = (u * 4294967296 + a / 4294967296) / Y := ⟨_, rfl⟩
  obtain ⟨R1, hR1⟩ : ∃ R1, R1 = (u * 4294967296 + a / 4294967296) % Y := ⟨_, rfl⟩
  obtain ⟨Q0, hQ0⟩ : ∃ Q0, Q0 = (R1 * 4294967296 + a % 4294967296) / Y := ⟨_, rfl⟩
  obtain ⟨R0, hR0⟩ : ∃ R0, R0 = (R1 * 4294967296 + a % 4294967296) % Y := ⟨_, rfl⟩
  have m1 := Nat.div_add_mod (u * 4294967296 + a / 4294967296) Y
  have m0 := Nat.div_add_mod (R1 * 4294967296 + a % 4294967296) Y
  rw [← hQ1, ← hR1, Nat.mul_comm] at m1
  rw [← hQ0, ← hR0, Nat.mul_comm] at m0
  have R1Y : R1 < Y := by rw [hR1]; exact Nat.mod_lt _ hYp
  have R0Y : R0 < Y := by rw [hR0]; exact Nat.mod_lt _ hYp
  have key : (hi * 18446744073709551616 + lo) * 2^s = (Q1 * 4294967296 + Q0) * Y + R0 := by
    rw [hN, Nat.add_mul, Nat.mul_right_comm]
    clear hQ1 hR1 hQ0 hR0 hN hsp hYY hla hu hl1 ha
    generalize Q1 * Y = P at m1 ⊢
    generalize Q0 * Y = S at m0 ⊢
    generalize hA1 : a / 4294967296 = A1 at m1 m0
    generalize hA0 : a % 4294967296 = A0 at m0
    have hA : a = A1 * 4294967296 + A0 := by omega
    clear hA1 hA0
    omega
  have hdvd : R0 = (hi * 18446744073709551616 + lo - (Q1 * 4294967296 + Q0) * y) * 2^s := by
    rw [Nat.sub_mul, key, Nat.mul_assoc, ← hY]; omega
  have hle : (Q1 * 4294967296 + Q0) * y ≤ hi * 18446744073709551616 + lo := by
    refine Nat.le_of_mul_le_mul_right (c := 2^s) ?_ hpos
    rw [key, Nat.mul_assoc, ← hY]; omega
  obtain ⟨r, hr⟩ : ∃ r, r = hi * 18446744073709551616 + lo - (Q1 * 4294967296 + Q0) * y := ⟨_, rfl⟩
  rw [← hr] at hdvd
  have hry : r < y := by
    apply Nat.lt_of_mul_lt_mul_right (a := 2^s)
    rw [← hdvd, ← hY]; exact R0Y
  have hNr : hi * 18446744073709551616 + lo = (Q1 * 4294967296 + Q0) * y + r := by omega
  refine ⟨Y, Y / 4294967296, Y % 4294967296, u, a, a / 4294967296, a % 4294967296, Q1, R1, Q0, R0, hY, h64, rfl, rfl, by omega, by omega, by omega, ?_, by omega, uY, ha, rfl, rfl, by omega, by omega, hYY, by rw [← hYY]; exact hQ1, by omega, R1Y, by rw [← hYY]; exact hQ0, by omega, R0Y,
    by rw [hQ1]; exact dd_lt _ _ _ _ uY (by omega), by rw [hQ0]; exact dd_lt _ _ _ _ R1Y (by omega), ?_, ?_⟩
  · rw [← hl1, hu, Nat.mul_comm hi]; exact (Nat.two_pow_add_eq_or_of_lt l1lt hi).symm
  · rw [hNr, Nat.mul_comm _ y, Nat.mul_add_div (by omega), Nat.div_eq_of_lt hry, Nat.add_zero]
  · rw [hNr, Nat.mul_comm _ y, Nat.mul_add_mod, Nat.mod_eq_of_lt hry, hdvd, Nat.mul_div_cancel _ hpos]
end NM
