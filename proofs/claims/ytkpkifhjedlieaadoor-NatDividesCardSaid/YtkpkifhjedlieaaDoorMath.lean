/-
  Plain arithmetic of numbers written in bytes and in words of 64 bits: values, digits, carries, borrows, products.
-/
namespace NM
/-- 2^64 -/
def B64 : Nat := 18446744073709551616
theorem B64_eq : B64 = 2^64 := rfl
theorem B64_pos : 0 < B64 := by decide
/-- value of big-endian bytes -/
def bv (l : List UInt8) : Nat := l.foldl (fun n b => 256*n + b.toNat) 0
/-- value of little-endian words -/
def wv : List Nat → Nat
  | [] => 0
  | x :: xs => x + B64 * wv xs
/-- the right number of a value: bytes, most significant first -/
def nb (n : Nat) : List UInt8 := if _h : n = 0 then [] else nb (n / 256) ++ [UInt8.ofNat n]
termination_by n
decreasing_by omega

theorem bv_foldl (l : List UInt8) (a : Nat) : l.foldl (fun n b => 256*n + b.toNat) a = a * 256^l.length + bv l := by
  unfold bv
  induction l generalizing a with
  | nil => simp
  | cons x xs ih =>
    simp only [List.foldl_cons, List.length_cons]
    rw [ih (256*a + x.toNat), ih (256*0 + x.toNat), Nat.pow_succ]
    simp only [Nat.add_mul, Nat.mul_zero, Nat.zero_add]
    rw [Nat.mul_comm 256 a, Nat.mul_assoc, Nat.mul_comm 256]
    omega
@[simp] theorem bv_nil : bv [] = 0 := rfl
theorem bv_cons (x : UInt8) (l : List UInt8) : bv (x :: l) = x.toNat * 256^l.length + bv l := by
  show List.foldl _ (256*0 + x.toNat) l = _
  rw [bv_foldl]; simp
theorem bv_append (a b : List UInt8) : bv (a ++ b) = bv a * 256^b.length + bv b := by
  unfold bv; rw [List.foldl_append, bv_foldl]; rfl
theorem bv_snoc (a : List UInt8) (x : UInt8) : bv (a ++ [x]) = 256 * bv a + x.toNat := by
  rw [bv_append]; simp [bv_cons]; omega
theorem bv_lt (l : List UInt8) : bv l < 256^l.length := by
  induction l with
  | nil => simp
  | cons x xs ih =>
    rw [bv_cons, List.length_cons, Nat.pow_succ]
    have := x.toNat_lt
    have h2 : x.toNat * 256^xs.length ≤ 255 * 256^xs.length := Nat.mul_le_mul_right _ (by omega)
    omega
theorem nb_zero : nb 0 = [] := by rw [nb]; simp
theorem nb_pos {n : Nat} (h : n ≠ 0) : nb n = nb (n/256) ++ [UInt8.ofNat n] := by rw [nb]; simp [h]
theorem bv_nb (n : Nat) : bv (nb n) = n := by
  induction n using Nat.strongRecOn with
  | ind n ih =>
    by_cases h : n = 0
    · subst h; rw [nb_zero]; rfl
    · rw [nb_pos h, bv_snoc, ih _ (by omega)]
      simp [UInt8.toNat_ofNat']; omega
theorem nb_inj {a b : Nat} (h : nb a = nb b) : a = b := by rw [← bv_nb a, h, bv_nb]
theorem nb_head (n : Nat) : (nb n).head? ≠ some 0 := by
  induction n using Nat.strongRecOn with
  | ind n ih =>
    by_cases h : n = 0
    · subst h; rw [nb_zero]; simp
    · rw [nb_pos h]
      by_cases h2 : n / 256 = 0
      · rw [h2, nb_zero]; simp
        intro h3
        have : (UInt8.ofNat n).toNat = 0 := by rw [h3]; rfl
        simp [UInt8.toNat_ofNat'] at this; omega
      · have := ih (n/256) (by omega)
        cases hh : nb (n/256) with
        | nil => exact absurd (by rw [← bv_nb (n/256), hh]; rfl) h2
        | cons x xs => rw [hh] at this; simpa using this
/-- zeros in front are dropped -/
def dz : List UInt8 → List UInt8
  | [] => []
  | x :: xs => if x = 0 then dz xs else x :: xs
theorem bv_dz (l : List UInt8) : bv (dz l) = bv l := by
  induction l with
  | nil => rfl
  | cons x xs ih =>
    unfold dz
    by_cases h : x = 0
    · subst h; rw [if_pos rfl, ih, bv_cons]; simp
    · rw [if_neg h]
theorem dz_head (l : List UInt8) : (dz l).head? ≠ some 0 := by
  induction l with
  | nil => simp [dz]
  | cons x xs ih => unfold dz; by_cases h : x = 0 <;> simp [h, ih]
/-- two right numbers with one value are one -/
theorem nb_unique (l : List UInt8) (h : l.head? ≠ some 0) : l = nb (bv l) := by
  have key : ∀ (k : Nat) (l : List UInt8), l.length = k → l.head? ≠ some 0 → l = nb (bv l) := by
    intro k
    induction k with
    | zero => intro l hl _; have := List.length_eq_zero_iff.1 hl; subst this; simp [nb_zero]
    | succ k ih =>
      intro l hl hh
      have hne : l ≠ [] := by intro h; subst h; simp at hl
      obtain ⟨l', x, rfl⟩ : ∃ l' x, l = l' ++ [x] := ⟨l.dropLast, l.getLast hne, (List.dropLast_concat_getLast hne).symm⟩
      have hl' : l'.length = k := by simpa using hl
      rw [bv_snoc]
      have hx := x.toNat_lt
      by_cases hz : bv l' = 0
      · by_cases hl0 : l' = []
        · subst hl0
          have hx0 : x ≠ 0 := by simpa using hh
          have : x.toNat ≠ 0 := by intro h; exact hx0 (UInt8.toNat_inj.1 (by simpa using h))
          rw [hz, nb_pos (by omega), show (256*0 + x.toNat)/256 = 0 by omega, nb_zero]
          simp
        · have hh' : l'.head? ≠ some 0 := by cases l' with | nil => exact absurd rfl hl0 | cons a b => simpa using hh
          have := ih l' hl' hh'
          rw [hz, nb_zero] at this; exact absurd this hl0
      · have hh' : l'.head? ≠ some 0 := by cases l' with | nil => simp at hz | cons a b => simpa using hh
        have := ih l' hl' hh'
        rw [nb_pos (by omega), show (256 * bv l' + x.toNat)/256 = bv l' by omega, ← this]
        congr 2
        apply UInt8.toNat_inj.1; simp
  exact key _ l rfl h
theorem dz_eq (l : List UInt8) : dz l = nb (bv l) := by rw [← bv_dz]; exact nb_unique _ (dz_head l)
theorem nb_length_le (n k : Nat) (h : n < 256^k) : (nb n).length ≤ k := by
  induction k generalizing n with
  | zero => simp at h; subst h; simp [nb_zero]
  | succ k ih =>
    by_cases h0 : n = 0
    · subst h0; simp [nb_zero]
    · rw [nb_pos h0]; simp
      apply ih; rw [Nat.pow_succ] at h; omega
theorem nb_length_lt (n k : Nat) (h : k < (nb n).length) : 256^k ≤ n := by
  apply Nat.le_of_not_lt; intro h2; have := nb_length_le n k h2; omega

theorem wv_append (a b : List Nat) : wv (a ++ b) = wv a + B64^a.length * wv b := by
  induction a with
  | nil => simp [wv]
  | cons x xs ih => simp only [List.cons_append, wv, ih, List.length_cons, Nat.pow_succ, Nat.mul_add]; rw [← Nat.mul_assoc, Nat.mul_comm (B64^xs.length)]; omega
theorem wv_snoc (a : List Nat) (x : Nat) : wv (a ++ [x]) = wv a + B64^a.length * x := by rw [wv_append]; simp [wv]
/-- all are words -/
def Wd (l : List Nat) : Prop := ∀ x ∈ l, x < B64
theorem wv_lt (l : List Nat) (h : Wd l) : wv l < B64^l.length := by
  induction l with
  | nil => simp [wv]
  | cons x xs ih =>
    have h1 := h x (by simp)
    have h2 := ih (fun y hy => h y (by simp [hy]))
    simp only [wv, List.length_cons, Nat.pow_succ]
    have : B64 * wv xs ≤ B64 * (B64^xs.length - 1) := Nat.mul_le_mul_left _ (by omega)
    rw [Nat.mul_sub, Nat.mul_one, Nat.mul_comm B64 (B64^_)] at this
    have h3 : B64 ≤ B64^xs.length * B64 := Nat.le_mul_of_pos_left _ (Nat.pow_pos B64_pos)
    omega
theorem wv_inj (a b : List Nat) (hl : a.length = b.length) (ha : Wd a) (hb : Wd b) (h : wv a = wv b) : a = b := by
  induction a generalizing b with
  | nil => cases b with | nil => rfl | cons => simp at hl
  | cons x xs ih =>
    cases b with
    | nil => simp at hl
    | cons y ys =>
      have hx := ha x (by simp)
      have hy := hb y (by simp)
      simp only [wv] at h
      have e1 : x = y := by
        have := congrArg (· % B64) h
        simp only [Nat.add_mul_mod_self_left] at this
        rwa [Nat.mod_eq_of_lt hx, Nat.mod_eq_of_lt hy] at this
      subst e1
      have e2 : wv xs = wv ys := Nat.eq_of_mul_eq_mul_left B64_pos (by omega)
      rw [ih ys (by simpa using hl) (fun z hz => ha z (by simp [hz])) (fun z hz => hb z (by simp [hz])) e2]
theorem wv_replicate (n : Nat) : wv (List.replicate n 0) = 0 := by
  induction n with | zero => rfl | succ n ih => rw [List.replicate_succ, wv, ih]; simp
theorem Wd_take {l : List Nat} (h : Wd l) (k : Nat) : Wd (l.take k) := fun x hx => h x (List.mem_of_mem_take hx)
theorem Wd_drop {l : List Nat} (h : Wd l) (k : Nat) : Wd (l.drop k) := fun x hx => h x (List.mem_of_mem_drop hx)
theorem Wd_append {a b : List Nat} (ha : Wd a) (hb : Wd b) : Wd (a ++ b) := fun x hx => by rcases List.mem_append.1 hx with h | h; exact ha x h; exact hb x h
theorem wv_split (l : List Nat) (k : Nat) (hk : k ≤ l.length) : wv l = wv (l.take k) + B64^k * wv (l.drop k) := by
  conv => lhs; rw [← List.take_append_drop k l]
  rw [wv_append, List.length_take, Nat.min_eq_left hk]
theorem wv_digit (l : List Nat) (h : Wd l) (k : Nat) : l.getD k 0 = wv l / B64^k % B64 := by
  induction l generalizing k with
  | nil => simp [wv]
  | cons x xs ih =>
    have hx := h x (by simp)
    cases k with
    | zero => simp [wv, Nat.mod_eq_of_lt hx]
    | succ k =>
      simp only [List.getD_cons_succ, wv]
      rw [ih (fun z hz => h z (by simp [hz])), Nat.pow_succ, Nat.mul_comm (B64^k), ← Nat.div_div_eq_div_mul]
      rw [Nat.add_mul_div_left _ _ B64_pos, Nat.div_eq_of_lt hx, Nat.zero_add]
theorem wv_set (l : List Nat) (k v : Nat) (h : k < l.length) : wv (l.set k v) + B64^k * l.getD k 0 = wv l + B64^k * v := by
  induction l generalizing k with
  | nil => simp at h
  | cons x xs ih =>
    cases k with
    | zero => simp [wv]; omega
    | succ k =>
      have := ih k (by simpa using h)
      simp only [List.set_cons_succ, wv, List.getD_cons_succ, Nat.pow_succ]
      have e1 : B64^k * B64 * xs.getD k 0 = B64 * (B64^k * xs.getD k 0) := by rw [Nat.mul_comm (B64^k), Nat.mul_assoc]
      have e2 : B64^k * B64 * v = B64 * (B64^k * v) := by rw [Nat.mul_comm (B64^k), Nat.mul_assoc]
      rw [e1, e2]
      have := congrArg (B64 * ·) this
      simp only [Nat.mul_add] at this
      omega
theorem Wd_set {l : List Nat} (h : Wd l) (k v : Nat) (hv : v < B64) : Wd (l.set k v) := fun x hx => by
  rcases List.mem_or_eq_of_mem_set hx with h1 | h1
  · exact h x h1
  · omega
theorem Wd_getD {l : List Nat} (h : Wd l) (k : Nat) : l.getD k 0 < B64 := by
  by_cases hk : k < l.length
  · rw [List.getD_eq_getElem?_getD, List.getElem?_eq_getElem hk]; exact h _ (List.getElem_mem hk)
  · rw [List.getD_eq_getElem?_getD, List.getElem?_eq_none (by omega)]; exact B64_pos
theorem take_succ_getD (l : List Nat) (k : Nat) (h : k < l.length) : l.take (k+1) = l.take k ++ [l.getD k 0] := by
  rw [List.take_succ_eq_append_getElem h, List.getD_eq_getElem?_getD, List.getElem?_eq_getElem h]; rfl
theorem wv_take_succ (l : List Nat) (k : Nat) (h : k < l.length) : wv (l.take (k+1)) = wv (l.take k) + B64^k * l.getD k 0 := by
  rw [take_succ_getD l k h, wv_snoc, List.length_take, Nat.min_eq_left (by omega)]
/-! add -/
theorem add_step (X x0 y : List Nat) (k c : Nat) (hk : k < X.length) (hy : k < y.length) (hX : Wd X) (hY : Wd y) (hc : c ≤ 1)
    (hv : wv X + c * B64^k = wv x0 + wv (y.take k)) :
    wv (X.set k ((X.getD k 0 + y.getD k 0 + c) % B64)) + ((X.getD k 0 + y.getD k 0 + c) / B64) * B64^(k+1) = wv x0 + wv (y.take (k+1)) ∧
    (X.getD k 0 + y.getD k 0 + c) / B64 ≤ 1 := by
  have h1 := Wd_getD hX k
  have h2 := Wd_getD hY k
  refine ⟨?_, ?_⟩
  · have e := wv_set X k ((X.getD k 0 + y.getD k 0 + c) % B64) hk
    rw [wv_take_succ y k hy, ← Nat.add_assoc, ← hv]
    have d := Nat.div_add_mod (X.getD k 0 + y.getD k 0 + c) B64
    generalize (X.getD k 0 + y.getD k 0 + c) % B64 = r at *
    generalize (X.getD k 0 + y.getD k 0 + c) / B64 = q at *
    have d2 := congrArg (B64^k * ·) d
    simp only [Nat.mul_add] at d2
    rw [Nat.pow_succ, Nat.mul_comm q, Nat.mul_assoc (B64^k), Nat.mul_comm c]
    omega
  · have : (X.getD k 0 + y.getD k 0 + c) < 2 * B64 := by omega
    have := (Nat.div_lt_iff_lt_mul B64_pos).2 this
    omega
/-- a carry that goes on -/
theorem carry_step (X : List Nat) (k c V : Nat) (hk : k < X.length) (hX : Wd X) (hc : c < B64) (hv : wv X + c * B64^k = V) :
    wv (X.set k ((X.getD k 0 + c) % B64)) + ((X.getD k 0 + c) / B64) * B64^(k+1) = V ∧ (X.getD k 0 + c) / B64 ≤ 1 := by
  have h1 := Wd_getD hX k
  refine ⟨?_, ?_⟩
  · have e := wv_set X k ((X.getD k 0 + c) % B64) hk
    rw [← hv]
    have d := Nat.div_add_mod (X.getD k 0 + c) B64
    generalize (X.getD k 0 + c) % B64 = r at *
    generalize (X.getD k 0 + c) / B64 = q at *
    have d2 := congrArg (B64^k * ·) d
    simp only [Nat.mul_add] at d2
    rw [Nat.pow_succ, Nat.mul_comm q, Nat.mul_assoc (B64^k), Nat.mul_comm c]
    omega
  · have : (X.getD k 0 + c) < 2 * B64 := by omega
    have := (Nat.div_lt_iff_lt_mul B64_pos).2 this
    omega
/-! subtract -/
theorem sub_digit (x y c : Nat) (hx : x < B64) (hy : y < B64) (hc : c ≤ 1) :
    (x + B64 - y - c) % B64 + y + c = x + (if x < y + c then 1 else 0) * B64 := by
  split
  · rw [Nat.mod_eq_of_lt (by omega)]; omega
  · have : x + B64 - y - c = (x - y - c) + B64 := by omega
    rw [this, Nat.add_mod_right, Nat.mod_eq_of_lt (by omega)]; omega
theorem sub_step (X : List Nat) (k c y V U : Nat) (hk : k < X.length) (hX : Wd X) (hy : y < B64) (hc : c ≤ 1)
    (hv : wv X + U = V + c * B64^k) :
    wv (X.set k ((X.getD k 0 + B64 - y - c) % B64)) + (U + B64^k * y) = V + (if X.getD k 0 < y + c then 1 else 0) * B64^(k+1) := by
  have h1 := Wd_getD hX k
  have e := wv_set X k ((X.getD k 0 + B64 - y - c) % B64) hk
  have d := sub_digit (X.getD k 0) y c h1 hy hc
  generalize (X.getD k 0 + B64 - y - c) % B64 = r at *
  generalize (if X.getD k 0 < y + c then 1 else 0) = q at *
  have d2 := congrArg (B64^k * ·) d
  simp only [Nat.mul_add] at d2
  rw [Nat.pow_succ]
  have e1 : q * (B64^k * B64) = B64^k * (q * B64) := by rw [Nat.mul_comm q, Nat.mul_assoc, Nat.mul_comm B64]
  rw [e1]
  have e2 : c * B64^k = B64^k * c := Nat.mul_comm _ _
  omega
/-! products -/
theorem mul_digit (x y d c : Nat) (hx : x < B64) (hy : y < B64) (hd : d < B64) (hc : c < B64) : (x + y * d + c) / B64 < B64 := by
  apply (Nat.div_lt_iff_lt_mul B64_pos).2
  have : y * d ≤ (B64 - 1) * (B64 - 1) := Nat.mul_le_mul (by omega) (by omega)
  have e : (B64 - 1) * (B64 - 1) + (B64 - 1) + (B64 - 1) < B64 * B64 := by decide
  omega
theorem mulAdd_step (X x0 y : List Nat) (k c d : Nat) (hk : k < X.length) (hy : k < y.length)
    (hv : wv X + c * B64^k = wv x0 + d * wv (y.take k)) :
    wv (X.set k ((X.getD k 0 + y.getD k 0 * d + c) % B64)) + ((X.getD k 0 + y.getD k 0 * d + c) / B64) * B64^(k+1) = wv x0 + d * wv (y.take (k+1)) := by
  have e := wv_set X k ((X.getD k 0 + y.getD k 0 * d + c) % B64) hk
  have dd := Nat.div_add_mod (X.getD k 0 + y.getD k 0 * d + c) B64
  generalize (X.getD k 0 + y.getD k 0 * d + c) % B64 = r at *
  generalize (X.getD k 0 + y.getD k 0 * d + c) / B64 = q at *
  have d2 := congrArg (B64^k * ·) dd
  rw [wv_take_succ y k hy, Nat.mul_add, ← Nat.add_assoc, ← hv]
  simp only [Nat.mul_add] at d2
  rw [Nat.pow_succ]
  have e1 : q * (B64^k * B64) = B64^k * (B64 * q) := by rw [Nat.mul_comm q, Nat.mul_assoc]
  have e2 : d * (B64^k * y.getD k 0) = B64^k * (y.getD k 0 * d) := by rw [Nat.mul_left_comm, Nat.mul_comm d]
  rw [e1, e2, Nat.mul_comm c]
  omega
/-! words and bytes -/
theorem B64_pow256 : B64 = 256^8 := by decide
theorem pow_place (q r : Nat) : 256^(8*q+r) = B64^q * 256^r := by rw [Nat.pow_add, Nat.pow_mul, B64_pow256]
theorem or_step (a c s : Nat) (hc : c < 256) : (2^(s+8) * a) ||| (c * 2^s) = 2^(s+8) * a + c * 2^s := by
  symm
  apply Nat.two_pow_add_eq_or_of_lt
  rw [Nat.pow_add, Nat.mul_comm]
  exact Nat.mul_lt_mul_of_pos_left (by omega) (Nat.pow_pos (by omega))
theorem pow256_two (r : Nat) : 256^r = 2^(r*8) := by rw [Nat.mul_comm, Nat.pow_mul]
theorem words_step (X : List Nat) (V place c : Nat) (hX : Wd X) (hq : place/8 < X.length) (hv : wv X = V * 256^(place+1)) (hc : c < 256) :
    X.getD (place/8) 0 ||| (c * 2^(place%8*8)) = X.getD (place/8) 0 + c * 2^(place%8*8) ∧
    X.getD (place/8) 0 + c * 2^(place%8*8) < B64 ∧
    wv (X.set (place/8) (X.getD (place/8) 0 + c * 2^(place%8*8))) = (256*V + c) * 256^place := by
  have hr : place % 8 < 8 := Nat.mod_lt _ (by omega)
  have hp : place = 8*(place/8) + place%8 := (Nat.div_add_mod place 8).symm
  have e1 : X.getD (place/8) 0 = 256^(place%8+1) * (V % 256^(7 - place%8)) := by
    rw [wv_digit X hX, hv]
    conv => lhs; rw [show place + 1 = 8*(place/8) + (place%8+1) by omega, pow_place]
    rw [Nat.mul_left_comm, Nat.mul_div_cancel_left _ (Nat.pow_pos B64_pos)]
    rw [Nat.mul_comm V]
    rw [show B64 = 256^(place%8+1) * 256^(7 - place%8) by rw [← Nat.pow_add, B64_pow256]; congr 1; omega]
    rw [Nat.mul_mod_mul_left]
  have e2 : (256:Nat)^(place%8+1) = 2^(place%8*8+8) := by rw [pow256_two]; congr 1; omega
  have hset := wv_set X (place/8) (X.getD (place/8) 0 + c * 2^(place%8*8)) hq
  refine ⟨?_, ?_, ?_⟩
  · rw [e1, e2]; exact or_step _ _ _ hc
  · rw [e1, show B64 = 256^(place%8+1) * 256^(7 - place%8) by rw [← Nat.pow_add, B64_pow256]; congr 1; omega]
    have h1 : V % 256^(7 - place%8) + 1 ≤ 256^(7 - place%8) := Nat.mod_lt _ (Nat.pow_pos (by omega))
    have h2 : 256^(place%8+1) * (V % 256^(7 - place%8) + 1) ≤ 256^(place%8+1) * 256^(7 - place%8) := Nat.mul_le_mul_left _ h1
    have h3 : c * 2^(place%8*8) < 256^(place%8+1) := by
      rw [Nat.pow_succ, pow256_two, Nat.mul_comm]; exact Nat.mul_lt_mul_of_pos_left (by omega) (Nat.pow_pos (by omega))
    rw [Nat.mul_add, Nat.mul_one] at h2
    omega
  · have e3 : B64^(place/8) * (c * 2^(place%8*8)) = c * 256^place := by
      rw [← pow256_two, Nat.mul_left_comm, ← pow_place, ← hp]
    rw [Nat.mul_add, e3] at hset
    rw [Nat.pow_succ] at hv
    rw [Nat.add_mul, show 256 * V * 256^place = V * (256^place * 256) by rw [Nat.mul_comm 256 V, Nat.mul_assoc, Nat.mul_comm 256], ← hv]
    omega
/-- byte p of a number -/
def byteAt (N p : Nat) : Nat := N / 256^p % 256
theorem byte_of_word (X : List Nat) (hX : Wd X) (p : Nat) : X.getD (p/8) 0 / 2^(p%8*8) % 256 = byteAt (wv X) p := by
  have hr : p % 8 < 8 := Nat.mod_lt _ (by omega)
  have hp : p = 8*(p/8) + p%8 := (Nat.div_add_mod p 8).symm
  unfold byteAt
  conv => rhs; rw [hp, pow_place, ← Nat.div_div_eq_div_mul]
  rw [wv_digit X hX, ← pow256_two]
  rw [show B64 = 256^(p%8) * 256^(8 - p%8) by rw [← Nat.pow_add, B64_pow256]; congr 1; omega]
  rw [Nat.mod_mul_right_div_self]
  apply Nat.mod_mod_of_dvd
  exact ⟨256^(7 - p%8), by rw [← Nat.pow_succ']; congr 1; omega⟩
/-- the bytes of a number, n of them, the most significant one first -/
def bytesN (n N : Nat) : List UInt8 := (List.range n).map (fun j => UInt8.ofNat (byteAt N (n-1-j)))
theorem bytesN_length (n N : Nat) : (bytesN n N).length = n := by simp [bytesN]
theorem bytesN_get (n N j : Nat) (h : j < n) : (bytesN n N)[j]? = some (UInt8.ofNat (byteAt N (n-1-j))) := by
  simp [bytesN, h]
theorem bytesN_succ (n N : Nat) : bytesN (n+1) N = bytesN n (N/256) ++ [UInt8.ofNat (byteAt N 0)] := by
  unfold bytesN
  rw [List.range_succ, List.map_append]
  congr 1
  · apply List.map_congr_left
    intro j hj
    have hj := List.mem_range.1 hj
    congr 1
    unfold byteAt
    rw [show n + 1 - 1 - j = (n - 1 - j) + 1 by omega, Nat.pow_succ, Nat.mul_comm, Nat.div_div_eq_div_mul]
  · simp
theorem bv_bytesN (n N : Nat) : bv (bytesN n N) = N % 256^n := by
  induction n generalizing N with
  | zero => simp [bytesN, Nat.mod_one]
  | succ n ih =>
    rw [bytesN_succ, bv_snoc, ih]
    have : (UInt8.ofNat (byteAt N 0)).toNat = N % 256 := by simp [byteAt]
    rw [this, Nat.pow_succ, Nat.mul_comm (256^n), Nat.mod_mul]; omega
/-! trimmed -/
def Tr (l : List Nat) : Prop := l.getD (l.length - 1) 1 ≠ 0
theorem Tr_nil : Tr [] := by simp [Tr]
theorem Tr_lt {l : List Nat} (h : Tr l) (hl : l ≠ []) : B64^(l.length-1) ≤ wv l := by
  have hlen : 0 < l.length := List.length_pos_iff.2 hl
  have hs := wv_split l (l.length-1) (by omega)
  have hd : l.drop (l.length-1) = [l.getD (l.length-1) 1] := by
    rw [List.drop_eq_getElem_cons (by omega), List.getD_eq_getElem?_getD, List.getElem?_eq_getElem (by omega)]
    simp [show l.length - 1 + 1 = l.length by omega]
  rw [hd] at hs; simp only [wv, Nat.mul_zero, Nat.add_zero] at hs
  have hp : 1 ≤ l.getD (l.length-1) 1 := by unfold Tr at h; omega
  have := Nat.mul_le_mul_left (B64^(l.length-1)) hp
  omega
theorem Tr_pos {l : List Nat} (h : Tr l) (hl : l ≠ []) : 0 < wv l := Nat.lt_of_lt_of_le (Nat.pow_pos B64_pos) (Tr_lt h hl)
theorem Tr_len_lt {x y : List Nat} (hx : Wd x) (hy : Tr y) (h : x.length < y.length) : wv x < wv y := by
  have hy0 : y ≠ [] := by intro h2; subst h2; simp at h
  have h1 := wv_lt x hx
  have h2 := Tr_lt hy hy0
  have h3 : B64^x.length ≤ B64^(y.length-1) := Nat.pow_le_pow_right B64_pos (by omega)
  omega
theorem Tr_len_le {x y : List Nat} (hy : Wd y) (hx : Tr x) (h : wv x ≤ wv y) : x.length ≤ y.length := by
  apply Nat.le_of_not_lt; intro h2
  have := Tr_len_lt hy hx h2; omega
theorem wv_zero_iff {l : List Nat} (h : Tr l) : wv l = 0 ↔ l = [] := by
  constructor
  · intro h2; apply Classical.byContradiction; intro h3; have := Tr_pos h h3; omega
  · intro h2; subst h2; rfl
theorem wv_zeros (l : List Nat) (h : ∀ j, j < l.length → l.getD j 0 = 0) : wv l = 0 := by
  induction l with
  | nil => rfl
  | cons x xs ih =>
    have h0 : x = 0 := by have := h 0 (by simp); simpa using this
    have := ih (fun j hj => by have := h (j+1) (by simpa using hj); simpa using this)
    simp [wv, h0, this]
theorem wv_take_zeros (l : List Nat) (k : Nat) (hk : k ≤ l.length) (h : ∀ j, k ≤ j → j < l.length → l.getD j 0 = 0) : wv (l.take k) = wv l := by
  rw [wv_split l k hk, wv_zeros (l.drop k)]
  · simp
  · intro j hj
    have := h (k+j) (by omega) (by simp at hj; omega)
    simpa [List.getD_eq_getElem?_getD, List.getElem?_drop] using this
theorem Tr_take (l : List Nat) (k : Nat) (hk : k ≤ l.length) (h : k = 0 ∨ l.getD (k-1) 0 ≠ 0) : Tr (l.take k) := by
  unfold Tr
  rw [List.length_take, Nat.min_eq_left hk]
  rcases h with h | h
  · subst h; simp
  · by_cases h0 : k = 0
    · subst h0; simp
    · rw [List.getD_eq_getElem?_getD, List.getElem?_take_of_lt (by omega), List.getElem?_eq_getElem (by omega)]
      rw [List.getD_eq_getElem?_getD, List.getElem?_eq_getElem (by omega)] at h
      simpa using h
theorem Tr_unique {x y : List Nat} (hx : Wd x) (hy : Wd y) (tx : Tr x) (ty : Tr y) (h : wv x = wv y) : x = y :=
  wv_inj x y (Nat.le_antisymm (Tr_len_le hy tx (by omega)) (Tr_len_le hx ty (by omega))) hx hy h
end NM
