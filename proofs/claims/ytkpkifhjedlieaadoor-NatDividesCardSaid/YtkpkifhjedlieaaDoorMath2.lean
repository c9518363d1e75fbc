/-
  Plain arithmetic of comparing numbers word by word, of products and of quotient digits.
-/
import Derived.Test.YtkpkifhjedlieaaDoorMath
namespace NM
/-! compare -/
theorem wv_drop_cons (x : List Nat) (k : Nat) (h : k < x.length) : wv (x.drop k) = x.getD k 0 + B64 * wv (x.drop (k+1)) := by
  rw [List.drop_eq_getElem_cons h, wv, List.getD_eq_getElem?_getD, List.getElem?_eq_getElem h]; rfl
theorem cmp_lt (x y : List Nat) (k : Nat) (hl : x.length = y.length) (hk : k < x.length) (hx : Wd x)
    (hd : wv (x.drop (k+1)) = wv (y.drop (k+1))) (h : x.getD k 0 < y.getD k 0) : wv x < wv y := by
  rw [wv_split x k (by omega), wv_split y k (by omega), wv_drop_cons x k hk, wv_drop_cons y k (by omega), ← hd]
  have h1 := wv_lt (x.take k) (Wd_take hx k)
  rw [List.length_take, Nat.min_eq_left (by omega)] at h1
  have h2 : B64^k * (x.getD k 0 + 1) ≤ B64^k * y.getD k 0 := Nat.mul_le_mul_left _ h
  simp only [Nat.mul_add, Nat.mul_one] at *
  omega
theorem cmp_step (x y : List Nat) (k : Nat) (hl : x.length = y.length) (hk : k < x.length)
    (hd : wv (x.drop (k+1)) = wv (y.drop (k+1))) (h : x.getD k 0 = y.getD k 0) : wv (x.drop k) = wv (y.drop k) := by
  rw [wv_drop_cons x k hk, wv_drop_cons y k (by omega), hd, h]
/-! products -/
theorem product_room (x y : List Nat) (i d S n : Nat) (hx : Wd x) (hy : Wd y) (hi : i < y.length) (hd : d < B64) (hn : n = x.length + y.length)
    (hS : S = wv x * wv (y.take i)) : S / B64^i + d * wv x < B64^(n - i) := by
  have h1 := wv_lt x hx
  have h2 := wv_lt (y.take i) (Wd_take hy i)
  rw [List.length_take, Nat.min_eq_left (by omega)] at h2
  have h3 : S / B64^i ≤ wv x := by
    apply Nat.div_le_of_le_mul
    rw [hS, Nat.mul_comm]
    exact Nat.mul_le_mul_right _ (by omega)
  have h4 : d * wv x ≤ (B64 - 1) * wv x := Nat.mul_le_mul_right _ (by omega)
  have h5 : (B64 - 1) * wv x + wv x = B64 * wv x := by
    rw [Nat.sub_mul, Nat.one_mul]; exact Nat.sub_add_cancel (Nat.le_mul_of_pos_left _ B64_pos)
  have h6 : B64 * wv x < B64 * B64^x.length := Nat.mul_lt_mul_of_pos_left h1 B64_pos
  have h7 : B64 * B64^x.length ≤ B64^(n-i) := by rw [← Nat.pow_succ']; exact Nat.pow_le_pow_right B64_pos (by omega)
  omega
theorem product_step (x y Sl : List Nat) (i : Nat) (Z : List Nat) (hi : i < y.length) (hSl : i ≤ Sl.length)
    (hS : wv Sl = wv x * wv (y.take i)) (hZ : wv Z = wv (Sl.drop i) + y.getD i 0 * wv x) :
    wv (Sl.take i ++ Z) = wv x * wv (y.take (i+1)) := by
  rw [wv_append, List.length_take, Nat.min_eq_left hSl, hZ, wv_take_succ y i hi, Nat.mul_add, Nat.mul_add, ← hS]
  have := wv_split Sl i hSl
  rw [Nat.mul_left_comm (wv x), Nat.mul_comm (wv x) (y.getD i 0)]
  omega
theorem drop_div (l : List Nat) (h : Wd l) (k : Nat) : wv (l.drop k) = wv l / B64^k := by
  by_cases hk : k ≤ l.length
  · rw [wv_split l k hk, Nat.add_mul_div_left _ _ (Nat.pow_pos B64_pos), Nat.div_eq_of_lt, Nat.zero_add]
    have := wv_lt (l.take k) (Wd_take h k)
    rwa [List.length_take, Nat.min_eq_left hk] at this
  · rw [List.drop_eq_nil_of_le (by omega), Nat.div_eq_of_lt]
    · rfl
    · exact Nat.lt_of_lt_of_le (wv_lt l h) (Nat.pow_le_pow_right B64_pos (by omega))
/-! a digit of a quotient, by halves -/
theorem dd_good (β yn1 yn0 u un1 q1 rhat : Nat) (h : q1*yn1 + rhat = u) (hg : q1*yn0 ≤ β*rhat + un1) (hy : 0 < yn1*β + yn0) :
    q1 ≤ (u*β + un1) / (yn1*β + yn0) := by
  apply (Nat.le_div_iff_mul_le hy).2
  subst h
  rw [Nat.mul_add, ← Nat.mul_assoc, Nat.add_mul]
  rw [Nat.mul_comm rhat]
  omega
theorem dd_bad (β yn1 yn0 u un1 q1 rhat : Nat) (h : q1*yn1 + rhat = u) (hb : β ≤ q1 ∨ β*rhat + un1 < q1*yn0)
    (hu : u < yn1*β + yn0) (h1 : un1 < β) : (u*β + un1) / (yn1*β + yn0) < q1 := by
  have hy : 0 < yn1*β + yn0 := by omega
  apply (Nat.div_lt_iff_lt_mul hy).2
  rcases hb with hb | hb
  · have a1 : (u+1)*β ≤ (yn1*β + yn0)*β := Nat.mul_le_mul_right _ hu
    have a2 : (yn1*β + yn0)*β ≤ (yn1*β + yn0)*q1 := Nat.mul_le_mul_left _ hb
    rw [Nat.add_mul] at a1
    rw [Nat.mul_comm q1]
    omega
  · subst h
    rw [Nat.mul_add, ← Nat.mul_assoc, Nat.add_mul]
    rw [Nat.mul_comm rhat]
    omega
end NM
