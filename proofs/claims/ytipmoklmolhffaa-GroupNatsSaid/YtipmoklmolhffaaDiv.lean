/-
  The walk of math/bits.Div64: the quotient and the rest of two words and one, where the quotient fits into a word.
  The walk of nat.divideWord: a number is divided by a word, in place.
  The walk of nat.takeProduct.
-/
import Derived.Test.YtipmoklmolhffaaProd
import Derived.Test.YtipmoklmolhffaaMath
import Derived.BigQuiet
import Derived.Deep.CutBlock
import Derived.Deep.DeepCutAuto
import Derived.Lib.ItoaNum
namespace Go.Proofs.Ytipmoklmolhffaa
open Go.RowKit NM
def DivQ (hi lo y : Nat) (w : World) (e : Ending) (w' : World) : Prop :=
  e = .returned (.tuple #[.int .u64 (((hi * 18446744073709551616 + lo) / y : Nat) : Int), .int .u64 (((hi * 18446744073709551616 + lo) % y : Nat) : Int)]) ∧ ∃ m, w' = w.drewN m
end Go.Proofs.Ytipmoklmolhffaa
namespace Go.Proofs.Ytipmoklmolhffaa
open Go.RowKit NM
def dq (hi lo y : Nat) : Nat := (hi * B64 + lo) / y
def dr (hi lo y : Nat) : Nat := (hi * B64 + lo) % y
theorem dq_lt {hi lo y : Nat} (h : hi < y) (hl : lo < B64) : dq hi lo y < B64 := by
  unfold dq
  apply (Nat.div_lt_iff_lt_mul (by omega)).2
  have h1 : (hi + 1) * B64 ≤ y * B64 := Nat.mul_le_mul_right _ h
  rw [Nat.add_mul] at h1
  rw [Nat.mul_comm B64]; omega
theorem dr_lt {hi lo y : Nat} (h : hi < y) : dr hi lo y < y := Nat.mod_lt _ (by omega)
theorem dw_step (X Z : List Nat) (m left y : Nat) (hl : Z.length = X.length) (hm : m < X.length)
    (hv : y * wv (Z.drop (m+1)) + left = wv (X.drop (m+1))) :
    y * wv ((Z.set m (dq left (gd X m) y)).drop m) + dr left (gd X m) y = wv (X.drop m) := by
  rw [wv_drop_cons X m hm, wv_drop_cons _ m (by rw [List.length_set, hl]; exact hm), ← hv]
  have e1 : (Z.set m (dq left (gd X m) y)).getD m 0 = dq left (gd X m) y := gd_set_same _ _ _ (by omega)
  have e2 : (Z.set m (dq left (gd X m) y)).drop (m+1) = Z.drop (m+1) := by rw [List.drop_set_of_lt (by omega)]
  rw [e1, e2]
  have d := Nat.div_add_mod (left * B64 + gd X m) y
  unfold dq dr gd at *
  rw [Nat.mul_add, Nat.mul_add, Nat.mul_left_comm y B64, Nat.mul_comm left] at *
  omega
def DWQ (X : List Nat) (y b o cap : Nat) (w : World) (e : Ending) (w' : World) : Prop :=
  ∃ (Z : List Nat) (k : Nat), At X.length b o w Z w' ∧ k ≤ X.length ∧ Tr (Z.take k) ∧ wv (Z.take k) = wv X / y ∧ e = .returned (.tuple #[.slice (some ⟨b, o, none⟩) k cap, .int .u64 (wv X % y : Nat)])
theorem At.quiet {n b o : Nat} {w wr w' : World} {Z : List Nat} (h : At n b o w Z wr) (q : Quiet wr w') : At n b o w Z w' := ⟨h.len, h.wd, q.row h.row, h.only.trans (q.only _ _ _)⟩
end Go.Proofs.Ytipmoklmolhffaa
namespace Go.Proofs.Ytipmoklmolhffaa
open Go.RowKit NM
theorem take_digit (y d c : Nat) (hy : y < B64) (hd : d < B64) (hc : c < B64) :
    y * d + c = (mh64 y d + hi64 (ml64 y d) c 0) * B64 + lo64 (ml64 y d) c 0 ∧ mh64 y d + hi64 (ml64 y d) c 0 < B64 := by
  have e1 := Nat.div_add_mod (y * d) B64
  have e2 := Nat.div_add_mod (y * d % B64 + c + 0) B64
  have hp : y * d ≤ (B64 - 1) * (B64 - 1) := Nat.mul_le_mul (by omega) (by omega)
  have hq : (B64 - 1) * (B64 - 1) + B64 ≤ B64 * B64 := by decide
  unfold lo64 hi64 mh64 ml64
  generalize y * d % B64 = a' at *
  generalize y * d / B64 = a at *
  generalize (a' + c + 0) / B64 = f at *
  generalize (a' + c + 0) % B64 = f' at *
  have tot : y * d + c = (a + f) * B64 + f' := by rw [← e1, Nat.add_mul, Nat.mul_comm a, Nat.mul_comm f]; omega
  refine ⟨tot, ?_⟩
  have h1 : (a + f) * B64 < B64 * B64 := by omega
  exact Nat.lt_of_mul_lt_mul_right h1
theorem df_eq (x y c : Nat) (hx : x < B64) (hy : y < B64) (hc : c ≤ 1) : df64 x y c + y + c = x + br64 x y c * B64 := by
  unfold df64 br64
  have h64 : B64 = 18446744073709551616 := rfl
  rw [h64] at hx hy ⊢
  split <;> omega
theorem take_step (Z X Y : List Nat) (k d cc bb : Nat) (hk : k < Z.length) (hy : k < Y.length) (hZ : Wd Z) (hY : Wd Y) (hd : d < B64) (hc : cc < B64) (hb : bb ≤ 1)
    (hv : wv Z + d * wv (Y.take k) = wv X + (cc + bb) * B64^k) :
    wv (Z.set k (df64 (gd Z k) (lo64 (ml64 (gd Y k) d) cc 0) bb)) + d * wv (Y.take (k+1)) = wv X + (mh64 (gd Y k) d + hi64 (ml64 (gd Y k) d) cc 0 + br64 (gd Z k) (lo64 (ml64 (gd Y k) d) cc 0) bb) * B64^(k+1) := by
  have h1 := (take_digit (gd Y k) d cc (gd_lt hY k) hd hc).1
  have h2 := df_eq (gd Z k) (lo64 (ml64 (gd Y k) d) cc 0) bb (gd_lt hZ k) (lo64_lt _ _ _) hb
  have h3 := wv_set Z k (df64 (gd Z k) (lo64 (ml64 (gd Y k) d) cc 0) bb) hk
  have h4 := wv_take_succ Y k hy
  rw [← gd_eq] at h3 h4
  rw [h4, Nat.pow_succ]
  generalize df64 (gd Z k) (lo64 (ml64 (gd Y k) d) cc 0) bb = z' at *
  generalize br64 (gd Z k) (lo64 (ml64 (gd Y k) d) cc 0) bb = b' at *
  generalize lo64 (ml64 (gd Y k) d) cc 0 = l' at *
  generalize mh64 (gd Y k) d + hi64 (ml64 (gd Y k) d) cc 0 = c' at *
  generalize wv (Z.set k z') = S at *
  generalize wv (Y.take k) = T at *
  generalize gd Y k = y at *
  generalize gd Z k = z at *
  generalize wv Z = V at *
  generalize wv X = U at *
  generalize B64^k = P at *
  clear hk hy hZ hY hd hc hb h4
  grind
theorem last_step (Z X Y : List Nat) (n d cc bb : Nat) (hk : n < Z.length) (hZ : Wd Z) (hc : cc < B64) (hb : bb ≤ 1)
    (hv : wv Z + d * wv Y = wv X + (cc + bb) * B64^n) :
    wv (Z.set n (df64 (gd Z n) cc bb)) + d * wv Y = wv X + br64 (gd Z n) cc bb * B64^(n+1) := by
  have h2 := df_eq (gd Z n) cc bb (gd_lt hZ n) hc hb
  have h3 := wv_set Z n (df64 (gd Z n) cc bb) hk
  rw [← gd_eq] at h3
  rw [Nat.pow_succ]
  generalize df64 (gd Z n) cc bb = z' at *
  generalize br64 (gd Z n) cc bb = b' at *
  generalize wv (Z.set n z') = S at *
  generalize gd Z n = z at *
  generalize wv Z = V at *
  generalize wv X = U at *
  generalize wv Y = T at *
  generalize B64^n = P at *
  clear hk hZ hc hb
  grind
def TakeQ (X Y : List Nat) (d b o : Nat) (w : World) (e : Ending) (w' : World) : Prop :=
  ∃ (Z : List Nat) (bb : Nat), At X.length b o w Z w' ∧ bb ≤ 1 ∧ wv Z + d * wv Y = wv X + bb * B64^(Y.length + 1) ∧ e = .returned (.bool ((bb : Int) != 0))
end Go.Proofs.Ytipmoklmolhffaa
