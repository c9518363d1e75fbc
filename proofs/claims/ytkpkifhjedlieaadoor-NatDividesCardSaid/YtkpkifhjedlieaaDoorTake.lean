/-
  The walk of nat.takeProduct.
-/
import Derived.Test.YtkpkifhjedlieaaDoorProd
namespace Go.Proofs.YtkpkifhjedlieaaDoor
open Go.RowKit NM
theorem take_digit (y d c : Nat) (hy : y < B64) (hd : d < B64) (hc : c < B64) :
    y * d + c = (mh64 y d + hi64 (ml64 y d) c 0) * B64 + lo64 (ml64 y d) c 0 ∧ mh64 y d + hi64 (ml64 y d) c 0 < B64 := by
  have e1 := Nat.div_add_mod (y * d) B64
  have e2 := Nat.div_add_mod (y * d % B64 + c + 0) B64
  have hp : y * d ≤ (B64 - 1) * (B64 - 1) := Nat.mul_le_mul (by omega) (by omega)
  have hq : (B64 - 1) * (B64 - 1) + B64 ≤ B64 * B64 := by decide
  unfold lo64 hi64 mh64 ml64
  generalize y * d % B64 = a' at *
  generalize y * d / B64 = a at *
  generalize (a' + c + 0) / B64 = f at *
  generalize (a' + c + 0) % B64 = f' at *
  have tot : y * d + c = (a + f) * B64 + f' := by rw [← e1, Nat.add_mul, Nat.mul_comm a, Nat.mul_comm f]; omega
  refine ⟨tot, ?_⟩
  have h1 : (a + f) * B64 < B64 * B64 := by omega
  exact Nat.lt_of_mul_lt_mul_right h1
theorem df_eq (x y c : Nat) (hx : x < B64) (hy : y < B64) (hc : c ≤ 1) : df64 x y c + y + c = x + br64 x y c * B64 := by
  unfold df64 br64
  have h64 : B64 = 18446744073709551616 := rfl
  rw [h64] at hx hy ⊢
  split <;> omega
theorem take_step (Z X Y : List Nat) (k d cc bb : Nat) (hk : k < Z.length) (hy : k < Y.length) (hZ : Wd Z) (hY : Wd Y) (hd : d < B64) (hc : cc < B64) (hb : bb ≤ 1)
    (hv : wv Z + d * wv (Y.take k) = wv X + (cc + bb) * B64^k) :
    wv (Z.set k (df64 (gd Z k) (lo64 (ml64 (gd Y k) d) cc 0) bb)) + d * wv (Y.take (k+1)) = wv X + (mh64 (gd Y k) d + hi64 (ml64 (gd Y k) d) cc 0 + br64 (gd Z k) (lo64 (ml64 (gd Y k) d) cc 0) bb) * B64^(k+1) := by
  have h1 := (take_digit (gd Y k) d cc (gd_lt hY k) hd hc).1
  have h2 := df_eq (gd Z k) (lo64 (ml64 (gd Y k) d) cc 0) bb (gd_lt hZ k) (lo64_lt _ _ _) hb
  have h3 := wv_set Z k (df64 (gd Z k) (lo64 (ml64 (gd Y k) d) cc 0) bb) hk
  have h4 := wv_take_succ Y k hy
  rw [← gd_eq] at h3 h4
  rw [h4, Nat.pow_succ]
  generalize df64 (gd Z k) (lo64 (ml64 (gd Y k) d) cc 0) bb = z' at *
  generalize br64 (gd Z k) (lo64 (ml64 (gd Y k) d) cc 0) bb = b' at *
  generalize lo64 (ml64 (gd Y k) d) cc 0 = l' at *
  generalize mh64 (gd Y k) d + hi64 (ml64 (gd Y k) d) cc 0 = c' at *
  generalize wv (Z.set k z') = S at *
  generalize wv (Y.take k) = T at *
  generalize gd Y k = y at *
  generalize gd Z k = z at *
  generalize wv Z = V at *
  generalize wv X = U at *
  generalize B64^k = P at *
  clear hk hy hZ hY hd hc hb h4
  grind
theorem last_step (Z X Y : List Nat) (n d cc bb : Nat) (hk : n < Z.length) (hZ : Wd Z) (hc : cc < B64) (hb : bb ≤ 1)
    (hv : wv Z + d * wv Y = wv X + (cc + bb) * B64^n) :
    wv (Z.set n (df64 (gd Z n) cc bb)) + d * wv Y = wv X + br64 (gd Z n) cc bb * B64^(n+1) := by
  have h2 := df_eq (gd Z n) cc bb (gd_lt hZ n) hc hb
  have h3 := wv_set Z n (df64 (gd Z n) cc bb) hk
  rw [← gd_eq] at h3
  rw [Nat.pow_succ]
  generalize df64 (gd Z n) cc bb = z' at *
  generalize br64 (gd Z n) cc bb = b' at *
  generalize wv (Z.set n z') = S at *
  generalize gd Z n = z at *
  generalize wv Z = V at *
  generalize wv X = U at *
  generalize wv Y = T at *
  generalize B64^n = P at *
  clear hk hZ hc hb
  grind
def TakeQ (X Y : List Nat) (d b o : Nat) (w : World) (e : Ending) (w' : World) : Prop :=
  ∃ (Z : List Nat) (bb : Nat), At X.length b o w Z w' ∧ bb ≤ 1 ∧ wv Z + d * wv Y = wv X + bb * B64^(Y.length + 1) ∧ e = .returned (.bool ((bb : Int) != 0))
set_option maxHeartbeats 1000000 in
theorem takeProduct_any (w : World) (b o cap b2 o2 cap2 d : Nat) (X Y : List Nat) (hR : Row w b o X) (hS : Row w b2 o2 Y) (hX : Wd X) (hY : Wd Y) (hne : b2 ≠ b) (hb2 : b2 < w.heap.size)
    (hd : d < 18446744073709551616) (hn : X.length ≤ 9223372036854775806) (hc : X.length ≤ cap) (hc2 : Y.length ≤ cap2) (hm : Y.length + 1 = X.length) :
    Calls Tryd.prog 53 #[.slice (some ⟨b, o, none⟩) X.length cap, .slice (some ⟨b2, o2, none⟩) Y.length cap2, .int .u64 (d : Nat)] w (TakeQ X Y d b o w) := by
  go_enter Tryd.func53, Tryd.ntmps53
  go_wp2
  go_loopw [7, 8, 17] (fun c r i wr => ∃ (k cc bb : Nat) (Z : List Nat), k ≤ Y.length ∧ cc < 18446744073709551616 ∧ bb ≤ 1 ∧ c = .int .u64 (cc : Nat) ∧ r = .int .u64 (bb : Nat) ∧ i = .int .i64 (k : Nat) ∧ At X.length b o w Z wr ∧ Hid (wv Z + d * wv (Y.take k) = wv X + (cc + bb) * B64^k)) (fun _ _ i _ => Y.length - (intOf i).toNat)
  case atStart => exact ⟨0, 0, 0, X, Nat.zero_le _, by omega, by omega, rfl, rfl, rfl, At.start hX hR, by show _ = _; simp [wv]⟩
  case round =>
    obtain ⟨k, cc, bb, Z, hk, hcc, hbb, rfl, rfl, rfl, hA, hv⟩ := hrel
    by_cases hlt : k < Y.length
    · have hx := hA.row.cell k (by rw [hA.len]; omega)
      have hf := hA.row.free k (by rw [hA.len]; omega)
      have hy := (hA.only.row hS hne hb2).cell k hlt
      have hstep := take_step Z X Y k d cc bb (by rw [hA.len]; omega) hlt hA.wd hY hd hcc hbb hv.out
      have b3 : mh64 (gd Y k) d + hi64 (ml64 (gd Y k) d) cc 0 < 18446744073709551616 := (take_digit (gd Y k) d cc (gd_lt hY k) hd hcc).2
      have HP := Lib.hid hstep; clear hstep
      have HR := Lib.hid hR; clear hR
      have HS := Lib.hid hS; clear hS
      have gy := gd_lt hY k
      go_wp2_with (first | (go_at_call 63; refine (mul64_any (gd Y k) d gy hd _).mono ?_; rintro e w' ⟨rfl, rfl⟩) | (simp only [add64_c0 (ml64 (gd Y k) d) cc]) | (simp only [sub64 (gd Z k) (lo64 (ml64 (gd Y k) d) cc 0) bb hbb]))
      go_roundw
      case rel => exact ⟨k + 1, mh64 (gd Y k) d + hi64 (ml64 (gd Y k) d) cc 0, br64 (gd Z k) (lo64 (ml64 (gd Y k) d) cc 0) bb, Z.set k (df64 (gd Z k) (lo64 (ml64 (gd Y k) d) cc 0) bb), hlt, b3, br64_le _ _ _, by go_num, rfl, by go_num, hA.set k _ (by omega) (df64_lt _ _ _), HP⟩
      case measure => (simp [intOf]; try omega)
    · obtain rfl : k = Y.length := by omega
      have hv2 : wv Z + d * wv Y = wv X + (cc + bb) * B64^Y.length := by have := hv.out; rwa [List.take_length] at this
      have hx := hA.row.cell Y.length (by rw [hA.len]; omega)
      have hf := hA.row.free Y.length (by rw [hA.len]; omega)
      have HP := Lib.hid (last_step Z X Y Y.length d cc bb (by rw [hA.len]; omega) hA.wd hcc hbb hv2)
      have HR := Lib.hid hR; clear hR
      have HS := Lib.hid hS; clear hS
      clear hv hlt hk hv2
      go_wp2_with (simp only [sub64 (gd Z Y.length) cc bb hbb])
      go_ret
      exact ⟨Z.set Y.length (df64 (gd Z Y.length) cc bb), br64 (gd Z Y.length) cc bb, hA.set _ _ (by omega) (df64_lt _ _ _), br64_le _ _ _, HP.out, rfl⟩
end Go.Proofs.YtkpkifhjedlieaaDoor
