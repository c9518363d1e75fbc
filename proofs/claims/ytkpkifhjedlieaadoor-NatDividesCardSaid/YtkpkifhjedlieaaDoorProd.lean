/-
  The walks of nat.addProduct and nat.product.
-/
import Derived.Test.YtkpkifhjedlieaaDoorArith
import Derived.Test.YtkpkifhjedlieaaDoorShelf
namespace Go.Proofs.YtkpkifhjedlieaaDoor
open Go.RowKit NM
def mh64 (x y : Nat) : Nat := x * y / B64
def ml64 (x y : Nat) : Nat := x * y % B64
theorem mul64_any (x y : Nat) (hx : x < 18446744073709551616) (hy : y < 18446744073709551616) (w : World) :
    Calls Tryd.prog 63 #[.int .u64 x, .int .u64 y] w fun e w' => e = .returned (.tuple #[.int .u64 (mh64 x y : Nat), .int .u64 (ml64 x y : Nat)]) ∧ w = w' :=
  (Tryd.bits_Mul64 x y hx hy w).mono fun _ _ ⟨h1, h2⟩ => ⟨h1, h2.symm⟩
/-- a digit of a product, with what is carried and what is there -/
theorem prod_digit (x y d c : Nat) (hx : x < B64) (hy : y < B64) (hd : d < B64) (hc : c < B64) :
    lo64 x (lo64 (ml64 y d) c 0) 0 = (x + y * d + c) % B64 ∧ mh64 y d + hi64 (ml64 y d) c 0 + hi64 x (lo64 (ml64 y d) c 0) 0 = (x + y * d + c) / B64 ∧ (x + y * d + c) / B64 < B64 := by
  have hm := mul_digit x y d c hx hy hd hc
  have e1 := Nat.div_add_mod (y * d) B64
  have e2 := Nat.div_add_mod (y * d % B64 + c + 0) B64
  have e3 := Nat.div_add_mod (x + (y * d % B64 + c + 0) % B64 + 0) B64
  have l3 := Nat.mod_lt (x + (y * d % B64 + c + 0) % B64 + 0) B64_pos
  unfold lo64 hi64 mh64 ml64
  generalize y * d / B64 = a at *
  generalize y * d % B64 = a' at *
  generalize (a' + c + 0) / B64 = f at *
  generalize (a' + c + 0) % B64 = f' at *
  generalize (x + f' + 0) / B64 = g at *
  generalize (x + f' + 0) % B64 = g' at *
  have tot : x + y * d + c = B64 * (a + f + g) + g' := by rw [← e1, Nat.mul_add, Nat.mul_add]; omega
  have q : (x + y * d + c) / B64 = a + f + g := by rw [tot, Nat.mul_add_div B64_pos, Nat.div_eq_of_lt l3, Nat.add_zero]
  have r : (x + y * d + c) % B64 = g' := by rw [tot, Nat.mul_add_mod, Nat.mod_eq_of_lt l3]
  exact ⟨r.symm, q.symm, hm⟩
theorem ml64_lt (x y : Nat) : ml64 x y < B64 := Nat.mod_lt _ B64_pos
def ProdQ (X Y : List Nat) (d b o : Nat) (w : World) (e : Ending) (w' : World) : Prop :=
  ∃ Z, At X.length b o w Z w' ∧ wv Z = wv X + d * wv Y ∧ e = .returned (.tuple #[])
theorem room_carry {Z : List Nat} {n k c V : Nat} (hV : V < B64^n) (hv : wv Z + c * B64^k = V) (hc : c ≠ 0) : k < n := by
  apply Nat.lt_of_not_le; intro h
  have h2 : B64^n ≤ B64^k := Nat.pow_le_pow_right B64_pos h
  have h3 : B64^k ≤ c * B64^k := Nat.le_mul_of_pos_left _ (by omega)
  omega
theorem add64_c0' (x y : Nat) (w : World) :
    (callFunc 47 #[.int .u64 x, .int .u64 y, .int .u64 0]).run Tryd.prog w = .ok (.value (.tuple #[.int .u64 (lo64 x y 0 : Nat), .int .u64 (hi64 x y 0 : Nat)])) w := add64 x y 0 (by omega) w
theorem hi_le (x y : Nat) (hx : x < B64) (hy : y < B64) : hi64 x y 0 ≤ 1 := hi64_le hx hy (by omega)
set_option maxHeartbeats 1000000 in
theorem addProduct_any (w : World) (b o cap b2 o2 cap2 d : Nat) (X Y : List Nat) (hR : Row w b o X) (hS : Row w b2 o2 Y) (hX : Wd X) (hY : Wd Y) (hne : b2 ≠ b) (hb2 : b2 < w.heap.size)
    (hd : d < 18446744073709551616) (hn : X.length ≤ 9223372036854775806) (hc : X.length ≤ cap) (hc2 : Y.length ≤ cap2) (hm : Y.length ≤ X.length) (hroom : wv X + d * wv Y < B64^X.length) :
    Calls Tryd.prog 48 #[.slice (some ⟨b, o, none⟩) X.length cap, .slice (some ⟨b2, o2, none⟩) Y.length cap2, .int .u64 (d : Nat)] w (ProdQ X Y d b o w) := by
  have HRoom := Lib.hid hroom; clear hroom
  go_enter Tryd.func48, Tryd.ntmps48
  go_wp2
  go_loopw [6, 15] (fun c i wr => ∃ (k cc : Nat) (Z : List Nat), k ≤ Y.length ∧ cc < 18446744073709551616 ∧ c = .int .u64 (cc : Nat) ∧ i = .int .i64 (k : Nat) ∧ At X.length b o w Z wr ∧ Hid (wv Z + cc * B64^k = wv X + d * wv (Y.take k))) (fun _ i _ => Y.length - (intOf i).toNat)
  case atStart => exact ⟨0, 0, X, Nat.zero_le _, by omega, rfl, rfl, At.start hX hR, by show _ = _; simp [wv]⟩
  case round =>
    obtain ⟨k, cc, Z, hk, hcc, rfl, rfl, hA, hv⟩ := hrel
    by_cases hlt : k < Y.length
    · have hx := hA.row.cell k (by rw [hA.len]; omega)
      have hf := hA.row.free k (by rw [hA.len]; omega)
      have hy := (hA.only.row hS hne hb2).cell k hlt
      obtain ⟨p1, p2, p3⟩ := prod_digit (gd Z k) (gd Y k) d cc (Wd_getD hA.wd k) (Wd_getD hY k) hd hcc
      have b3 : mh64 (gd Y k) d + hi64 (ml64 (gd Y k) d) cc 0 + hi64 (gd Z k) (lo64 (ml64 (gd Y k) d) cc 0) 0 < 18446744073709551616 := by rw [p2]; exact p3
      have P1 := Lib.hid p1; have P2 := Lib.hid p2; clear p1 p2 p3
      have HR := Lib.hid hR; clear hR
      have HS := Lib.hid hS; clear hS
      have gy := gd_lt hY k
      go_wp2_with (first | (go_at_call 63; refine (mul64_any (gd Y k) d gy hd _).mono ?_; rintro e w' ⟨rfl, rfl⟩) | (simp only [add64_c0 (ml64 (gd Y k) d) cc]) | (simp only [add64_c0 (gd Z k) (lo64 (ml64 (gd Y k) d) cc 0)]))
      go_roundw
      case rel => exact ⟨k + 1, mh64 (gd Y k) d + hi64 (ml64 (gd Y k) d) cc 0 + hi64 (gd Z k) (lo64 (ml64 (gd Y k) d) cc 0) 0, Z.set k (lo64 (gd Z k) (lo64 (ml64 (gd Y k) d) cc 0) 0), hlt, b3, by go_num, by go_num, hA.set k _ (by omega) (lo64_lt _ _ _), by
        show _ = _
        rw [P2.out, P1.out]
        exact mulAdd_step Z X Y k cc d (by rw [hA.len]; omega) hlt hv.out⟩
      case measure => (simp [intOf]; try omega)
    · obtain rfl : k = Y.length := by omega
      have hv2 : Hid (wv Z + cc * B64^Y.length = wv X + d * wv Y) := by have := hv.out; rwa [List.take_length] at this
      have HR := Lib.hid hR; clear hR
      have HS := Lib.hid hS; clear hS
      clear hv hlt hk
      go_wp2
      go_loopw [6, 12] (fun c i wr => ∃ (k cc : Nat) (Z : List Nat), Y.length ≤ k ∧ k ≤ X.length ∧ cc < 18446744073709551616 ∧ c = .int .u64 (cc : Nat) ∧ i = .int .i64 (k : Nat) ∧ At X.length b o w Z wr ∧ Hid (wv Z + cc * B64^k = wv X + d * wv Y)) (fun _ i _ => X.length - (intOf i).toNat)
      case atStart => exact ⟨Y.length, cc, Z, Nat.le_refl _, hm, hcc, rfl, rfl, hA, hv2⟩
      case round =>
        clear hv2 hA hcc
        obtain ⟨k, cc, Z, hk, hkn, hcc, rfl, rfl, hA, hv⟩ := hrel
        by_cases h0 : cc = 0
        · subst h0
          go_wp2
          go_end0
          exact ⟨Z, hA, by have := hv.out; omega, rfl⟩
        · have hb0 : ((cc : Int) != 0) = true := by simp; omega
          have hlt : k < X.length := room_carry HRoom.out hv.out h0
          have hx := hA.row.cell k (by rw [hA.len]; omega)
          have hf := hA.row.free k (by rw [hA.len]; omega)
          go_wp2_with (simp only [add64_c0 (gd Z k) cc])
          go_roundw
          case rel => exact ⟨k + 1, hi64 (gd Z k) cc 0, Z.set k (lo64 (gd Z k) cc 0), by omega, by omega, by have := hi_le (gd Z k) cc (Wd_getD hA.wd k) hcc; omega, rfl, by go_num, hA.set k _ (by omega) (lo64_lt _ _ _), by
            show _ = _
            have := (carry_step Z k cc (wv X + d * wv Y) (by rw [hA.len]; omega) hA.wd hcc hv.out).1
            simpa [hi64, lo64, gd] using this⟩
          case measure => (simp [intOf]; try omega)
end Go.Proofs.YtkpkifhjedlieaaDoor
