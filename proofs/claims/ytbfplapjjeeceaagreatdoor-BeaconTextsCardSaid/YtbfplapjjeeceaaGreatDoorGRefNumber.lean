/-
  The walks of the reference's number, Scalar and Element.
-/
import Derived.Test.YtbfplapjjeeceaaGreatDoorGLawPowers
import Derived.Test.YtbfplapjjeeceaaGreatDoorGRefB
import Derived.Test.YtbfplapjjeeceaaGreatDoorRefSum
namespace Go.Proofs.YtbfplapjjeeceaaGreatDoor.G4
open Go.RowKit GM SH
/-- the first k + 1 bytes of l as a number, without the first digit -/
def rn (l : List UInt8) : Nat → Nat
  | 0 => gb l 0 % 128
  | k+1 => rn l k * 256 + gb l (k+1)
theorem rn_lt (l : List UInt8) : ∀ k, rn l k < 128 * 256^k
  | 0 => by simp [rn]; omega
  | k+1 => by
    have h := rn_lt l k
    have : gb l (k+1) < 256 := gb_lt l (k+1)
    unfold rn
    rw [Nat.pow_succ]
    omega
theorem rn_small (l : List UInt8) (k : Nat) (hk : k ≤ 6) : rn l k < 36028797018963968 := by
  have h := rn_lt l k
  have h2 : 256^k ≤ 256^6 := Nat.pow_le_pow_right (by omega) hk
  have h3 : 256^6 = 281474976710656 := by decide
  omega
theorem rn_num (l : List UInt8) : ((rn l 7 : Nat) : Int) = hnum l := by
  have h0 := gb_lt l 0
  have h1 := gb_lt l 1
  have h2 := gb_lt l 2
  have h3 := gb_lt l 3
  have h4 := gb_lt l 4
  have h5 := gb_lt l 5
  have h6 := gb_lt l 6
  have h7 := gb_lt l 7
  unfold hnum
  simp only [rn, num]
  generalize gb l 0 = x0 at *
  generalize gb l 1 = x1 at *
  generalize gb l 2 = x2 at *
  generalize gb l 3 = x3 at *
  generalize gb l 4 = x4 at *
  generalize gb l 5 = x5 at *
  generalize gb l 6 = x6 at *
  generalize gb l 7 = x7 at *
  omega
set_option maxRecDepth 100000 in
theorem refNumber_any (w : World) (l : List UInt8) (hl : l.length = 32) :
    Calls Tryz.prog 68 #[hval l] w fun e w' => e = .returned (.int .i64 (hnum l)) ∧ Below w.heap.size w w' := by
  obtain ⟨W, hW⟩ : ∃ W, w.alloc (.cells (hcells l) 109) = W := ⟨_, rfl⟩
  have hB : Below w.heap.size w W := by rw [← hW]; exact (Below.refl _ w).alloc (Nat.le_refl _) _
  have hM : HM W w.heap.size l := by rw [← hW]; exact heap_alloc_new _ _
  have hC := Lib.hid (fun j (hj : j < 32) => hM.cell j (by omega))
  clear hM
  have HB := Lib.hid hB; clear hB
  have hc0 := hC.out 0 (by decide)
  obtain ⟨d0, hd0⟩ : ∃ d, gb l 0 = d := ⟨_, rfl⟩
  rw [hd0] at hc0
  have hd256 : d0 < 256 := by rw [← hd0]; exact gb_lt l 0
  obtain ⟨v0, hv0⟩ : ∃ v, rn l 0 = v := ⟨_, rfl⟩
  have hmd : Int.tmod (d0 : Int) 128 = (v0 : Int) := by rw [← hv0, Int.tmod_eq_emod_of_nonneg (by omega)]; show _ = ((gb l 0 % 128 : Nat) : Int); rw [hd0]; omega
  have hv128 : v0 < 128 := by rw [← hv0]; exact Nat.mod_lt _ (by decide)
  have H0 := Lib.hid hv0.symm
  clear hd0 hv0
  go_enter Tryz.func68, Tryz.ntmps68
  go_upto_region 1 with fail
  clear hW
  go_wp2_with fail
  go_loop [3, 4] (fun n i => ∃ (k V : Nat), k ≤ 7 ∧ Hid (V = rn l k) ∧ n = .int .i64 V ∧ i = .int .i64 ((k + 1 : Nat) : Int)) (fun _ i => 8 - (intOf i).toNat)
  case atStart => exact ⟨0, v0, Nat.zero_le _, H0, rfl, rfl⟩
  case round =>
    obtain ⟨k, V, hk, hV, rfl, rfl⟩ := hrel
    by_cases hk8 : k < 7
    · have hc := hC.out (k+1) (by omega)
      have hg : gb l (k+1) < 256 := gb_lt l (k+1)
      have hb : V < 36028797018963968 := by rw [hV.out]; exact rn_small l k (by omega)
      have hN := Lib.hid (show V * 256 + gb l (k+1) = rn l (k+1) by rw [hV.out]; rfl)
      generalize gb l (k+1) = d at *
      obtain ⟨j, hj⟩ : ∃ j, k + 1 = j := ⟨_, rfl⟩
      rw [hj] at hc hN
      obtain ⟨V', hV'⟩ : ∃ j, V * 256 + d = j := ⟨_, rfl⟩
      have hVi : (V : Int) * 256 + (d : Int) = (V' : Int) := by omega
      rw [hV'] at hN
      simp only [hj]
      have hj8 : j ≤ 7 := by omega
      have Hj := Lib.hid hj
      clear hj hV'
      go_wp2
      exact ⟨⟨j, V', by omega, hN, rfl, by go_num⟩, by simp only [intOf]; have := Hj.out; omega⟩
    · obtain rfl : k = 7 := by omega
      have hN := Lib.hid (show ((V : Nat) : Int) = hnum l by rw [hV.out, rn_num])
      go_wp2
      go_ret
      exact ⟨ret_int hN.out, HB.out⟩
end Go.Proofs.YtbfplapjjeeceaaGreatDoor.G4
namespace Go.Proofs.YtbfplapjjeeceaaGreatDoor.G4
open Go.RowKit GM SH
set_option maxRecDepth 100000 in
theorem refScalar_any (w : World) (t : ByteArray) (hn : t.size ≤ 199999999999998) :
    Calls Tryz.prog 59 #[.string t] w fun e w' => e = .returned (.int .i64 (sc t)) ∧ Below w.heap.size w w' := by
  have hbig : (9223372036854775807 < 2 + t.size) = False := eq_false (by omega)
  have R1 := refSum_any w ((⟨#[115, 47]⟩ : ByteArray) ++ t) (by rw [pre_size]; omega)
  have E := Lib.hid (show sc t = hnum (sha ((⟨#[115, 47]⟩ : ByteArray) ++ t).data.toList) % 1152921504606845789 from rfl)
  obtain ⟨l, hl⟩ : ∃ l, sha ((⟨#[115, 47]⟩ : ByteArray) ++ t).data.toList = l := ⟨_, rfl⟩
  have hl32 : l.length = 32 := by rw [← hl]; exact sha_len _
  rw [hl] at R1 E
  have R2 := Lib.hid fun W => refNumber_any W l hl32
  have R1 := Lib.hid R1
  have hr := hnum_lt l
  have hmod : Int.tmod (hnum l) 1152921504606845789 = hnum l % 1152921504606845789 := Int.tmod_eq_emod_of_nonneg hr.1
  clear hl hl32
  generalize hnum l = v at *
  obtain ⟨u, hu⟩ : ∃ u, v % 1152921504606845789 = u := ⟨_, rfl⟩
  rw [hu] at hmod E
  have hu2 : 0 ≤ u ∧ u < 1152921504606845789 := by omega
  have HU := Lib.hid hu
  clear hu
  go_enter Tryz.func59, Tryz.ntmps59
  go_wp2_with fail
  refine R1.out.mono ?_
  rintro e w1 ⟨rfl, b1⟩
  go_wp2_with fail
  refine (R2.out _).mono ?_
  rintro e w2 ⟨rfl, b2⟩
  go_wp2
  go_ret
  exact ⟨ret_int E.out.symm, b1.trans (b2.mono b1.size)⟩
set_option maxRecDepth 100000 in
theorem refElement_any (w : World) (t : ByteArray) (hn : t.size ≤ 199999999999998) :
    Calls Tryz.prog 36 #[.string t] w fun e w' => e = .returned (.int .i64 (el t)) ∧ Below w.heap.size w w' := by
  have hbig : (9223372036854775807 < 2 + t.size) = False := eq_false (by omega)
  have R1 := refSum_any w ((⟨#[101, 47]⟩ : ByteArray) ++ t) (by rw [pre_size]; omega)
  have E := Lib.hid (show rt t = 1 + hnum (sha ((⟨#[101, 47]⟩ : ByteArray) ++ t).data.toList) % 2305843009213691578 from rfl)
  have hrt := rt_rng t
  have R3 := Lib.hid (show ∀ W, Calls Tryz.prog 44 #[.int .i64 (rt t), .int .i64 (rt t), .int .i64 2305843009213691579] W fun e w' => e = .returned (.int .i64 (el t)) ∧ w' = W from fun W => refMul_any W (rt t) (rt t) 2305843009213691579 (by omega) (by omega) (by omega) (by omega) (by omega))
  obtain ⟨l, hl⟩ : ∃ l, sha ((⟨#[101, 47]⟩ : ByteArray) ++ t).data.toList = l := ⟨_, rfl⟩
  have hl32 : l.length = 32 := by rw [← hl]; exact sha_len _
  rw [hl] at R1 E
  have R2 := Lib.hid fun W => refNumber_any W l hl32
  have R1 := Lib.hid R1
  have hr := hnum_lt l
  have hmod : Int.tmod (hnum l) 2305843009213691578 = hnum l % 2305843009213691578 := Int.tmod_eq_emod_of_nonneg hr.1
  clear hl hl32
  generalize hnum l = v at *
  obtain ⟨u, hu⟩ : ∃ u, v % 2305843009213691578 = u := ⟨_, rfl⟩
  rw [hu] at hmod E
  have hu2 : 0 ≤ u ∧ u < 2305843009213691578 := by omega
  have HU := Lib.hid hu
  rw [E.out] at R3
  generalize el t = z at *
  clear hu hrt E
  go_enter Tryz.func36, Tryz.ntmps36
  go_wp2_with fail
  refine R1.out.mono ?_
  rintro e w1 ⟨rfl, b1⟩
  go_wp2_with fail
  refine (R2.out _).mono ?_
  rintro e w2 ⟨rfl, b2⟩
  go_wp2_with fail
  refine (R3.out _).mono ?_
  rintro e w3 ⟨rfl, rfl⟩
  go_wp2
  go_ret
  exact ⟨rfl, b1.trans (b2.mono b1.size)⟩
end Go.Proofs.YtbfplapjjeeceaaGreatDoor.G4
