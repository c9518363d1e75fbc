/-
  The walks of the reference's Int, Bits and Right.
-/
import Derived.Test.YteccbedmpjeamaaGreatDoorRefOf
namespace Go.Proofs.YteccbedmpjeamaaGreatDoor
open Go.RowKit NM
theorem bv_take_succ (l : List UInt8) (k : Nat) (x : UInt8) (h : l[k]? = some x) : bv (l.take (k+1)) = 256 * bv (l.take k) + x.toNat := by
  rw [List.take_add_one, h]
  simp [bv]
theorem sv_tz (a : ByteArray) : bv (tz a).data.toList = sv a := by rw [tz_list, bv_dz]; rfl
theorem tz_pow (a : ByteArray) (h : (tz a).size ≠ 0) : 256^((tz a).size - 1) ≤ sv a := by
  rw [tz_size, dz_eq] at *
  exact nb_length_lt _ _ (by show _ < (nb (bv a.data.toList)).length; omega)
theorem tz_lt (a : ByteArray) : sv a < 256^(tz a).size := by
  have := bv_lt (tz a).data.toList
  rw [sv_tz, len_size] at this
  exact this
theorem w64_id (n : Int) (h : -9223372036854775808 ≤ n ∧ n ≤ 9223372036854775807) : wrap64 n = n := by unfold wrap64; omega
theorem w64_step (N c : Nat) (h : 256 * N + c < 9223372036854775808) : wrap64 (wrap64 ((N : Int) * 256) + wrap64 (c : Int)) = ((256 * N + c : Nat) : Int) := by
  rw [w64_id ((N : Int) * 256) (by omega), w64_id (c : Int) (by omega), w64_id _ (by omega)]
  omega
theorem bv_take_le (l : List UInt8) (k : Nat) : bv (l.take k) ≤ bv l := by
  have h := bv_append (l.take k) (l.drop k)
  rw [List.take_append_drop] at h
  rw [h]
  have h1 : 1 ≤ 256^(l.drop k).length := Nat.pow_pos (by omega)
  have h2 : bv (l.take k) * 1 ≤ bv (l.take k) * 256^(l.drop k).length := Nat.mul_le_mul_left _ h1
  omega
set_option maxRecDepth 100000 in
set_option maxHeartbeats 1000000 in
theorem RefInt_any (w : World) (a : ByteArray) (ha : a.size ≤ 4294967296) :
    Calls Tryz.prog 93 #[.string a] w fun e w' => e = .returned (IntV a) ∧ w = w' := by
  have hc := Canon_any w a ha
  have hv := sv_tz a
  have hp := tz_pow a
  have hl := tz_lt a
  have hIV : IntV a = if sv a < 9223372036854775808 then .tuple #[.int .i64 (sv a : Nat), .bool true] else .tuple #[.int .i64 0, .bool false] := rfl
  generalize IntV a = R at *
  generalize sv a = x at *
  generalize tz a = t at *
  have HC := Lib.hid hc; have HV := Lib.hid hv; have HP := Lib.hid hp; have HL := Lib.hid hl; have HI := Lib.hid hIV
  clear hc hv hp hl ha hIV
  go_enter Tryz.func93, Tryz.ntmps93
  go_wp2_with fail
  refine HC.out.mono ?_
  rintro e w1 ⟨rfl, rfl⟩
  by_cases h8 : 8 < t.size
  · have hd : decide ((8 : Int) < (t.size : Int)) = true := by simp; omega
    have hx : ¬ x < 9223372036854775808 := by
      have h1 := HP.out (by omega)
      have h2 : 256^8 ≤ 256^(t.size - 1) := Nat.pow_le_pow_right (by omega) (by omega)
      omega
    have HX := Lib.hid hx; clear hx
    go_wp2
    go_ret2
    refine ⟨?_, rfl⟩
    rw [HI.out, if_neg HX.out]
    rfl
  · have hd : decide ((8 : Int) < (t.size : Int)) = false := by simp; omega
    by_cases hbig : x < 9223372036854775808
    · have hok : t.size = 8 → ∀ h : 0 < t.size, (t[0]'h).toNat ≤ 127 := by
        intro h8' h
        have hb := byte_at t 0 h
        have h1 := HV.out
        have hlen := len_size t
        cases hh : t.data.toList with
        | nil => rw [hh] at hlen; simp at hlen; omega
        | cons y l =>
          rw [hh] at hb h1 hlen
          have e1 : y = t[0] := by simpa using hb
          rw [bv_cons] at h1
          have h3 : l.length = 7 := by simp at hlen; omega
          rw [h3] at h1
          rw [← e1]
          omega
      have HB := Lib.hid hbig; clear hbig
      have hsz : t.size ≤ 8 := by omega
      by_cases h8' : t.size = 8
      · have hgt : decide ((127 : Int) < ((t[0]'(by omega)).toNat : Int)) = false := by have := hok h8' (by omega); simp; omega
        go_wp2_with fail
        go_loop [4, 5] (fun n k => ∃ j : Nat, j ≤ t.size ∧ n = .int .i64 (bv (t.data.toList.take j) : Nat) ∧ k = .int .i64 (j : Nat)) (fun _ k => t.size - (intOf k).toNat)
        case atStart => exact ⟨0, Nat.zero_le _, by simp, rfl⟩
        case round =>
          obtain ⟨j, hj, rfl, rfl⟩ := hrel
          by_cases hlt : j < t.size
          · have hdj : decide ((j : Int) < (t.size : Int)) = true := by simp; omega
            have hbj := byte_at t j hlt
            have hs := bv_take_succ t.data.toList j _ hbj
            have hle := bv_take_le t.data.toList (j+1)
            rw [HV.out] at hle
            have hx := HB.out
            generalize bv (t.data.toList.take j) = N at *
            generalize hM : bv (t.data.toList.take (j+1)) = M at *
            have hw : IntKind.i64.wrap (((N : Nat) : Int) * 2^8) = ((N * 256 : Nat) : Int) := by rw [IntKind.wrap_i64]; omega
            have HS := Lib.hid (And.intro hs (And.intro hle (And.intro hx hM))); clear hs hle hx hM
            go_wp2
            refine ⟨⟨j + 1, hlt, ?_, by go_num⟩, by simp [intOf]; omega⟩
            obtain ⟨k1, k2, k3, k4⟩ := HS.out
            rw [k4, k1]
            generalize (t[j]'hlt).toNat = c at *
            rw [w64_step N c (by omega)]
          · obtain rfl : j = t.size := by omega
            have hf : bv (t.data.toList.take t.size) = x := by rw [List.take_of_length_le (by rw [len_size]; exact Nat.le_refl _)]; exact HV.out
            rw [hf]
            clear hf
            go_wp2
            go_ret2
            refine ⟨?_, rfl⟩
            rw [HI.out, if_pos HB.out]
            rfl
      · have he : ((t.size : Int) == 8) = false := by simp; omega
        clear hok
        go_wp2_with fail
        go_loop [4, 5] (fun n k => ∃ j : Nat, j ≤ t.size ∧ n = .int .i64 (bv (t.data.toList.take j) : Nat) ∧ k = .int .i64 (j : Nat)) (fun _ k => t.size - (intOf k).toNat)
        case atStart => exact ⟨0, Nat.zero_le _, by simp, rfl⟩
        case round =>
          obtain ⟨j, hj, rfl, rfl⟩ := hrel
          by_cases hlt : j < t.size
          · have hdj : decide ((j : Int) < (t.size : Int)) = true := by simp; omega
            have hbj := byte_at t j hlt
            have hs := bv_take_succ t.data.toList j _ hbj
            have hle := bv_take_le t.data.toList (j+1)
            rw [HV.out] at hle
            have hx := HB.out
            generalize bv (t.data.toList.take j) = N at *
            generalize hM : bv (t.data.toList.take (j+1)) = M at *
            have hw : IntKind.i64.wrap (((N : Nat) : Int) * 2^8) = ((N * 256 : Nat) : Int) := by rw [IntKind.wrap_i64]; omega
            have HS := Lib.hid (And.intro hs (And.intro hle (And.intro hx hM))); clear hs hle hx hM
            go_wp2
            refine ⟨⟨j + 1, hlt, ?_, by go_num⟩, by simp [intOf]; omega⟩
            obtain ⟨k1, k2, k3, k4⟩ := HS.out
            rw [k4, k1]
            generalize (t[j]'hlt).toNat = c at *
            rw [w64_step N c (by omega)]
          · obtain rfl : j = t.size := by omega
            have hf : bv (t.data.toList.take t.size) = x := by rw [List.take_of_length_le (by rw [len_size]; exact Nat.le_refl _)]; exact HV.out
            rw [hf]
            clear hf
            go_wp2
            go_ret2
            refine ⟨?_, rfl⟩
            rw [HI.out, if_pos HB.out]
            rfl
    · have HB := Lib.hid hbig; clear hbig
      have h8' : t.size = 8 := by
        have h1 := HL.out
        have h2 := HB.out
        rcases Nat.lt_or_ge t.size 8 with h | h
        · have h3 : 256^t.size ≤ 256^7 := Nat.pow_le_pow_right (by omega) (by omega)
          omega
        · omega
      have hgt : decide ((127 : Int) < ((t[0]'(by omega)).toNat : Int)) = true := by
        have hb := byte_at t 0 (by omega)
        have h1 := HV.out
        have h2 := HB.out
        have hlen := len_size t
        cases hh : t.data.toList with
        | nil => rw [hh] at hlen; simp at hlen; omega
        | cons y l =>
          rw [hh] at hb h1 hlen
          have e1 : y = t[0] := by simpa using hb
          rw [bv_cons] at h1
          have h3 : l.length = 7 := by simp at hlen; omega
          have h4 := bv_lt l
          rw [h3] at h1 h4
          rw [← e1]
          simp
          omega
      go_wp2
      go_ret2
      refine ⟨?_, rfl⟩
      rw [HI.out, if_neg HB.out]
      rfl
end Go.Proofs.YteccbedmpjeamaaGreatDoor
namespace Go.Proofs.YteccbedmpjeamaaGreatDoor
open Go.RowKit NM
theorem bl_half : ∀ n, n < 256 → 0 < n → bl n = bl (n / 2) + 1 := by decide +kernel
theorem bl_small : ∀ n, n < 256 → bl n ≤ 8 := by decide +kernel
theorem RefRight_any (w : World) (a : ByteArray) :
    Calls Tryz.prog 57 #[.string a] w fun e w' => e = .returned (.bool (rgt a)) ∧ w = w' := by
  by_cases h0 : a.size = 0
  · have er : rgt a = true := by unfold rgt; rw [size_zero_list h0]; rfl
    have ER := Lib.hid er; clear er
    have e1 : ((a.size : Int) == 0) = true := by rw [h0]; rfl
    clear h0
    go_enter Tryz.func57, Tryz.ntmps57
    go_wp2
    go_ret
    exact ⟨by rw [ER.out]; rfl, rfl⟩
  · have hp : 0 < a.size := by omega
    have e1 : ((a.size : Int) == 0) = false := beq_eq_false_iff_ne.2 (by omega)
    have ER := Lib.hid (rgt_get hp)
    go_enter Tryz.func57, Tryz.ntmps57
    go_wp2
    go_ret
    exact ⟨by rw [ER.out]; rfl, rfl⟩
end Go.Proofs.YteccbedmpjeamaaGreatDoor
