/-
  The walk of nat.add: it adds words in place and drops a carry out of them.
-/
import Derived.Test.YtkpkifhjedlieaaDoorArith
namespace Go.Proofs.YtkpkifhjedlieaaDoor
open Go.RowKit NM
def AddQ (X Y : List Nat) (b o : Nat) (w : World) (e : Ending) (w' : World) : Prop :=
  ∃ (Z : List Nat) (c : Nat), At X.length b o w Z w' ∧ wv Z + c * B64^X.length = wv X + wv Y ∧ c ≤ 1 ∧ e = .returned (.tuple #[])
set_option maxHeartbeats 1000000 in
theorem add_any (w : World) (b o cap b2 o2 cap2 : Nat) (X Y : List Nat) (hR : Row w b o X) (hS : Row w b2 o2 Y) (hX : Wd X) (hY : Wd Y) (hne : b2 ≠ b) (hb2 : b2 < w.heap.size)
    (hn : X.length ≤ 9223372036854775806) (hc : X.length ≤ cap) (hc2 : Y.length ≤ cap2) (hm : Y.length ≤ X.length) :
    Calls Tryd.prog 28 #[.slice (some ⟨b, o, none⟩) X.length cap, .slice (some ⟨b2, o2, none⟩) Y.length cap2] w (AddQ X Y b o w) := by
  go_enter Tryd.func28, Tryd.ntmps28
  go_wp2
  go_loopw [4, 10] (fun c i wr => ∃ (k cc : Nat) (Z : List Nat), k ≤ Y.length ∧ cc ≤ 1 ∧ c = .int .u64 (cc : Nat) ∧ i = .int .i64 (k : Nat) ∧ At X.length b o w Z wr ∧ Hid (wv Z + cc * B64^k = wv X + wv (Y.take k))) (fun _ i _ => Y.length - (intOf i).toNat)
  case atStart => exact ⟨0, 0, X, Nat.zero_le _, Nat.zero_le _, rfl, rfl, At.start hX hR, by show _ = _; simp [wv]⟩
  case round =>
    obtain ⟨k, cc, Z, hk, hcc, rfl, rfl, hA, hv⟩ := hrel
    by_cases hlt : k < Y.length
    · have hx := hA.row.cell k (by rw [hA.len]; omega)
      have hf := hA.row.free k (by rw [hA.len]; omega)
      have hy := (hA.only.row hS hne hb2).cell k hlt
      have HR := Lib.hid hR; clear hR
      have HS := Lib.hid hS; clear hS
      go_wp2_with (simp only [add64 (gd Z k) (gd Y k) cc hcc])
      go_roundw
      case rel => exact ⟨k + 1, hi64 (gd Z k) (gd Y k) cc, Z.set k (lo64 (gd Z k) (gd Y k) cc), hlt, hi64_le (Wd_getD hA.wd k) (Wd_getD hY k) hcc, rfl, by go_num, hA.set k _ (by omega) (lo64_lt _ _ _), by
        show _ = _
        exact (add_step Z X Y k cc (by rw [hA.len]; omega) hlt hA.wd hY hcc hv.out).1⟩
      case measure => (simp [intOf]; try omega)
    · obtain rfl : k = Y.length := by omega
      have hv2 : Hid (wv Z + cc * B64^Y.length = wv X + wv Y) := by have := hv.out; rwa [List.take_length] at this
      have HR := Lib.hid hR; clear hR
      have HS := Lib.hid hS; clear hS
      clear hv hlt hk
      go_wp2
      go_loopw [4, 7] (fun c i wr => ∃ (k cc : Nat) (Z : List Nat), Y.length ≤ k ∧ k ≤ X.length ∧ cc ≤ 1 ∧ c = .int .u64 (cc : Nat) ∧ i = .int .i64 (k : Nat) ∧ At X.length b o w Z wr ∧ Hid (wv Z + cc * B64^k = wv X + wv Y)) (fun _ i _ => X.length - (intOf i).toNat)
      case atStart => exact ⟨Y.length, cc, Z, Nat.le_refl _, hm, hcc, rfl, rfl, hA, hv2⟩
      case round =>
        clear hv2 hA hcc
        obtain ⟨k, cc, Z, hk, hkn, hcc, rfl, rfl, hA, hv⟩ := hrel
        by_cases h0 : cc = 0
        · subst h0
          go_wp2
          go_end0
          exact ⟨Z, 0, hA, by have := hv.out; omega, by omega, rfl⟩
        · have hb0 : ((cc : Int) != 0) = true := by simp; omega
          by_cases hlt : k < X.length
          · have hx := hA.row.cell k (by rw [hA.len]; omega)
            have hf := hA.row.free k (by rw [hA.len]; omega)
            have hd : decide ((k : Int) < (X.length : Int)) = true := by simp; omega
            go_wp2_with (simp only [add64_y0 (gd Z k) cc hcc])
            go_roundw
            case rel => exact ⟨k + 1, hi64 (gd Z k) 0 cc, Z.set k (lo64 (gd Z k) 0 cc), by omega, by omega, hi64_le (Wd_getD hA.wd k) B64_pos hcc, rfl, by go_num, hA.set k _ (by omega) (lo64_lt _ _ _), by
              show _ = _
              have := (carry_step Z k cc (wv X + wv Y) (by rw [hA.len]; omega) hA.wd (by have := B64_pos; unfold B64; omega) hv.out).1
              simpa [hi64, lo64, gd] using this⟩
            case measure => (simp [intOf]; try omega)
          · obtain rfl : k = X.length := by omega
            go_wp2
            go_end0
            exact ⟨Z, cc, hA, hv.out, hcc, rfl⟩
end Go.Proofs.YtkpkifhjedlieaaDoor
