/-
  What the group's laws share: cells of a slice of six ints, digits cut off, the calls of the reference at given answers.
-/
import Derived.Test.YtipmoklmolhffaaGRefB
import Derived.OpenShut
import Derived.Laws.Bits128
namespace Go.Proofs.Ytipmoklmolhffaa.G4
open Go.RowKit GM
def fitsI (x : Int) : Prop := -9223372036854775808 ≤ x ∧ x ≤ 9223372036854775807
theorem cells6 (w : World) (t : TypeId) (a b c d e f : Int) (ha : fitsI a) (hb : fitsI b) (hc : fitsI c) (hd : fitsI d) (he : fitsI e) (hf : fitsI f) : ∀ k, k < 6 → ∃ n : Int, fitsI n ∧
    (w.alloc (.cells #[.int .i64 a, .int .i64 b, .int .i64 c, .int .i64 d, .int .i64 e, .int .i64 f] t)).cell? ⟨w.heap.size, k, none⟩ = some (.int .i64 n) := by
  intro k hk
  rw [World.cell?_alloc_at _ _ _ _ rfl]
  match k, hk with
  | 0, _ => exact ⟨a, ha, rfl⟩
  | 1, _ => exact ⟨b, hb, rfl⟩
  | 2, _ => exact ⟨c, hc, rfl⟩
  | 3, _ => exact ⟨d, hd, rfl⟩
  | 4, _ => exact ⟨e, he, rfl⟩
  | 5, _ => exact ⟨f, hf, rfl⟩
theorem and60 (n : Int) : bits .and .i64 n 1152921504606846975 = n % 1152921504606846976 := by
  have h127 : (BitVec.ofInt 64 1152921504606846975).toNat = 2 ^ 60 - 1 := by decide
  have key : (BitVec.ofInt 64 n &&& BitVec.ofInt 64 1152921504606846975).toNat = (n % ((2 ^ 64 : Nat) : Int)).toNat % 2 ^ 60 := by
    rw [BitVec.toNat_and, BitVec.toNat_ofInt, h127, Nat.and_two_pow_sub_one_eq_mod]
  show IntKind.i64.wrap ((BitVec.ofInt 64 n &&& BitVec.ofInt 64 1152921504606846975).toNat : Nat) = n % 1152921504606846976
  rw [key, IntKind.wrap_i64]
  omega
theorem and62 (n : Int) : bits .and .i64 n 4611686018427387903 = n % 4611686018427387904 := by
  have h127 : (BitVec.ofInt 64 4611686018427387903).toNat = 2 ^ 62 - 1 := by decide
  have key : (BitVec.ofInt 64 n &&& BitVec.ofInt 64 4611686018427387903).toNat = (n % ((2 ^ 64 : Nat) : Int)).toNat % 2 ^ 62 := by
    rw [BitVec.toNat_and, BitVec.toNat_ofInt, h127, Nat.and_two_pow_sub_one_eq_mod]
  show IntKind.i64.wrap ((BitVec.ofInt 64 n &&& BitVec.ofInt 64 4611686018427387903).toNat : Nat) = n % 4611686018427387904
  rw [key, IntKind.wrap_i64]
  omega
theorem fits_and (x y : Int) : fitsI (bits .and .i64 x y) := bounds_i64 (wf_bits .and .i64 x y)
theorem fits_wrap (x : Int) : fitsI (IntKind.i64.wrap x) := bounds_i64 (wf_wrap .i64 x)
end Go.Proofs.Ytipmoklmolhffaa.G4
