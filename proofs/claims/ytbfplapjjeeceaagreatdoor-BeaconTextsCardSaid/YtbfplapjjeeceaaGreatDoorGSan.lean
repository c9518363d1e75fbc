/-
  The walk of the law's sanity: the document's examples.
-/
import Derived.Test.YtbfplapjjeeceaaGreatDoorGPow
import Derived.Test.YtbfplapjjeeceaaGreatDoorGFermat
namespace Go.Proofs.YtbfplapjjeeceaaGreatDoor.G4
open Go.RowKit GM
theorem Quiet.below {u w : World} (h : Quiet u w) (B : Nat) : Below B u w := ⟨h.os, h.tape, h.output, by rw [h.heap]; exact Nat.le_refl _, fun b hb => by rw [h.heap]⟩
theorem gp_nat (b e m : Nat) (hm : 1 ≤ m) (he : e < 2^64) : gp (b : Int) (e : Int) (m : Int) = ((NM.pw m 64 b e : Nat) : Int) := by
  unfold gp
  rw [if_neg (by omega), NM.pw_eq _ _ _ _ he, Int.toNat_natCast, Int.natCast_emod, Int.natCast_pow]
theorem add_k (w : World) (a b m r : Int) (h : ga a b m = r) (ha : -9223372036854775808 ≤ a) (ha2 : a ≤ 9223372036854775807) (hb : -9223372036854775808 ≤ b) (hb2 : b ≤ 9223372036854775807) (hm2 : m ≤ 9223372036854775807) :
    Calls Tryz.prog 72 #[.int .i64 a, .int .i64 b, .int .i64 m] w fun e w' => e = .returned (.int .i64 r) ∧ w' = w := by rw [← h]; exact Add_any w a b m ha ha2 hb hb2 hm2
theorem sub_k (w : World) (a b m r : Int) (h : gs a b m = r) (ha : -9223372036854775808 ≤ a) (ha2 : a ≤ 9223372036854775807) (hb : -9223372036854775808 ≤ b) (hb2 : b ≤ 9223372036854775807) (hm2 : m ≤ 9223372036854775807) :
    Calls Tryz.prog 121 #[.int .i64 a, .int .i64 b, .int .i64 m] w fun e w' => e = .returned (.int .i64 r) ∧ w' = w := by rw [← h]; exact Sub_any w a b m ha ha2 hb hb2 hm2
theorem mul_k (w : World) (a b m r : Int) (h : gm a b m = r) (ha : -9223372036854775808 ≤ a) (ha2 : a ≤ 9223372036854775807) (hb : -9223372036854775808 ≤ b) (hb2 : b ≤ 9223372036854775807) (hm2 : m ≤ 9223372036854775807) :
    Calls Tryz.prog 24 #[.int .i64 a, .int .i64 b, .int .i64 m] w fun e w' => e = .returned (.int .i64 r) ∧ w' = w := by rw [← h]; exact Mul_any w a b m ha ha2 hb hb2 hm2
theorem pow_k (w : World) (a n m r : Int) (h : gp a n m = r) (ha : -9223372036854775808 ≤ a) (ha2 : a ≤ 9223372036854775807) (hn : n ≤ 9223372036854775807) (hm2 : m ≤ 9223372036854775807) :
    Calls Tryz.prog 21 #[.int .i64 a, .int .i64 n, .int .i64 m] w fun e w' => e = .returned (.int .i64 r) ∧ Below w.heap.size w w' := by rw [← h]; exact Pow_any w a n m ha ha2 hn hm2
theorem inv_k (w : World) (a m i : Int) (ok : Bool) (h : IsInv a m i ok) (ha : -9223372036854775808 ≤ a) (ha2 : a ≤ 9223372036854775807) (hm2 : m ≤ 9223372036854775807) :
    Calls Tryz.prog 122 #[.int .i64 a, .int .i64 m] w fun e w' => e = .returned (.tuple #[.int .i64 i, .bool ok]) ∧ Below w.heap.size w w' :=
  (Inv_any w a m ha ha2 hm2).mono fun e w' ⟨j, is, h1, h2, q⟩ => by
    obtain ⟨rfl, rfl⟩ := h.unique h1
    exact ⟨h2, q ▸ Below.refl _ _⟩
theorem member_k (w : World) (a : Int) (r : Bool) (h : mem a = r) (ha : -9223372036854775808 ≤ a) (ha2 : a ≤ 9223372036854775807) :
    Calls Tryz.prog 32 #[.int .i64 a] w fun e w' => e = .returned (.bool r) ∧ Below w.heap.size w w' := by rw [← h]; exact Member_any w a ha ha2
theorem pow_G : gp 4 1152921504606845789 2305843009213691579 = 1 := (gp_nat 4 1152921504606845789 2305843009213691579 (by decide) (by decide)).trans (by decide +kernel)
theorem mem_4 : mem 4 = true := by unfold mem; rw [pow_G]; decide
end Go.Proofs.YtbfplapjjeeceaaGreatDoor.G4
