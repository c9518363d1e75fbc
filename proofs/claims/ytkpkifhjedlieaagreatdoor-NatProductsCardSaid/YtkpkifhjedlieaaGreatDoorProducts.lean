/-
  The walk of the law NatProducts.
-/
import Derived.Test.YtkpkifhjedlieaaGreatDoorRefMul2
import Derived.Test.YtkpkifhjedlieaaGreatDoorSanity
namespace Go.Proofs.YtkpkifhjedlieaaGreatDoor
open Go.RowKit NM
theorem same_str (s : ByteArray) : (s.toList == s.toList) = true := beq_self_eq_true _
set_option maxRecDepth 100000 in
set_option maxHeartbeats 8000000 in
theorem products_walk (w : World) (v0 v1 : Value) (h0 : ∀ W, Below w.heap.size w W → Calls Tryz.prog 11 #[v0] W (MadeQ W)) (h1 : ∀ W, Below w.heap.size w W → Calls Tryz.prog 11 #[v1] W (MadeQ W))
    (hT : DB w) (hg : 2 < w.heap.size) (hP : P10 w) (hg2 : 3 < w.heap.size) :
    Calls Tryz.prog 4 #[v0, v1] w fun e w' => e = .returned (.bool true) ∧ Below w.heap.size w w' := by
  have hB := Below.refl w.heap.size w
  go_enter Tryz.func4, Tryz.ntmps4
  go_wp2_with fail
  refine (sanity_any w hT hg hP hg2).mono ?_
  rintro e w' ⟨rfl, b⟩
  replace hB := hB.trans (b.mono hB.size); clear b
  go_wp2_with fail
  refine (h0 _ hB).mono ?_
  rintro e w' ⟨A, sA, rfl, rfl⟩
  go_wp2_with fail
  refine (h1 _ hB).mono ?_
  rintro e w' ⟨B, sB, rfl, rfl⟩
  have a1 : A.size ≤ 4294967296 := by omega
  have b1 : B.size ≤ 4294967296 := by omega
  have a2 : A.size ≤ 1000000000 := by omega
  have b2 : B.size ≤ 1000000000 := by omega
  have Q := Lib.hid (And.intro (And.intro a1 b1) (And.intro a2 b2)); clear a1 b1 a2 b2 sA sB
  go_wp2_with fail
  refine (Mul_any _ A B Q.out.1.1 Q.out.1.2).mono ?_
  rintro e w' ⟨rfl, b⟩
  replace hB := hB.trans (b.mono hB.size); clear b
  go_wp2_with fail
  refine (RefMul_any _ A B Q.out.2.1 Q.out.2.2).mono ?_
  rintro e w' ⟨rfl, b⟩
  replace hB := hB.trans (b.mono hB.size); clear b
  go_wp2_with fail
  refine (Mul_any _ A A Q.out.1.1 Q.out.1.1).mono ?_
  rintro e w' ⟨rfl, b⟩
  replace hB := hB.trans (b.mono hB.size); clear b
  go_wp2_with fail
  refine (RefMul_any _ A A Q.out.2.1 Q.out.2.1).mono ?_
  rintro e w' ⟨rfl, b⟩
  replace hB := hB.trans (b.mono hB.size); clear b
  go_wp2
  go_ret
  exact ⟨rfl, hB⟩
end Go.Proofs.YtkpkifhjedlieaaGreatDoor
