/-
  The walk of the laws' sanity.
-/
import Derived.Test.YtkniimhgipdbaaaDoorRefText3
namespace Go.Proofs.YtkniimhgipdbaaaDoor
open Go.RowKit SH
theorem str_eq {A B : ByteArray} (h : A.data.toList = B.data.toList) : A = B := by
  cases A with | mk a => cases B with | mk b => exact congrArg ByteArray.mk (Array.ext' h)
set_option maxRecDepth 100000 in
set_option maxHeartbeats 2000000 in
theorem sanity_any (w : World) (hS : SQ w) (hC : CB w) :
    Calls Tryd.prog 5 #[] w fun e w' => e = .returned (.bool true) ∧ Below w.heap.size w w' := by
  have hgC := hC.lt
  have hgS : 0 < w.heap.size := SQ.lt hS
  have s1 := fun W (h : SQ W) (k : CB W) => Sum_any W ⟨#[]⟩ (by decide) h k
  have s2 := fun W (h : SQ W) (k : CB W) => Sum_any W ⟨#[97, 98, 99]⟩ (by decide) h k
  have e1 : sha (ByteArray.mk #[]).data.toList = _ := sha_empty
  have e2 : sha (ByteArray.mk #[97, 98, 99]).data.toList = _ := sha_abc
  obtain ⟨l1, hl1⟩ : ∃ l, sha (ByteArray.mk #[]).data.toList = l := ⟨_, rfl⟩
  obtain ⟨l2, hl2⟩ : ∃ l, sha (ByteArray.mk #[97, 98, 99]).data.toList = l := ⟨_, rfl⟩
  rw [hl1] at s1 e1
  rw [hl2] at s2 e2
  have n1 : l1.length = 32 := by rw [e1]; rfl
  have n2 : l2.length = 32 := by rw [e2]; rfl
  have HE := Lib.hid (And.intro e1 (And.intro e2 (And.intro n1 n2))); clear e1 e2 n1 n2 hl1 hl2
  have HS1 := Lib.hid s1; clear s1
  have HS2 := Lib.hid s2; clear s2
  have HG := Lib.hid (And.intro hS (And.intro hC (And.intro hgS hgC))); clear hS hC hgS hgC
  go_enter Tryd.func5, Tryd.ntmps5
  go_wp2_with fail
  go_must (go_fit (HS1.out _ HG.out.1 HG.out.2.1))
  rintro e w1 ⟨rfl, b1⟩
  go_wp2_with fail
  go_must (go_fit (Text_any _ l1 HE.out.2.2.1))
  rintro e w2 ⟨T, hT, rfl, b2⟩
  have hb2 : Below w.heap.size w w2 := b1.trans (b2.mono b1.size)
  have t1 : T = ⟨#[101, 51, 98, 48, 99, 52, 52, 50, 57, 56, 102, 99, 49, 99, 49, 52, 57, 97, 102, 98, 102, 52, 99, 56, 57, 57, 54, 102, 98, 57, 50, 52, 50, 55, 97, 101, 52, 49, 101, 52, 54, 52, 57, 98, 57, 51, 52, 99, 97, 52, 57, 53, 57, 57, 49, 98, 55, 56, 53, 50, 98, 56, 53, 53]⟩ := str_eq (by rw [hT, HE.out.1]; decide +kernel)
  have HB := Lib.hid hb2; clear b1 b2 hb2 hT
  subst t1
  go_wp2_with fail
  go_must (go_fit (HS2.out _ (SQ.below HG.out.1 HB.out HG.out.2.2.1) (CB.below HG.out.2.1 HB.out HG.out.2.2.2)))
  rintro e w3 ⟨rfl, b3⟩
  go_wp2_with fail
  go_must (go_fit (Text_any _ l2 HE.out.2.2.2))
  rintro e w4 ⟨T, hT, rfl, b4⟩
  have hb4 : Below w.heap.size w w4 := (HB.out.trans (b3.mono HB.out.size)).trans (b4.mono (Nat.le_trans HB.out.size b3.size))
  have t2 : T = ⟨#[98, 97, 55, 56, 49, 54, 98, 102, 56, 102, 48, 49, 99, 102, 101, 97, 52, 49, 52, 49, 52, 48, 100, 101, 53, 100, 97, 101, 50, 50, 50, 51, 98, 48, 48, 51, 54, 49, 97, 51, 57, 54, 49, 55, 55, 97, 57, 99, 98, 52, 49, 48, 102, 102, 54, 49, 102, 50, 48, 48, 49, 53, 97, 100]⟩ := str_eq (by rw [hT, HE.out.2.1]; decide +kernel)
  have HB4 := Lib.hid hb4; clear b3 b4 hb4 hT HB
  subst t2
  go_wp2
  go_ret
  exact ⟨rfl, HB4.out⟩
end Go.Proofs.YtkniimhgipdbaaaDoor
