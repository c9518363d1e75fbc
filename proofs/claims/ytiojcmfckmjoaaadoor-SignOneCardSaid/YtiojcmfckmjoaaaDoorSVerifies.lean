/-
  The walk of the law SignVerifies.
-/
import Derived.Test.YtiojcmfckmjoaaaDoorSSan
namespace Go.Proofs.YtiojcmfckmjoaaaDoor.S5
open Go.RowKit GM SH G4
theorem cut300 (t : ByteArray) : ∃ m : Nat, min (t.size : Int) 300 = (m : Int) ∧ m ≤ t.size ∧ (t.extract 0 m).size ≤ 300 :=
  ⟨min t.size 300, by omega, by omega, by rw [ByteArray.size_extract]; omega⟩
set_option maxRecDepth 100000 in
set_option maxHeartbeats 2000000 in
theorem verifies_walk (w : World) (s : ByteArray) (hs : s.size ≤ 140737488355300) (t : ByteArray) (_ht : t.size ≤ 140737488355300) (hT : TS w) :
    Calls Tryd.prog 3 #[.string s, .string t] w fun e w' => e = .returned (.bool true) ∧ Below w.heap.size w w' := by
  obtain ⟨m, m1, m4, hxs⟩ := cut300 t
  have m2 : (m : Int) ≤ (t.size : Int) := by omega
  have m3 : (0 : Int) ≤ (m : Int) := by omega
  obtain ⟨u, hu⟩ : ∃ x, t.extract 0 m = x := ⟨_, rfl⟩
  rw [hu] at hxs
  have C0 := Lib.hid fun W (h : TS W) => sanity_any W h
  have C1 := Lib.hid fun W (h : TB W) => Key_any W s hs h
  have x0 := nz_rng (sc_rng (ks s))
  generalize nz (sc (ks s)) = x at *
  have C2 := fun W (h : TB W) => Sign_any W x u (by omega) (by omega) h
  rw [ex_id x (by omega)] at C2
  have C2 := Lib.hid C2
  have n0 := nn_rng x u
  have p1 := pk_rng (nn x u)
  have p2 := pk_rng x
  have p3 := sS_rng x (nn x u) u
  have e1 := vf_sig x (nn x u) u (by omega) (by omega)
  have V1 := fun W (h : TB W) => Verify_any W (pk x) u (pk (nn x u)) (sS x (nn x u) u) (by omega) (by omega) (by omega) (by omega) h
  rw [e1] at V1
  have V1 := Lib.hid V1
  generalize sS x (nn x u) u = v at *
  generalize pk (nn x u) = r at *
  generalize pk x = y at *
  have HT := Lib.hid (sk_start hT); clear hT hs e1 n0 p1 p2 p3 x0 hxs
  go_enter Tryd.func3, Tryd.ntmps3
  go_wp2_with fail
  refine (C0.out _ HT.out.t).mono ?_
  rintro e w1 ⟨rfl, b⟩
  have K1 := Lib.hid (HT.out.next b); clear b HT
  go_wp2_with fail
  refine (C1.out _ K1.out.t.tb).mono ?_
  rintro e w2 ⟨rfl, b⟩
  have K2 := Lib.hid (K1.out.next b); clear b K1
  go_wp2_with fail
  refine (C2.out _ K2.out.t.tb).mono ?_
  rintro e w3 ⟨rfl, b⟩
  have K3 := Lib.hid (K2.out.next b); clear b K2
  go_wp2_with fail
  refine (V1.out _ K3.out.t.tb).mono ?_
  rintro e w4 ⟨rfl, b⟩
  have K4 := Lib.hid (K3.out.next b); clear b K3
  go_wp2
  go_ret
  exact ⟨rfl, K4.out.b⟩
end Go.Proofs.YtiojcmfckmjoaaaDoor.S5
