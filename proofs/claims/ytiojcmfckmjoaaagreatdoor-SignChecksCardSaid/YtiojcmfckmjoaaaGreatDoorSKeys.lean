/-
  The walks of the laws SignKeys and SignSigns.
-/
import Derived.Test.YtiojcmfckmjoaaaGreatDoorSRefV
namespace Go.Proofs.YtiojcmfckmjoaaaGreatDoor.S5
open Go.RowKit GM SH G4
set_option maxRecDepth 100000 in
set_option maxHeartbeats 2000000 in
theorem keys_walk (w : World) (t : ByteArray) (_ht : t.size ≤ 140737488355300) (hT : TS w) :
    Calls Tryz.prog 4 #[.string t] w fun e w' => e = .returned (.bool true) ∧ Below w.heap.size w w' := by
  obtain ⟨m, m1, m4, hxs⟩ := cut300 t
  have m2 : (m : Int) ≤ (t.size : Int) := by omega
  have m3 : (0 : Int) ≤ (m : Int) := by omega
  obtain ⟨u, hu⟩ : ∃ x, t.extract 0 m = x := ⟨_, rfl⟩
  rw [hu] at hxs
  have C0 := Lib.hid fun W (h : TS W) => sanity_any W h
  have C1 := Lib.hid fun W (h : TB W) => Key_any W u (by omega) h
  have C2 := Lib.hid fun W => refKey_any W u (by omega)
  have x0 := nz_rng (sc_rng (ks u))
  generalize nz (sc (ks u)) = x at *
  have P1 := Lib.hid fun W => refPow_b W 4 x 2305843009213691579 (pk x) rfl (by decide) (by decide) (by omega) (by decide)
  generalize pk x = y at *
  have HT := Lib.hid (sk_start hT); clear hT hxs
  go_enter Tryz.func4, Tryz.ntmps4
  go_wp2_with fail
  refine (C0.out _ HT.out.t).mono ?_
  rintro e w1 ⟨rfl, b⟩
  have K1 := Lib.hid (HT.out.next b); clear b HT
  go_wp2_with fail
  refine (C1.out _ K1.out.t.tb).mono ?_
  rintro e w2 ⟨rfl, b⟩
  have K2 := Lib.hid (K1.out.next b); clear b K1
  go_wp2_with fail
  refine (C2.out _).mono ?_
  rintro e w3 ⟨rfl, b⟩
  have K3 := Lib.hid (K2.out.next b); clear b K2
  go_wp2_with fail
  refine (P1.out _).mono ?_
  rintro e w4 ⟨rfl, b⟩
  have K4 := Lib.hid (K3.out.next b); clear b K3
  go_wp2
  go_ret
  exact ⟨rfl, K4.out.b⟩
set_option maxRecDepth 100000 in
set_option maxHeartbeats 2000000 in
theorem signs_core (w : World) (s r v : Int) (t u : ByteArray) (m : Nat) (m1 : min (t.size : Int) 300 = (m : Int)) (m2 : (m : Int) ≤ (t.size : Int)) (m3 : (0 : Int) ≤ (m : Int)) (hu : t.extract 0 m = u)
    (C0 : Hid (∀ W (_ : TS W), Calls Tryz.prog 9 #[] W fun e w' => e = .returned (.bool true) ∧ Below W.heap.size W w'))
    (C1 : Hid (∀ W (_ : TB W), Calls Tryz.prog 17 #[.int .i64 s, .string u] W fun e w' => e = .returned (sgv r v) ∧ Below W.heap.size W w'))
    (C2 : Hid (∀ W, Calls Tryz.prog 18 #[.int .i64 s, .string u] W fun e w' => e = .returned (sgv r v) ∧ Below W.heap.size W w'))
    (hT : TS w) :
    Calls Tryz.prog 5 #[.int .i64 s, .string t] w fun e w' => e = .returned (.bool true) ∧ Below w.heap.size w w' := by
  have HT := Lib.hid (sk_start hT); clear hT
  go_enter Tryz.func5, Tryz.ntmps5
  go_wp2_with fail
  refine (C0.out _ HT.out.t).mono ?_
  rintro e w1 ⟨rfl, b⟩
  have K1 := Lib.hid (HT.out.next b); clear b HT
  go_wp2_with fail
  refine (C1.out _ K1.out.t.tb).mono ?_
  rintro e w2 ⟨rfl, b⟩
  have K2 := Lib.hid (K1.out.next b); clear b K1
  go_wp2_with fail
  refine (C2.out _).mono ?_
  rintro e w3 ⟨rfl, b⟩
  have K3 := Lib.hid (K2.out.next b); clear b K2
  go_wp2
  go_ret
  exact ⟨rfl, K3.out.b⟩
theorem signs_walk (w : World) (s : Int) (hs : -9223372036854775808 ≤ s ∧ s ≤ 9223372036854775807) (t : ByteArray) (_ht : t.size ≤ 140737488355300) (hT : TS w) :
    Calls Tryz.prog 5 #[.int .i64 s, .string t] w fun e w' => e = .returned (.bool true) ∧ Below w.heap.size w w' := by
  obtain ⟨m, m1, m4, hxs⟩ := cut300 t
  exact signs_core w s (pk (nn (ex s) (t.extract 0 m))) (sS (ex s) (nn (ex s) (t.extract 0 m)) (t.extract 0 m)) t (t.extract 0 m) m m1 (by omega) (by omega) rfl (Lib.hid fun W h => sanity_any W h)
    (Lib.hid fun W h => Sign_any W s _ hs (by omega) h) (Lib.hid fun W => refSign_any W s _ hs (by omega)) hT
end Go.Proofs.YtiojcmfckmjoaaaGreatDoor.S5
