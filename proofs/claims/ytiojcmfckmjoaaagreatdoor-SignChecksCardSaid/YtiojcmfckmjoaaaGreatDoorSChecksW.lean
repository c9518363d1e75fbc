/-
  The law SignChecks walked for every input.
-/
import Derived.Test.YtiojcmfckmjoaaaGreatDoorSChecksR
namespace Go.Proofs.YtiojcmfckmjoaaaGreatDoor.S5
open Go.RowKit GM SH G4
theorem i64_of {x b : Int} (h : 0 ≤ x ∧ x < b) (hb : b ≤ 9223372036854775807) : -9223372036854775808 ≤ x ∧ x ≤ 9223372036854775807 := by omega
theorem w64_rng (x : Int) : -9223372036854775808 ≤ wrap64 x ∧ wrap64 x ≤ 9223372036854775807 := by unfold wrap64; omega
theorem checks_mid (w : World) (s r v y dR dS dK : Int) (t u dT du : ByteArray) (m n : Nat) (raw : Bool)
    (m1 : min (t.size : Int) 300 = (m : Int)) (m2 : (m : Int) ≤ (t.size : Int)) (m3 : (0 : Int) ≤ (m : Int)) (hu : t.extract 0 m = u)
    (n1 : min (dT.size : Int) 300 = (n : Int)) (n2 : (n : Int) ≤ (dT.size : Int)) (n3 : (0 : Int) ≤ (n : Int)) (hv : dT.extract 0 n = du) (su : u.size ≤ 300) (sd : du.size ≤ 300)
    (hr : -9223372036854775808 ≤ r ∧ r ≤ 9223372036854775807) (hS : -9223372036854775808 ≤ v ∧ v ≤ 9223372036854775807) (hy : -9223372036854775808 ≤ y ∧ y ≤ 9223372036854775807)
    (hdR : -9223372036854775808 ≤ dR ∧ dR ≤ 9223372036854775807) (hdS : -9223372036854775808 ≤ dS ∧ dS ≤ 9223372036854775807) (hdK : -9223372036854775808 ≤ dK ∧ dK ≤ 9223372036854775807)
    (P1 : Hid (∀ W, Calls Tryz.prog 19 #[.int .i64 s] W fun e w' => e = .returned (.int .i64 y) ∧ Below W.heap.size W w'))
    (C2 : Hid (∀ W, Calls Tryz.prog 18 #[.int .i64 s, .string u] W fun e w' => e = .returned (sgv r v) ∧ Below W.heap.size W w'))
    (hT : TS w) :
    Calls Tryz.prog 6 #[.int .i64 s, .string t, .agg #[.int .i64 dR, .int .i64 dS, .int .i64 dK, .string dT, .bool raw]] w fun e w' => e = .returned (.bool true) ∧ Below w.heap.size w w' := by
  have so : (u ++ du).size ≤ 600 := by rw [ByteArray.size_append]; omega
  have hbig : (9223372036854775807 < u.size + du.size) = False := eq_false (by omega)
  have a1 := w64_rng (r + dR)
  have a2 := w64_rng (v + dS)
  have a3 := w64_rng (y + dK)
  have V := fun (k : Int) (st : ByteArray) (R S : Int) (hk : -9223372036854775808 ≤ k ∧ k ≤ 9223372036854775807) (hR : -9223372036854775808 ≤ R ∧ R ≤ 9223372036854775807) (hS : -9223372036854775808 ≤ S ∧ S ≤ 9223372036854775807) (h : st.size ≤ 600) => Lib.hid fun W (hB : TB W) => Verify_any W k st R S hk hR hS (by omega) hB
  have R := fun (k : Int) (st : ByteArray) (R S : Int) (hk : -9223372036854775808 ≤ k ∧ k ≤ 9223372036854775807) (hR : -9223372036854775808 ≤ R ∧ R ≤ 9223372036854775807) (hS : -9223372036854775808 ≤ S ∧ S ≤ 9223372036854775807) (h : st.size ≤ 600) => Lib.hid fun W => refVerify_any W k st R S hk hR hS (by omega)
  cases raw
  · exact checks_add w s r v y dR dS dK _ _ _ t u dT du (u ++ du) m n _ _ _ _ _ m1 m2 m3 hu n1 n2 n3 hv rfl hbig rfl rfl rfl (Lib.hid fun W h => sanity_any W h) P1 C2
      (V y u r v hy hr hS (by omega)) (R y u r v hy hr hS (by omega)) (V _ (u ++ du) _ _ a3 a1 a2 so) (R _ (u ++ du) _ _ a3 a1 a2 so)
      (V _ u r v a3 hr hS (by omega)) (R _ u r v a3 hr hS (by omega)) (V y (u ++ du) r v hy hr hS so) (R y (u ++ du) r v hy hr hS so)
      (V y u _ _ hy a1 a2 (by omega)) (R y u _ _ hy a1 a2 (by omega)) hT
  · exact checks_raw w s r v y dR dS dK t u dT du (u ++ du) m n _ _ _ _ _ m1 m2 m3 hu n1 n2 n3 hv rfl hbig (Lib.hid fun W h => sanity_any W h) P1 C2
      (V y u r v hy hr hS (by omega)) (R y u r v hy hr hS (by omega)) (V dK (u ++ du) dR dS hdK hdR hdS so) (R dK (u ++ du) dR dS hdK hdR hdS so)
      (V dK u r v hdK hr hS (by omega)) (R dK u r v hdK hr hS (by omega)) (V y (u ++ du) r v hy hr hS so) (R y (u ++ du) r v hy hr hS so)
      (V y u dR dS hy hdR hdS (by omega)) (R y u dR dS hy hdR hdS (by omega)) hT
theorem checks_walk (w : World) (s : Int) (hs : -9223372036854775808 ≤ s ∧ s ≤ 9223372036854775807) (t : ByteArray) (_ht : t.size ≤ 140737488355300) (dR dS dK : Int) (dT : ByteArray) (raw : Bool)
    (hdR : -9223372036854775808 ≤ dR ∧ dR ≤ 9223372036854775807) (hdS : -9223372036854775808 ≤ dS ∧ dS ≤ 9223372036854775807) (hdK : -9223372036854775808 ≤ dK ∧ dK ≤ 9223372036854775807) (hT : TS w) :
    Calls Tryz.prog 6 #[.int .i64 s, .string t, .agg #[.int .i64 dR, .int .i64 dS, .int .i64 dK, .string dT, .bool raw]] w fun e w' => e = .returned (.bool true) ∧ Below w.heap.size w w' := by
  obtain ⟨m, m1, m4, hxs⟩ := cut300 t
  obtain ⟨n, n1, n4, hys⟩ := cut300 dT
  exact checks_mid w s _ _ _ dR dS dK t (t.extract 0 m) dT (dT.extract 0 n) m n raw m1 (by omega) (by omega) rfl n1 (by omega) (by omega) rfl hxs hys
    (i64_of (pk_rng _) (by decide)) (i64_of (sS_rng _ _ _) (by decide)) (i64_of (pk_rng _) (by decide)) hdR hdS hdK (Lib.hid fun W => refPublic_any W s hs) (Lib.hid fun W => refSign_any W s (t.extract 0 m) hs (by omega)) hT
end Go.Proofs.YtiojcmfckmjoaaaGreatDoor.S5
