/-
  The law EqualChecks, by its walk.
-/
import Derived.Test.YtdaicfgoahegpaaGreatDoorEChecks
namespace Go.Proofs.YtdaicfgoahegpaaGreatDoor.E6
open Go.RowKit GM SH G4
theorem checks_walk (w : World) (s0 s1 s2 dC dZ q0 q1 : Int) (h0 : i64 s0) (h1 : i64 s1) (h2 : i64 s2) (hC : i64 dC) (hZ : i64 dZ) (hq0 : i64 q0) (hq1 : i64 q1) (hT : TS w) :
    Calls Tryz.prog 5 #[.agg #[.int .i64 s0, .int .i64 s1, .int .i64 s2], pfv dC dZ, .agg #[.int .i64 q0, .int .i64 q1]] w fun e w' => e = .returned (.bool true) ∧ Below w.heap.size w w' := by
  have t1 := Int.lt_tmod_of_pos q0 (show (0 : Int) < 6 by decide)
  have t2 := Int.tmod_lt_of_pos q0 (show (0 : Int) < 6 by decide)
  have t3 : Int.tmod (Int.tmod q0 6 + 6) 6 = (Int.tmod q0 6 + 6) % 6 := Int.tmod_eq_emod_of_nonneg (by omega)
  exact checks_core w s0 s1 s2 dC dZ q0 q1 (em s1) (em s2) (ex s0) (pp (em s1) (ex s0)) (pp (em s2) (ex s0)) (prC s0 (em s1) (em s2)) (prZ s0 (em s1) (em s2)) (em q1) ((Int.tmod q0 6 + 6) % 6).toNat (by omega) (by rw [t3]; omega) (by unfold wrap64; omega)
    (Lib.hid fun W t => sanity_any W t) (Lib.hid fun W => refElement_any W s1 h1) (Lib.hid fun W => refElement_any W s2 h2) (Lib.hid fun W => refExponent_any W s0 h0)
    (Lib.hid fun W => pow_k W _ _ _ _ (pp_def _ _) (em_i64 _).1 (em_i64 _).2 (ex_i64 _).2 (by decide))
    (Lib.hid fun W => pow_k W _ _ _ _ (pp_def _ _) (em_i64 _).1 (em_i64 _).2 (ex_i64 _).2 (by decide))
    (Lib.hid fun W => refProve_any W s0 _ _ h0 (em_i64 _) (em_i64 _)) (Lib.hid fun W => refElement_any W q1 hq1)
    (Lib.hid fun x hx W => mul_k W _ _ _ _ rfl hx.1 hx.2 (em_i64 _).1 (em_i64 _).2 (by decide))
    (Lib.hid fun g a h b C Z hg ha hh hb kC kZ => ⟨vf g a h b C Z, fun W t => ⟨Verify_any W g a h b C Z hg ha hh hb kC kZ t, refVerify_any W g a h b C Z hg ha hh hb kZ⟩⟩)
    (Lib.hid ⟨h0, h1, h2, hC, hZ, hq0, hq1, em_i64 _, em_i64 _, pp_i64 _ _, pp_i64 _ _, prC_i64 _ _ _, prZ_i64 _ _ _⟩) hT
end Go.Proofs.YtdaicfgoahegpaaGreatDoor.E6
