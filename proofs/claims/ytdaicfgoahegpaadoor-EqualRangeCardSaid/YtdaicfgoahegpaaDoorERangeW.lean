/-
  The walk of the law EqualRange.
-/
import Derived.Test.YtdaicfgoahegpaaDoorERange3
namespace Go.Proofs.YtdaicfgoahegpaaDoor.E6
open Go.RowKit GM SH G4
theorem vf_c {g a h b C Z : Int} (k : inQ C = false) : vf g a h b C Z = false := by unfold vf; rw [k]; rfl
theorem vf_z {g a h b C Z : Int} (k : inQ Z = false) : vf g a h b C Z = false := by unfold vf; rw [k, Bool.and_false]; rfl
theorem vf_m {g a h b C Z : Int} (k : mem g = false ∨ mem a = false ∨ mem h = false ∨ mem b = false) : vf g a h b C Z = false := by
  have : (mem g && mem a && mem h && mem b) = false := by
    rcases k with k | k | k | k <;> rw [k] <;> simp
  unfold vf; rw [this]; simp
theorem not_inQ {n : Int} (h : n < 0 ∨ 1152921504606845789 ≤ n) : inQ n = false := by
  cases e : inQ n with
  | false => rfl
  | true => have := inQ_iff.1 e; omega
theorem range_walk (w : World) (s q0 q1 n : Int) (hs : i64 s) (h0 : i64 q0) (h1 : i64 q1) (hn : 0 ≤ n ∧ n ≤ 255) (hT : TS w) :
    Calls Tryd.prog 5 #[.int .i64 s, .agg #[.int .i64 q0, .int .i64 q1], .int .u8 n] w fun e w' => e = .returned (.bool true) ∧ Below w.heap.size w w' := by
  have ga := em_rng q0
  have mg := em_mem q0
  have mh := em_mem q1
  have eg := em_i64 q0
  have eh := em_i64 q1
  have hx := ex_rng s
  have ma := pp_mem mg (ex s) hx.1
  have mb := pp_mem mh (ex s) hx.1
  have ra := mem_rng ma
  have rb := mem_rng mb
  have rc := prC_rng s (em q0) (em q1)
  have rz := prZ_rng s (em q0) (em q1)
  have hv := vf_holds s (em q0) (em q1) mg mh
  have E1 := Lib.hid fun W => refElement_any W q0 h0
  have E2 := Lib.hid fun W => refElement_any W q1 h1
  have A1 := Lib.hid fun W => add_k W s 0 1152921504606845789 _ (ex_def s) hs.1 hs.2 (by decide) (by decide) (by decide)
  have P1 := Lib.hid fun W => pow_k W (em q0) (ex s) 2305843009213691579 _ (pp_def _ _) eg.1 eg.2 (ex_i64 s).2 (by decide)
  have P2 := Lib.hid fun W => pow_k W (em q1) (ex s) 2305843009213691579 _ (pp_def _ _) eh.1 eh.2 (ex_i64 s).2 (by decide)
  have C1 := Lib.hid fun W t => Prove_any W s (em q0) (em q1) hs eg eh t
  have V := fun (g a h b C Z : Int) (kg : i64 g) (ka : i64 a) (kh : i64 h) (kb : i64 b) (kC : i64 C) (kZ : i64 Z) (r : Bool) (hr : vf g a h b C Z = r) => (Lib.hid fun W t => by rw [← hr]; exact Verify_any W g a h b C Z kg ka kh kb kC kZ t : Hid (∀ W, TS W → Calls Tryd.prog 9 #[.int .i64 g, .int .i64 a, .int .i64 h, .int .i64 b, pfv C Z] W fun e w' => e = .returned (.bool r) ∧ Below W.heap.size W w'))
  generalize prC s (em q0) (em q1) = c at *
  generalize prZ s (em q0) (em q1) = z at *
  generalize pp (em q0) (ex s) = a at *
  generalize pp (em q1) (ex s) = b at *
  generalize em q0 = g at *
  generalize em q1 = h at *
  have ia : i64 a := i64_of (m := 2305843009213691579) (by omega) (by decide)
  have ib : i64 b := i64_of (m := 2305843009213691579) (by omega) (by decide)
  have ic : i64 c := i64_of rc (by decide)
  have iz : i64 z := i64_of rz (by decide)
  have S0 := Lib.hid fun W t => sanity_any W t
  have V1 := V g a h b c z eg ia eh ib ic iz true hv
  have V3 := V g (2305843009213691579 - a) h b c z eg ⟨by omega, by omega⟩ eh ib ic iz false (vf_m (.inr (.inl (neg_mem ma))))
  have V4 := V g a h (2305843009213691579 - b) c z eg ia eh ⟨by omega, by omega⟩ ic iz false (vf_m (.inr (.inr (.inr (neg_mem mb)))))
  have V5 := V (2305843009213691579 - g) a h b c z ⟨by omega, by omega⟩ ia eh ib ic iz false (vf_m (.inl (neg_mem mg)))
  have V6 := V g a 0 b c z eg ia ⟨by decide, by decide⟩ ib ic iz false (vf_m (.inr (.inr (.inl mem_0))))
  have V7 := V g (a + 2305843009213691579) h b c z eg ⟨by omega, by omega⟩ eh ib ic iz false (vf_m (.inr (.inl (high_mem (by omega)))))
  have hr := Int.emod_lt_of_pos n (show (0 : Int) < 4 by decide)
  have hr0 := Int.emod_nonneg n (show (4 : Int) ≠ 0 by decide)
  have ht : Int.tmod n 4 = n % 4 := Int.tmod_eq_emod_of_nonneg hn.1
  rcases (show n % 4 = 0 ∨ n % 4 = 1 ∨ n % 4 = 2 ∨ n % 4 = 3 by omega) with k | k | k | k
  · exact range_0 w s q0 q1 g h (ex s) a b c z _ _ _ _ _ _ _ _ n (ht.trans k) hn rfl rfl rfl rfl rfl rfl rfl rfl rc.1 rc.2 rz.1 rz.2 (by omega) ra.2 (by omega) rb.2 (by omega) (by omega) S0 E1 E2 A1 P1 P2 C1 V1
      (V g a h b (c + 1152921504606845789) z eg ia eh ib ⟨by omega, by omega⟩ iz false (vf_c (not_inQ (by omega)))) V3 V4 V5 V6 V7 hT
  · exact range_1 w s q0 q1 g h (ex s) a b c z _ _ _ _ _ _ _ _ n (ht.trans k) hn rfl rfl rfl rfl rfl rfl rfl rfl rc.1 rc.2 rz.1 rz.2 (by omega) ra.2 (by omega) rb.2 (by omega) (by omega) S0 E1 E2 A1 P1 P2 C1 V1
      (V g a h b c (z + 1152921504606845789) eg ia eh ib ic ⟨by omega, by omega⟩ false (vf_z (not_inQ (by omega)))) V3 V4 V5 V6 V7 hT
  · exact range_2 w s q0 q1 g h (ex s) a b c z _ _ _ _ _ _ _ _ n (ht.trans k) hn rfl rfl rfl rfl rfl rfl rfl rfl rc.1 rc.2 rz.1 rz.2 (by omega) ra.2 (by omega) rb.2 (by omega) (by omega) S0 E1 E2 A1 P1 P2 C1 V1
      (V g a h b (c - 1152921504606845789) z eg ia eh ib ⟨by omega, by omega⟩ iz false (vf_c (not_inQ (by omega)))) V3 V4 V5 V6 V7 hT
  · exact range_3 w s q0 q1 g h (ex s) a b c z _ _ _ _ _ _ _ _ n (ht.trans k) hn rfl rfl rfl rfl rfl rfl rfl rfl rc.1 rc.2 rz.1 rz.2 (by omega) ra.2 (by omega) rb.2 (by omega) (by omega) S0 E1 E2 A1 P1 P2 C1 V1
      (V g a h b c (z - 1152921504606845789) eg ia eh ib ic ⟨by omega, by omega⟩ false (vf_z (not_inQ (by omega)))) V3 V4 V5 V6 V7 hT
end Go.Proofs.YtdaicfgoahegpaaDoor.E6
