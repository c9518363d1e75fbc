/-
  The walk of sign.Sign.
-/
import Derived.Test.YthoonpjgecempaaDoorSVerify
namespace Go.Proofs.YthoonpjgecempaaDoor.S5
open Go.RowKit GM SH G4
set_option maxRecDepth 100000 in
set_option maxHeartbeats 2000000 in
theorem Sign_any (w : World) (s : Int) (t : ByteArray) (hs : -9223372036854775808 ≤ s ∧ s ≤ 9223372036854775807) (ht : t.size ≤ 140737488355300) (hB : TB w) :
    Calls Tryd.prog 10 #[.int .i64 s, .string t] w fun e w' => e = .returned (sgv (pk (nn (ex s) t)) (sS (ex s) (nn (ex s) t) t)) ∧ Below w.heap.size w w' := by
  have x0 := ex_rng s
  have R1 := Lib.hid fun W => exponent_any W s hs
  generalize ex s = xi at *
  obtain ⟨x, rfl⟩ : ∃ v : Nat, xi = v := ⟨xi.toNat, by omega⟩
  have n0 := nn_rng x t
  have R2 := Lib.hid fun W => bytesOf_any W x (by omega)
  have R3 := Lib.hid (show ∀ W, TB W → Calls Tryd.prog 17 #[.slice (some ⟨W.heap.size, 0, none⟩) 3 3] (W.alloc (.cells #[.string ⟨#[110]⟩, .string (bx x), .string t] 9)) fun e w' => e = .returned (.int .i64 (nn x t)) ∧ Below (W.alloc (.cells #[.string ⟨#[110]⟩, .string (bx x), .string t] 9)).heap.size (W.alloc (.cells #[.string ⟨#[110]⟩, .string (bx x), .string t] 9)) w' from
    fun W h => hidden_any (W.alloc (.cells #[.string ⟨#[110]⟩, .string (bx x), .string t] 9)) W.heap.size 3 3 [⟨#[110]⟩, bx x, t] (ns x t) (catL_three _ _ _) rfl
    (fun j u hj => by
      rw [World.cell?_alloc_at _ _ _ _ rfl]
      match j, hj with
      | 0, hj => simp at hj; subst hj; rfl
      | 1, hj => simp at hj; subst hj; rfl
      | 2, hj => simp at hj; subst hj; rfl) (by simp) (by omega) (by omega) (by rw [ns_size]; omega) (h.below ((Below.refl _ W).alloc (Nat.le_refl _) _)))
  have HN := Lib.hid (show sS x (nn x t) t = sS x (nn x t) t from rfl)
  generalize nn x t = n at *
  have p0 := pk_rng n
  have p1 := pk_rng x
  have R4 := Lib.hid fun W => pow_k W 4 n 2305843009213691579 (pk n) rfl (by decide) (by decide) (by omega) (by decide)
  have R5 := Lib.hid fun W => publicKey_any W x (by omega)
  have c0 := cc_rng (pk n) (pk x) t
  have E := Lib.hid (show sS x n t = ga n (gm x (cc (pk n) (pk x) t) 1152921504606845789) 1152921504606845789 from rfl)
  have R6 := Lib.hid (show ∀ W, TB W → Calls Tryd.prog 22 #[.int .i64 (pk n), .int .i64 (pk x), .string t] W fun e w' => e = .returned (.int .i64 (cc (pk n) (pk x) t)) ∧ Below W.heap.size W w' from fun W h => by
    have := challenge_any W (pk n).toNat (pk x).toNat t (by omega) (by omega) ht h
    rwa [Int.toNat_of_nonneg p0.1, Int.toNat_of_nonneg p1.1] at this)
  generalize cc (pk n) (pk x) t = c at *
  generalize pk n = r at *
  generalize pk x = k at *
  have m0 := gm_rng x c 1152921504606845789
  have R7 := Lib.hid fun W => mul_k W x c 1152921504606845789 _ rfl (by omega) (by omega) (by omega) (by omega) (by decide)
  have R8 := Lib.hid fun W => add_k W n (gm x c 1152921504606845789) 1152921504606845789 _ rfl (by omega) (by omega) (by omega) (by omega) (by decide)
  generalize ga n (gm x c 1152921504606845789) 1152921504606845789 = v at *
  generalize gm x c 1152921504606845789 = m at *
  rw [E.out]
  generalize bx x = B at *
  clear E HN ht hs n0 x0 p0 p1 c0 m0
  obtain ⟨W, hW⟩ : ∃ W, w.alloc (.cells #[.int .i64 0, .int .i64 0] 26) = W := ⟨_, rfl⟩
  have h1 : SM W w.heap.size 0 0 := by rw [← hW]; exact SM.new _ _ _
  have hb : Below w.heap.size w W := by rw [← hW]; exact (Below.refl w.heap.size w).alloc (Nat.le_refl _) _
  have HK := Lib.hid (And.intro (hB.below hb) (And.intro hb h1))
  clear h1 hb hB
  have hi := infoS r v
  go_enter Tryd.func10, Tryd.ntmps10
  go_upto_region 1 with fail
  clear hW
  go_wp2_with fail
  refine (R1.out _).mono ?_
  rintro e w1 ⟨rfl, rfl⟩
  go_wp2_with fail
  refine (R2.out _).mono ?_
  rintro e w2 ⟨rfl, b2⟩
  have K2 := Lib.hid (And.intro (HK.out.1.below b2) (And.intro (HK.out.2.1.trans (b2.mono HK.out.2.1.size)) (HK.out.2.2.next b2))); clear b2 HK
  go_wp2_with fail
  refine (R3.out _ K2.out.1).mono ?_
  rintro e w3 ⟨rfl, b3⟩
  have a3 := ((Below.refl w2.heap.size w2).alloc (Nat.le_refl _) (.cells #[.string ⟨#[110]⟩, .string B, .string t] 9)).trans (b3.mono (by simp))
  have K3 := Lib.hid (And.intro (K2.out.1.below a3) (And.intro (K2.out.2.1.trans (a3.mono K2.out.2.1.size)) (K2.out.2.2.next a3))); clear b3 a3 K2
  go_wp2_with fail
  refine (R4.out _).mono ?_
  rintro e w4 ⟨rfl, b4⟩
  have K4 := Lib.hid (And.intro (K3.out.1.below b4) (And.intro (K3.out.2.1.trans (b4.mono K3.out.2.1.size)) (K3.out.2.2.next b4))); clear b4 K3
  go_wp2_with fail
  refine (R5.out _).mono ?_
  rintro e w5 ⟨rfl, b5⟩
  have K5 := Lib.hid (And.intro (K4.out.1.below b5) (And.intro (K4.out.2.1.trans (b5.mono K4.out.2.1.size)) (K4.out.2.2.next b5))); clear b5 K4
  go_wp2_with fail
  refine (R6.out _ K5.out.1).mono ?_
  rintro e w6 ⟨rfl, b6⟩
  have K6 := Lib.hid (And.intro (K5.out.2.1.trans (b6.mono K5.out.2.1.size)) (K5.out.2.2.next b6)); clear b6 K5
  have h8 := K6.out.2
  have hs2 : Hid ((#[Value.int .i64 0, Value.int .i64 0]).size = (#[Value.int .i64 r, .int .i64 v]).size) := Lib.hid (two_size _ _ _ _)
  clear R1 R2 R3 R4 R5 R6
  go_wp2_with fail
  refine (R7.out _).mono ?_
  rintro e w7 ⟨rfl, rfl⟩
  go_wp2_with fail
  refine (R8.out _).mono ?_
  rintro e w8 ⟨rfl, rfl⟩
  clear R7 R8
  go_wp2_with (refine wpList_store_row rfl 26 (.tmp 4) (.tmp 29) rfl w.heap.size #[.int .i64 r, .int .i64 v] rfl rfl 26 _ h8 hi.out hs2.out (sg_one _ _) ?_)
  refine bodyPost_ret (results_cell_row rfl _ _ w.heap.size _ #[.int .i64 r, .int .i64 v] _ _ rfl (setRow_heap _ _ _ _ _ _ h8) Tryd.underlying26 rfl hi.out) rfl ?_
  exact ⟨rfl, Below.setRow' K6.out.1 (Nat.le_refl _) _⟩
end Go.Proofs.YthoonpjgecempaaDoor.S5
