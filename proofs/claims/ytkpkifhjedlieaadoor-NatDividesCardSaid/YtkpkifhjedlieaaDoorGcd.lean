/-
  nat.gcd of two words.
-/
import Derived.Test.YtkpkifhjedlieaaDoorTz
namespace Go.Proofs.YtkpkifhjedlieaaDoor
open Go.RowKit NM
theorem Quiet.cell {u w : World} (h : Quiet u w) (p : Addr) : w.cell? p = u.cell? p := World.cell?_of_block (by rw [h.heap])
theorem gcd_le (m n u v : Nat) (hu : Nat.Coprime 2 u) (h : m ≤ n) : Nat.gcd (2^m * u) (2^n * v) = Nat.gcd u v * 2^m := by
  obtain ⟨k, rfl⟩ : ∃ k, n = m + k := ⟨n - m, by omega⟩
  rw [Nat.pow_add, Nat.mul_assoc, Nat.gcd_mul_left, Nat.Coprime.gcd_mul_left_cancel_right _ (Nat.Coprime.pow_left k hu), Nat.mul_comm]
theorem odd_co (k : Nat) : Nat.Coprime 2 (2 * k + 1) := by
  show Nat.gcd 2 (2*k+1) = 1
  rw [Nat.gcd_rec, show (2*k+1) % 2 = 1 by omega]
  decide
theorem ctz_spec (x : Nat) (h0 : x ≠ 0) (hx : x < 18446744073709551616) : ∃ k, x = 2^(Lib.ctz 64 x) * (2*k+1) ∧ x / 2^(Lib.ctz 64 x) = 2*k+1 := by
  have e : Lib.ctz 64 x = Lib.ctzFrom 64 x := by unfold Lib.ctz; rw [if_neg h0]
  rw [e]
  obtain ⟨k, h1, h2⟩ := Lib.ctzFrom_spec 64 x (by omega) hx
  refine ⟨k, h1, ?_⟩
  generalize Lib.ctzFrom 64 x = c at *
  rw [h1, Nat.mul_div_cancel_left _ (Nat.pow_pos (by omega))]
theorem gcd_math (x y : Nat) (hx0 : x ≠ 0) (hy0 : y ≠ 0) (hx : x < 18446744073709551616) (hy : y < 18446744073709551616) :
    Nat.gcd (x / 2^(Lib.ctz 64 x)) (y / 2^(Lib.ctz 64 y)) * 2^(min (Lib.ctz 64 x) (Lib.ctz 64 y)) = Nat.gcd x y := by
  obtain ⟨k, h1, h2⟩ := ctz_spec x hx0 hx
  obtain ⟨j, h3, h4⟩ := ctz_spec y hy0 hy
  rw [h2, h4]
  generalize Lib.ctz 64 x = m at *
  generalize Lib.ctz 64 y = n at *
  rw [h1, h3]
  rcases Nat.le_total m n with h | h
  · rw [Nat.min_eq_left h, gcd_le m n _ _ (odd_co k) h]
  · rw [Nat.min_eq_right h, Nat.gcd_comm (2^m * _), gcd_le n m _ _ (odd_co j) h, Nat.gcd_comm]
theorem div_ne (x : Nat) (h0 : x ≠ 0) (hx : x < 18446744073709551616) : x / 2^(Lib.ctz 64 x) ≠ 0 := by
  obtain ⟨k, h1, h2⟩ := ctz_spec x h0 hx
  rw [h2]; omega
def GcdQ (x y b b2 : Nat) (w : World) (e : Ending) (w' : World) : Prop :=
  ∃ bz m Z, w.heap.size ≤ bz ∧ bz < w'.heap.size ∧ Row w' bz 0 Z ∧ Wd Z ∧ Z.length = m ∧ m ≤ 2 ∧ wv Z = Nat.gcd x y ∧ (∀ B, B ≤ b → B ≤ b2 → B ≤ w.heap.size → Below B w w') ∧ e = .returned (.slice (some ⟨bz, 0, none⟩) m m)
set_option maxRecDepth 100000 in
set_option maxHeartbeats 2000000 in
theorem gcd_one (w : World) (b o cap b2 o2 cap2 x y : Nat) (hR : Row w b o [x]) (hS : Row w b2 o2 [y]) (hx : x < 18446744073709551616) (hy : y < 18446744073709551616) (hx0 : x ≠ 0) (hy0 : y ≠ 0)
    (hb : b < w.heap.size) (hb2 : b2 < w.heap.size) (hne : b2 ≠ b) (hc : 1 ≤ cap) (hc2 : 1 ≤ cap2) (hT : DB w) :
    Calls Tryd.prog 37 #[.slice (some ⟨b, o, none⟩) 1 cap, .slice (some ⟨b2, o2, none⟩) 1 cap2] w (GcdQ x y b b2 w) := by
  have hl1 : Lib.ctz 64 x < 64 := (Lib.lowest_bit 64 x hx0 hx).2
  have hl2 : Lib.ctz 64 y < 64 := (Lib.lowest_bit 64 y hy0 hy).2
  have hm := gcd_math x y hx0 hy0 hx hy
  have hn1 := div_ne x hx0 hx
  have hn2 := div_ne y hy0 hy
  have T1 := fun W q => twos_one W b o cap x q hx hx0 hc
  have T2 := fun W q => twos_one W b2 o2 cap2 y q hy hy0 hc2
  have S1 := fun W q => shiftRight_one W b o cap x (Lib.ctz 64 x) q hx hl1 hc hn1
  have S2 := fun W q => shiftRight_one W b2 o2 cap2 y (Lib.ctz 64 y) q hy hl2 hc2 hn2
  have hX1 : x / 2^(Lib.ctz 64 x) < 18446744073709551616 := Nat.lt_of_le_of_lt (Nat.div_le_self _ _) hx
  have hX2 : y / 2^(Lib.ctz 64 y) < 18446744073709551616 := Nat.lt_of_le_of_lt (Nat.div_le_self _ _) hy
  clear hx hy hx0 hy0 hn2
  unfold GcdQ
  rw [← hm]
  clear hm
  generalize Lib.ctz 64 x = m at *
  generalize Lib.ctz 64 y = n at *
  generalize x / 2^m = u at *
  generalize y / 2^n = v at *
  have HX := Lib.hid (And.intro hX1 hX2); clear hX1 hX2
  have hu0 : 0 < u := Nat.pos_of_ne_zero hn1
  go_enter Tryd.func37, Tryd.ntmps37
  go_wp2_with fail
  refine (T1 _ hR hT).mono ?_
  rintro e w1 ⟨rfl, q1⟩
  have hT1 : DB w1 := hT.quiet q1
  go_wp2_with fail
  refine (T2 _ (q1.row hS) hT1).mono ?_
  rintro e w2 ⟨rfl, q2⟩
  go_wp2_with fail
  refine (S1 _ (q2.row (q1.row hR)) (by rw [q2.heap, q1.heap]; exact hb)).mono ?_
  rintro e w3 ⟨rfl, r3, o3⟩
  have z3 : w.heap.size ≤ w3.heap.size := by have := o3.size; rw [q2.heap, q1.heap] at this; exact this
  have s3 : Row w3 b2 o2 [y] := o3.row (q2.row (q1.row hS)) hne (by rw [q2.heap, q1.heap]; exact hb2)
  go_wp2_with fail
  refine (S2 _ s3 (Nat.lt_of_lt_of_le hb2 z3)).mono ?_
  rintro e w4 ⟨rfl, r4, o4⟩
  have z4 : w.heap.size ≤ w4.heap.size := Nat.le_trans z3 o4.size
  have s4 : Row w4 b o [u] := o4.row r3 (Ne.symm hne) (Nat.lt_of_lt_of_le hb z3)
  have B4 : ∀ B, B ≤ b → B ≤ b2 → B ≤ w.heap.size → Below B w w4 := fun B h1 h2 h3 => (((q1.below B).trans (q2.below B)).trans (o3.below h1 (by rw [q2.heap, q1.heap]; exact h3))).trans (o4.below h2 (Nat.le_trans h3 z3))
  have hmin : min (m : Int) (n : Int) = ((min m n : Nat) : Int) := by omega
  have hml : min m n < 64 := by omega
  have hg : Wd [Nat.gcd u v] := fun t ht => by rw [List.mem_singleton.1 ht]; exact Nat.lt_of_le_of_lt (Nat.gcd_le_left _ hu0) HX.out.1
  clear T1 T2 S1 S2 q1 q2 o3 o4 hT1 hT hR hS r3 s3
  generalize hM0 : min m n = mn at *
  have HM0 := Lib.hid hM0; clear hM0
  have c1 : w4.cell? ⟨b, o, none⟩ = some (.int .u64 u) := s4.cell 0 (by simp)
  have c2 : w4.cell? ⟨b2, o2, none⟩ = some (.int .u64 v) := r4.cell 0 (by simp)
  go_wp2_with fail
  clear hmin
  go_loop [0, 1] (fun i j => i = .slice (some ⟨b, o, none⟩) 1 cap ∧ j = .slice (some ⟨b2, o2, none⟩) 1 cap2) (fun _ _ => 0)
  case atStart => exact ⟨rfl, rfl⟩
  case round =>
    obtain ⟨rfl, rfl⟩ := hrel
    go_wp2_with fail
    go_region_held3 (fun w' => w'.cell? ⟨b, o, none⟩ = some (.int .u64 u) ∧ w'.cell? ⟨b2, o2, none⟩ = some (.int .u64 v)) (first | (exact ⟨by assumption, by assumption⟩) | (simp [go_sem]; exact ⟨by assumption, by assumption⟩))
      (first
        | (go_at_call 62; go_must (go_fit (gcdWord_any _ u v HX.out.1 HX.out.2)); go_must (rintro e w5 ⟨rfl, q5⟩); go_must (have h5a := (q5.cell ⟨b, o, none⟩).trans c1; have h5b := (q5.cell ⟨b2, o2, none⟩).trans c2; have HZ5 : Hid (w5.heap.size = w4.heap.size) := Lib.hid (congrArg Array.size q5.heap)); go_must (have z6 : b < w5.heap.size := by have := HZ5.out; omega); go_must (have z7 : b2 < w5.heap.size := by have := HZ5.out; omega); go_must (have h6a : (w5.alloc (.cells #[.int .u64 (Nat.gcd u v : Nat)] 56)).cell? ⟨b, o, none⟩ = some (.int .u64 u) := (World.cell?_alloc_past _ _ _ z6).trans h5a); go_must (have h6b : (w5.alloc (.cells #[.int .u64 (Nat.gcd u v : Nat)] 56)).cell? ⟨b2, o2, none⟩ = some (.int .u64 v) := (World.cell?_alloc_past _ _ _ z7).trans h5b))
        | (go_at_call 51; go_must (have hz8 : w5.heap.size < (w5.alloc (.cells #[.int .u64 (Nat.gcd u v : Nat)] 56)).heap.size := by simp); go_must (have hmn : mn ≤ 35184372088832 := by omega); go_must (go_fit (shiftLeft_any (w5.alloc (.cells #[.int .u64 (Nat.gcd u v : Nat)] 56)) w5.heap.size 0 1 mn [Nat.gcd u v] (row_one w5 (Nat.gcd u v) 56) hg hz8 hmn (by show 1 ≤ 274877906944; omega) (Nat.le_refl _))); rintro e w6 ⟨Z, m6, oZ, lZ, mZ, vZ, bZ, rfl⟩; have h7a := (bZ.cell (p := ⟨b, o, none⟩) (Nat.lt_trans z6 hz8)).trans h6a; have h7b := (bZ.cell (p := ⟨b2, o2, none⟩) (Nat.lt_trans z7 hz8)).trans h6b))
    all_goals go_wp2
    all_goals go_ret
    have hs8 : (w5.alloc (.cells #[.int .u64 (Nat.gcd u v : Nat)] 56)).heap.size = w5.heap.size + 1 := by simp
    have z5 := HZ5.out
    rw [hs8] at oZ
    refine ⟨w5.heap.size + 1, 1 + mn / 64 + 1, Z, ?_, oZ.lt, oZ.row, oZ.wd, lZ.trans mZ, ?_, ?_, ?_, rfl⟩
    · omega
    · omega
    · rw [vZ, HM0.out]; simp [wv]
    · intro B h1 h2 h3
      exact (((B4 B h1 h2 h3).trans ((Below.refl B w4).drew.trans (q5.below B))).alloc (by omega) _).trans (bZ.mono (by omega))
end Go.Proofs.YtkpkifhjedlieaaDoor
