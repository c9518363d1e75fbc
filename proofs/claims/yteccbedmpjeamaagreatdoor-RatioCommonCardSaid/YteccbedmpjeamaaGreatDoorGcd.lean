/-
  The zeros behind a word, nat.twos of one word, nat.gcdWord, nat.shiftRight of one word.
  nat.gcd of two words.
  nat.Gcd where a number is 0, or both have one word.
  The walk of nat.twos, all rows that are not 0.
-/
import Derived.Test.YteccbedmpjeamaaGreatDoorPow
import Derived.Shelf.Spec.TrailingZeros
import Derived.Test.YteccbedmpjeamaaGreatDoorQuo2
namespace Go.Proofs.YteccbedmpjeamaaGreatDoor
open Go.RowKit NM
abbrev DB (w : World) : Prop := TabAt 5 Lib.deBruijn64tab w
theorem DB.below {B : Nat} {u w : World} (h : DB u) (hb : Below B u w) (hB : 5 < B) : DB w := fun j hj => (hb.cell (p := ⟨5, j, none⟩) hB).trans (h j hj)
theorem DB.quiet {u w : World} (h : DB u) (q : Quiet u w) : DB w := fun j hj => (World.cell?_of_block (by rw [q.heap])).trans (h j hj)
set_option maxHeartbeats 1000000 in
theorem tz_core (x k idx : Nat) (w : World) (hx0 : ((x : Int) == 0) = false)
    (key : IntKind.u64.wrap (bits BinOp.and IntKind.u64 (x : Int) (IntKind.u64.wrap (-(x : Int))) * 285870213051353865) / 288230376151711744 = (idx : Int))
    (hi : idx < 64) (hk : k < 64) (hcell : w.cell? ⟨5, idx, none⟩ = some (.int .u8 k)) :
    Calls Tryz.prog 141 #[.int .u64 x] w fun e w' => e = .returned (.int .i64 k) ∧ w' = w := by
  go_enter Tryz.func141, Tryz.ntmps141
  go_wp2_with (simp only [key])
  go_ret
  exact ⟨rfl, rfl⟩
theorem TrailingZeros64_any (x : Nat) (hx : x < 18446744073709551616) (h0 : x ≠ 0) (w : World) (hT : DB w) :
    Calls Tryz.prog 141 #[.int .u64 x] w fun e w' => e = .returned (.int .i64 (Lib.ctz 64 x)) ∧ w' = w := by
  obtain ⟨hlow, hk⟩ := Lib.lowest_bit 64 x h0 hx
  obtain ⟨hi, htab⟩ := Lib.deBruijn64_at _ hk
  have hcell := hT _ hi
  rw [htab] at hcell
  exact tz_core x _ _ w (by simp; omega) (tz64_key x _ hx h0 hlow) hi hk hcell
set_option maxHeartbeats 1000000 in
theorem twos_one (w : World) (b o cap x : Nat) (hR : Row w b o [x]) (hx : x < 18446744073709551616) (h0 : x ≠ 0) (_hc : 1 ≤ cap) (hT : DB w) :
    Calls Tryz.prog 121 #[.slice (some ⟨b, o, none⟩) 1 cap] w fun e w' => e = .returned (.int .i64 (Lib.ctz 64 x)) ∧ Quiet w w' := by
  have hcell : w.cell? ⟨b, o, none⟩ = some (.int .u64 x) := hR.cell 0 (by simp)
  have hne : ((x : Int) == 0) = false := beq_eq_false_iff_ne.2 (by omega)
  have hlt : Lib.ctz 64 x < 64 := (Lib.lowest_bit 64 x h0 hx).2
  go_enter Tryz.func121, Tryz.ntmps121
  go_wp2_with fail
  go_loop [3] (fun v => v = .int .i64 0) (fun _ => 0)
  case atStart => rfl
  case round =>
    obtain rfl := hrel
    go_wp2_with fail
    refine (TrailingZeros64_any x hx h0 _ hT).mono ?_
    rintro e w1 ⟨rfl, rfl⟩
    go_wp2
    go_ret
    exact ⟨rfl, Quiet.refl _⟩
theorem gcd_step (x y : Nat) : Nat.gcd y (x % y) = Nat.gcd x y := by rw [Nat.gcd_comm x y, Nat.gcd_rec y x, Nat.gcd_comm]
set_option maxHeartbeats 1000000 in
theorem gcdWord_any (w : World) (x y : Nat) (hx : x < 18446744073709551616) (hy : y < 18446744073709551616) :
    Calls Tryz.prog 125 #[.int .u64 x, .int .u64 y] w fun e w' => e = .returned (.int .u64 (Nat.gcd x y : Nat)) ∧ Quiet w w' := by
  go_enter Tryz.func125, Tryz.ntmps125
  go_wp2
  go_loopw [0, 1] (fun v u wr => ∃ a c : Nat, a < 18446744073709551616 ∧ c < 18446744073709551616 ∧ Nat.gcd a c = Nat.gcd x y ∧ v = .int .u64 a ∧ u = .int .u64 c ∧ Quiet w wr) (fun _ u _ => (intOf u).toNat)
  case atStart => exact ⟨x, y, hx, hy, rfl, rfl, rfl, Quiet.refl w⟩
  case round =>
    obtain ⟨a, c, ha, hc, hg, rfl, rfl, hq⟩ := hrel
    by_cases h0 : c = 0
    · subst h0
      go_wp2
      go_ret
      refine ⟨?_, hq⟩
      rw [← hg, Nat.gcd_zero_right]
      rfl
    · have hne : ((c : Int) == 0) = false := beq_eq_false_iff_ne.2 (by omega)
      have hmod : a % c < c := Nat.mod_lt _ (by omega)
      have hw : (a : Int) % (c : Int) = ((a % c : Nat) : Int) := by rw [Int.natCast_emod]
      go_wp2
      go_region
      all_goals go_wp2
      all_goals rw [hw]
      all_goals go_roundw
      case rel => exact ⟨c, a % c, hc, by omega, (gcd_step a c).trans hg, rfl, rfl, hq.drew⟩
      case measure => (simp [intOf]; try omega)
theorem shr_one (x n : Nat) (_hn : n < 64) (_hx : x < 18446744073709551616) : ((x : Int) / 2^n) = ((x / 2^n : Nat) : Int) := by rw [Int.natCast_ediv, Int.natCast_pow]; rfl
def ShrQ (y b o cap : Nat) (w : World) (e : Ending) (w' : World) : Prop := e = .returned (.slice (some ⟨b, o, none⟩) 1 cap) ∧ Row w' b o [y] ∧ Only b o (o+1) w w'
set_option maxHeartbeats 1000000 in
theorem shiftRight_one (w : World) (b o cap x n : Nat) (hR : Row w b o [x]) (hx : x < 18446744073709551616) (hn : n < 64) (hc : 1 ≤ cap) (h0 : x / 2^n ≠ 0) (hb : b < w.heap.size) :
    Calls Tryz.prog 122 #[.slice (some ⟨b, o, none⟩) 1 cap, .int .i64 (n : Nat)] w (ShrQ (x / 2^n) b o cap w) := by
  have hcell : w.cell? ⟨b, o, none⟩ = some (.int .u64 x) := hR.cell 0 (by simp)
  have hfr : w.frozen? ⟨b, o, none⟩ = false := hR.free 0 (by simp)
  have e1 : (n : Int) / 64 = 0 := by omega
  have e2 : (n : Int) % 64 = (n : Nat) := by omega
  have e3 := shr_one x n hn hx
  have hlt : x / 2^n < 18446744073709551616 := Nat.lt_of_le_of_lt (Nat.div_le_self _ _) hx
  have HX := Lib.hid (And.intro hlt (And.intro h0 hx)); clear hlt h0 hx
  have hm : min (0:Int) 1 = 0 := by decide
  generalize hy : x / 2^n = y at *
  have HY := Lib.hid hy; clear hy
  go_enter Tryz.func122, Tryz.ntmps122
  go_wp2_with fail
  simp only [e2]
  clear e1 e2
  go_loopw [7] (fun i wr => i = .int .i64 0 ∧ wr = w ∨ i = .int .i64 1 ∧ Row wr b o [y] ∧ Only b o (o+1) w wr) (fun i _ => 1 - (intOf i).toNat)
  case atStart => exact .inl ⟨rfl, rfl⟩
  case round =>
    rcases hrel with ⟨rfl, rfl⟩ | ⟨rfl, hr, ho⟩
    · go_wp2
      refine ⟨.inr ⟨rfl, by simpa using hR.set 0 y (by simp), (Only.refl b o (o+1) wr).set o _ (Nat.le_refl _) (by omega)⟩, by simp [intOf]⟩
    · go_wp2_with fail
      refine (trim_any wr b o cap [y] hr (by simp) hc).mono ?_
      rintro e w2 ⟨k, hk, hv, ht, rfl, rfl⟩
      have hk1 : k = 1 := by
        have h1 : k ≤ 1 := hk
        have h2 := HX.out.2.1
        rcases Nat.lt_or_ge k 1 with h | h
        · obtain rfl : k = 0 := by omega
          simp [wv] at hv
          omega
        · omega
      subst hk1
      go_wp2
      go_ret
      exact ⟨rfl, hr, ho⟩
end Go.Proofs.YteccbedmpjeamaaGreatDoor
namespace Go.Proofs.YteccbedmpjeamaaGreatDoor
open Go.RowKit NM
theorem Quiet.cell {u w : World} (h : Quiet u w) (p : Addr) : w.cell? p = u.cell? p := World.cell?_of_block (by rw [h.heap])
theorem gcd_le (m n u v : Nat) (hu : Nat.Coprime 2 u) (h : m ≤ n) : Nat.gcd (2^m * u) (2^n * v) = Nat.gcd u v * 2^m := by
  obtain ⟨k, rfl⟩ : ∃ k, n = m + k := ⟨n - m, by omega⟩
  rw [Nat.pow_add, Nat.mul_assoc, Nat.gcd_mul_left, Nat.Coprime.gcd_mul_left_cancel_right _ (Nat.Coprime.pow_left k hu), Nat.mul_comm]
theorem odd_co (k : Nat) : Nat.Coprime 2 (2 * k + 1) := by
  show Nat.gcd 2 (2*k+1) = 1
  rw [Nat.gcd_rec, show (2*k+1) % 2 = 1 by omega]
  decide
theorem ctz_spec (x : Nat) (h0 : x ≠ 0) (hx : x < 18446744073709551616) : ∃ k, x = 2^(Lib.ctz 64 x) * (2*k+1) ∧ x / 2^(Lib.ctz 64 x) = 2*k+1 := by
  have e : Lib.ctz 64 x = Lib.ctzFrom 64 x := by unfold Lib.ctz; rw [if_neg h0]
  rw [e]
  obtain ⟨k, h1, h2⟩ := Lib.ctzFrom_spec 64 x (by omega) hx
  refine ⟨k, h1, ?_⟩
  generalize Lib.ctzFrom 64 x = c at *
  rw [h1, Nat.mul_div_cancel_left _ (Nat.pow_pos (by omega))]
theorem gcd_math (x y : Nat) (hx0 : x ≠ 0) (hy0 : y ≠ 0) (hx : x < 18446744073709551616) (hy : y < 18446744073709551616) :
    Nat.gcd (x / 2^(Lib.ctz 64 x)) (y / 2^(Lib.ctz 64 y)) * 2^(min (Lib.ctz 64 x) (Lib.ctz 64 y)) = Nat.gcd x y := by
  obtain ⟨k, h1, h2⟩ := ctz_spec x hx0 hx
  obtain ⟨j, h3, h4⟩ := ctz_spec y hy0 hy
  rw [h2, h4]
  generalize Lib.ctz 64 x = m at *
  generalize Lib.ctz 64 y = n at *
  rw [h1, h3]
  rcases Nat.le_total m n with h | h
  · rw [Nat.min_eq_left h, gcd_le m n _ _ (odd_co k) h]
  · rw [Nat.min_eq_right h, Nat.gcd_comm (2^m * _), gcd_le n m _ _ (odd_co j) h, Nat.gcd_comm]
theorem div_ne (x : Nat) (h0 : x ≠ 0) (hx : x < 18446744073709551616) : x / 2^(Lib.ctz 64 x) ≠ 0 := by
  obtain ⟨k, h1, h2⟩ := ctz_spec x h0 hx
  rw [h2]; omega
def GcdQ (x y b b2 : Nat) (w : World) (e : Ending) (w' : World) : Prop :=
  ∃ bz m Z, w.heap.size ≤ bz ∧ bz < w'.heap.size ∧ Row w' bz 0 Z ∧ Wd Z ∧ Z.length = m ∧ m ≤ 2 ∧ wv Z = Nat.gcd x y ∧ (∀ B, B ≤ b → B ≤ b2 → B ≤ w.heap.size → Below B w w') ∧ e = .returned (.slice (some ⟨bz, 0, none⟩) m m)
set_option maxRecDepth 100000 in
set_option maxHeartbeats 2000000 in
theorem gcd_one (w : World) (b o cap b2 o2 cap2 x y : Nat) (hR : Row w b o [x]) (hS : Row w b2 o2 [y]) (hx : x < 18446744073709551616) (hy : y < 18446744073709551616) (hx0 : x ≠ 0) (hy0 : y ≠ 0)
    (hb : b < w.heap.size) (hb2 : b2 < w.heap.size) (hne : b2 ≠ b) (hc : 1 ≤ cap) (hc2 : 1 ≤ cap2) (hT : DB w) :
    Calls Tryz.prog 95 #[.slice (some ⟨b, o, none⟩) 1 cap, .slice (some ⟨b2, o2, none⟩) 1 cap2] w (GcdQ x y b b2 w) := by
  have hl1 : Lib.ctz 64 x < 64 := (Lib.lowest_bit 64 x hx0 hx).2
  have hl2 : Lib.ctz 64 y < 64 := (Lib.lowest_bit 64 y hy0 hy).2
  have hm := gcd_math x y hx0 hy0 hx hy
  have hn1 := div_ne x hx0 hx
  have hn2 := div_ne y hy0 hy
  have T1 := fun W q => twos_one W b o cap x q hx hx0 hc
  have T2 := fun W q => twos_one W b2 o2 cap2 y q hy hy0 hc2
  have S1 := fun W q => shiftRight_one W b o cap x (Lib.ctz 64 x) q hx hl1 hc hn1
  have S2 := fun W q => shiftRight_one W b2 o2 cap2 y (Lib.ctz 64 y) q hy hl2 hc2 hn2
  have hX1 : x / 2^(Lib.ctz 64 x) < 18446744073709551616 := Nat.lt_of_le_of_lt (Nat.div_le_self _ _) hx
  have hX2 : y / 2^(Lib.ctz 64 y) < 18446744073709551616 := Nat.lt_of_le_of_lt (Nat.div_le_self _ _) hy
  clear hx hy hx0 hy0 hn2
  unfold GcdQ
  rw [← hm]
  clear hm
  generalize Lib.ctz 64 x = m at *
  generalize Lib.ctz 64 y = n at *
  generalize x / 2^m = u at *
  generalize y / 2^n = v at *
  have HX := Lib.hid (And.intro hX1 hX2); clear hX1 hX2
  have hu0 : 0 < u := Nat.pos_of_ne_zero hn1
  go_enter Tryz.func95, Tryz.ntmps95
  go_wp2_with fail
  refine (T1 _ hR hT).mono ?_
  rintro e w1 ⟨rfl, q1⟩
  have hT1 : DB w1 := hT.quiet q1
  go_wp2_with fail
  refine (T2 _ (q1.row hS) hT1).mono ?_
  rintro e w2 ⟨rfl, q2⟩
  go_wp2_with fail
  refine (S1 _ (q2.row (q1.row hR)) (by rw [q2.heap, q1.heap]; exact hb)).mono ?_
  rintro e w3 ⟨rfl, r3, o3⟩
  have z3 : w.heap.size ≤ w3.heap.size := by have := o3.size; rw [q2.heap, q1.heap] at this; exact this
  have s3 : Row w3 b2 o2 [y] := o3.row (q2.row (q1.row hS)) hne (by rw [q2.heap, q1.heap]; exact hb2)
  go_wp2_with fail
  refine (S2 _ s3 (Nat.lt_of_lt_of_le hb2 z3)).mono ?_
  rintro e w4 ⟨rfl, r4, o4⟩
  have z4 : w.heap.size ≤ w4.heap.size := Nat.le_trans z3 o4.size
  have s4 : Row w4 b o [u] := o4.row r3 (Ne.symm hne) (Nat.lt_of_lt_of_le hb z3)
  have B4 : ∀ B, B ≤ b → B ≤ b2 → B ≤ w.heap.size → Below B w w4 := fun B h1 h2 h3 => (((q1.below B).trans (q2.below B)).trans (o3.below h1 (by rw [q2.heap, q1.heap]; exact h3))).trans (o4.below h2 (Nat.le_trans h3 z3))
  have hmin : min (m : Int) (n : Int) = ((min m n : Nat) : Int) := by omega
  have hml : min m n < 64 := by omega
  have hg : Wd [Nat.gcd u v] := fun t ht => by rw [List.mem_singleton.1 ht]; exact Nat.lt_of_le_of_lt (Nat.gcd_le_left _ hu0) HX.out.1
  clear T1 T2 S1 S2 q1 q2 o3 o4 hT1 hT hR hS r3 s3
  generalize hM0 : min m n = mn at *
  have HM0 := Lib.hid hM0; clear hM0
  have c1 : w4.cell? ⟨b, o, none⟩ = some (.int .u64 u) := s4.cell 0 (by simp)
  have c2 : w4.cell? ⟨b2, o2, none⟩ = some (.int .u64 v) := r4.cell 0 (by simp)
  go_wp2_with fail
  clear hmin
  go_loop [0, 1] (fun i j => i = .slice (some ⟨b, o, none⟩) 1 cap ∧ j = .slice (some ⟨b2, o2, none⟩) 1 cap2) (fun _ _ => 0)
  case atStart => exact ⟨rfl, rfl⟩
  case round =>
    obtain ⟨rfl, rfl⟩ := hrel
    go_wp2_with fail
    go_region_held3 (fun w' => w'.cell? ⟨b, o, none⟩ = some (.int .u64 u) ∧ w'.cell? ⟨b2, o2, none⟩ = some (.int .u64 v)) (first | (exact ⟨by assumption, by assumption⟩) | (simp [go_sem]; exact ⟨by assumption, by assumption⟩))
      (first
        | (go_at_call 125; go_must (go_fit (gcdWord_any _ u v HX.out.1 HX.out.2)); go_must (rintro e w5 ⟨rfl, q5⟩); go_must (have h5a := (q5.cell ⟨b, o, none⟩).trans c1; have h5b := (q5.cell ⟨b2, o2, none⟩).trans c2; have HZ5 : Hid (w5.heap.size = w4.heap.size) := Lib.hid (congrArg Array.size q5.heap)); go_must (have z6 : b < w5.heap.size := by have := HZ5.out; omega); go_must (have z7 : b2 < w5.heap.size := by have := HZ5.out; omega); go_must (have h6a : (w5.alloc (.cells #[.int .u64 (Nat.gcd u v : Nat)] 95)).cell? ⟨b, o, none⟩ = some (.int .u64 u) := (World.cell?_alloc_past _ _ _ z6).trans h5a); go_must (have h6b : (w5.alloc (.cells #[.int .u64 (Nat.gcd u v : Nat)] 95)).cell? ⟨b2, o2, none⟩ = some (.int .u64 v) := (World.cell?_alloc_past _ _ _ z7).trans h5b))
        | (go_at_call 123; go_must (have hz8 : w5.heap.size < (w5.alloc (.cells #[.int .u64 (Nat.gcd u v : Nat)] 95)).heap.size := by simp); go_must (have hmn : mn ≤ 35184372088832 := by omega); go_must (go_fit (shiftLeft_any (w5.alloc (.cells #[.int .u64 (Nat.gcd u v : Nat)] 95)) w5.heap.size 0 1 mn [Nat.gcd u v] (row_one w5 (Nat.gcd u v) 95) hg hz8 hmn (by show 1 ≤ 274877906944; omega) (Nat.le_refl _))); rintro e w6 ⟨Z, m6, oZ, lZ, mZ, vZ, bZ, rfl⟩; have h7a := (bZ.cell (p := ⟨b, o, none⟩) (Nat.lt_trans z6 hz8)).trans h6a; have h7b := (bZ.cell (p := ⟨b2, o2, none⟩) (Nat.lt_trans z7 hz8)).trans h6b))
    all_goals go_wp2
    all_goals go_ret
    have hs8 : (w5.alloc (.cells #[.int .u64 (Nat.gcd u v : Nat)] 95)).heap.size = w5.heap.size + 1 := by simp
    have z5 := HZ5.out
    rw [hs8] at oZ
    refine ⟨w5.heap.size + 1, 1 + mn / 64 + 1, Z, ?_, oZ.lt, oZ.row, oZ.wd, lZ.trans mZ, ?_, ?_, ?_, rfl⟩
    · omega
    · omega
    · rw [vZ, HM0.out]; simp [wv]
    · intro B h1 h2 h3
      exact (((B4 B h1 h2 h3).trans ((Below.refl B w4).drew.trans (q5.below B))).alloc (by omega) _).trans (bZ.mono (by omega))
end Go.Proofs.YteccbedmpjeamaaGreatDoor
namespace Go.Proofs.YteccbedmpjeamaaGreatDoor
open Go.RowKit NM
theorem one_of {X : List Nat} (h : X.length = 1) : ∃ x, X = [x] := by
  match X, h with
  | [x], _ => exact ⟨x, rfl⟩
def GcdV (a b : ByteArray) : Value := .string (NB (Nat.gcd (sv a) (sv b)))
set_option maxRecDepth 100000 in
set_option maxHeartbeats 2000000 in
theorem Gcd_small (w : World) (a b : ByteArray) (ha : a.size ≤ 4294967296) (hb : b.size ≤ 4294967296) (h1 : OneS a) (h2 : OneS b) (h3 : sv a ≠ 0) (h4 : sv b ≠ 0) (hT : DB w) (hg : 5 < w.heap.size) :
    Calls Tryz.prog 64 #[.string a, .string b] w fun e w' => e = .returned (GcdV a b) ∧ Below w.heap.size w w' := by
  go_enter Tryz.func64, Tryz.ntmps64
  go_wp2_with fail
  refine (words_any _ a (by omega)).mono ?_
  rintro e w1 ⟨X, oX, vX, tX, bX, lX, rfl⟩
  have lenX := words_len lX ha
  have dX := h1.words oX.wd tX vX h3
  obtain ⟨x, rfl⟩ := one_of dX
  have hx : x = sv a := by rw [← show wv [x] = sv a from vX]; simp [wv]
  have hx64 : x < 18446744073709551616 := oX.wd x (by simp)
  clear lX vX dX lenX
  simp only [List.length_singleton] at oX ⊢
  have hTB := hT.below bX hg
  go_wp2_with fail
  refine (words_any _ b (by omega)).mono ?_
  rintro e w2 ⟨Y, oY, vY, tY, bY, lY, rfl⟩
  have dY := h2.words oY.wd tY vY h4
  obtain ⟨y, rfl⟩ := one_of dY
  have hy : y = sv b := by rw [← show wv [y] = sv b from vY]; simp [wv]
  have hy64 : y < 18446744073709551616 := oY.wd y (by simp)
  clear lY vY dY
  simp only [List.length_singleton] at oY ⊢
  have hTB2 := hTB.below bY (Nat.lt_of_lt_of_le hg bX.size)
  have HX := Lib.hid (And.intro hx64 (And.intro hy64 (And.intro hx hy))); clear hx64 hy64 hx hy
  have HH := Lib.hid (And.intro h3 h4); clear h3 h4
  have hlt := oX.lt
  have hxn : x ≠ 0 := by rw [HX.out.2.2.1]; exact HH.out.1
  have hyn : y ≠ 0 := by rw [HX.out.2.2.2]; exact HH.out.2
  have HC := Lib.hid (gcd_one w2 w.heap.size 0 1 w1.heap.size 0 1 x y (oX.row.below bY oX.lt) oY.row HX.out.1 HX.out.2.1 hxn hyn (Nat.lt_of_lt_of_le oX.lt bY.size) oY.lt (by omega) (Nat.le_refl _) (Nat.le_refl _) hTB2)
  clear hxn hyn
  go_wp2_with fail
  refine HC.out.mono ?_
  rintro e w3 ⟨bz, m, Z, z1, z2, rZ, wZ, lZ, mZ, vZ, BZ, rfl⟩
  have b3 := BZ w.heap.size (Nat.le_refl _) (by omega) (Nat.le_trans bX.size bY.size)
  subst lZ
  go_wp2_with fail
  refine (number_any _ bz 0 Z.length Z rZ wZ z2 (by omega) (Nat.le_refl _)).mono ?_
  rintro e w4 ⟨rfl, b4⟩
  go_wp2
  go_ret
  refine ⟨?_, bX.trans ((bY.mono bX.size).trans (b3.trans (b4.mono (by have := bX.size; have := bY.size; have := b3.size; omega))))⟩
  unfold GcdV
  rw [← HX.out.2.2.1, ← HX.out.2.2.2]
  rfl
set_option maxRecDepth 100000 in
set_option maxHeartbeats 2000000 in
theorem Gcd_zero (w : World) (a b : ByteArray) (ha : a.size ≤ 4294967296) (hb : b.size ≤ 4294967296) (h : sv a = 0 ∨ sv b = 0) :
    Calls Tryz.prog 64 #[.string a, .string b] w fun e w' => e = .returned (GcdV a b) ∧ Below w.heap.size w w' := by
  go_enter Tryz.func64, Tryz.ntmps64
  go_wp2_with fail
  refine (words_any _ a (by omega)).mono ?_
  rintro e w1 ⟨X, oX, vX, tX, bX, lX, rfl⟩
  have lenX := words_len lX ha
  clear lX
  go_wp2_with fail
  refine (words_any _ b (by omega)).mono ?_
  rintro e w2 ⟨Y, oY, vY, tY, bY, lY, rfl⟩
  have lenY := words_len lY hb
  clear lY
  replace vX : wv X = sv a := vX
  replace vY : wv Y = sv b := vY
  have HX := Lib.hid (And.intro vX vY)
  have rX := oX.row.below bY oX.lt
  have NX := Lib.hid (number_any w2 w.heap.size 0 X.length X rX oX.wd (Nat.lt_of_lt_of_le oX.lt bY.size) (by omega) (Nat.le_refl _))
  have NY := Lib.hid (number_any w2 w1.heap.size 0 Y.length Y oY.row oY.wd oY.lt (by omega) (Nat.le_refl _))
  have h' : X = [] ∨ Y = [] := h.imp (fun h => words_zero tX (vX.trans h)) (fun h => words_zero tY (vY.trans h))
  clear h vX vY
  by_cases hx : X = []
  · subst hx
    by_cases hy : Y = []
    · subst hy
      simp only [List.length_nil] at *
      go_wp2_with fail
      refine NX.out.mono ?_
      rintro e w3 ⟨rfl, b3⟩
      go_wp2
      go_ret
      refine ⟨?_, bX.trans ((bY.trans (b3.mono bY.size)).mono bX.size)⟩
      unfold GcdV
      rw [← HX.out.1, ← HX.out.2]
      rfl
    · have hy0 : 0 < Y.length := List.length_pos_iff.2 hy
      have i1 : ((Y.length : Int) < 0) = False := by simp
      clear hy h'
      simp only [List.length_nil] at *
      go_wp2_with fail
      refine NY.out.mono ?_
      rintro e w3 ⟨rfl, b3⟩
      go_wp2
      go_ret
      refine ⟨?_, bX.trans ((bY.trans (b3.mono bY.size)).mono bX.size)⟩
      unfold GcdV
      rw [← HX.out.1, ← HX.out.2, show wv [] = 0 from rfl, Nat.gcd_zero_left]
      rfl
  · obtain rfl : Y = [] := h'.resolve_left hx
    have hx0 : 0 < X.length := List.length_pos_iff.2 hx
    have i1 : ((X.length : Int) < 0) = False := by simp
    clear hx h'
    simp only [List.length_nil] at *
    go_wp2_with fail
    refine NX.out.mono ?_
    rintro e w3 ⟨rfl, b3⟩
    go_wp2
    go_ret
    refine ⟨?_, bX.trans ((bY.trans (b3.mono bY.size)).mono bX.size)⟩
    unfold GcdV
    rw [← HX.out.1, ← HX.out.2, show wv [] = 0 from rfl, Nat.gcd_zero_right]
    rfl
end Go.Proofs.YteccbedmpjeamaaGreatDoor
namespace Go.Proofs.YteccbedmpjeamaaGreatDoor
open Go.RowKit NM
theorem twos_math (X : List Nat) (hX : Wd X) (j : Nat) (hj : j < X.length) (hz : ∀ i, i < j → gd X i = 0) (h0 : gd X j ≠ 0) :
    ∃ u, wv X = 2^(64 * j + Lib.ctz 64 (gd X j)) * (2 * u + 1) := by
  have hc := (Lib.lowest_bit 64 (gd X j) h0 (gd_lt hX j)).2
  obtain ⟨m, h1, _⟩ := ctz_spec (gd X j) h0 (gd_lt hX j)
  generalize Lib.ctz 64 (gd X j) = c at *
  have ht : wv (X.take j) = 0 := by
    have := wv_take_zeros (X.take j) 0 (Nat.zero_le _) (fun i _ hi => by
      rw [List.length_take] at hi
      have h2 := hz i (by omega)
      rw [gd_eq, List.getD_eq_getElem?_getD] at h2
      rw [List.getD_eq_getElem?_getD, List.getElem?_take_of_lt (show i < j by omega)]
      exact h2)
    rw [← this]; simp [wv]
  have ha := wv_append (X.take j) (X.drop j)
  rw [List.take_append_drop, ht, Nat.zero_add, List.length_take, Nat.min_eq_left (Nat.le_of_lt hj), wv_drop_cons X j hj] at ha
  have e1 : X.getD j 0 = 2^c * (2*m+1) := h1
  refine ⟨m + 2^(63-c) * wv (X.drop (j+1)), ?_⟩
  rw [ha, e1, two64 c (by omega), Nat.pow_add]
  have e2 : (2^c * 2^(64-c))^j = 2^(64*j) := by rw [← Nat.pow_add, show c + (64 - c) = 64 by omega, Nat.pow_mul]
  have e3 : 2^(64-c) = 2 * 2^(63-c) := by rw [show 64 - c = (63 - c) + 1 by omega, Nat.pow_succ, Nat.mul_comm]
  rw [e2, e3]
  generalize 2^(63-c) = A
  generalize wv (X.drop (j+1)) = M
  generalize 2^c = C
  generalize 2^(64*j) = D
  clear e1 e2 e3 ha ht h1 hc hz h0
  grind
set_option maxHeartbeats 1000000 in
theorem twos_any (w : World) (b o cap : Nat) (X : List Nat) (hR : Row w b o X) (hX : Wd X) (h0 : wv X ≠ 0) (hl : X.length ≤ 274877906944) (_hc : X.length ≤ cap) (hT : DB w) :
    Calls Tryz.prog 121 #[.slice (some ⟨b, o, none⟩) X.length cap] w fun e w' => ∃ t u : Nat, e = .returned (.int .i64 (t : Nat)) ∧ wv X = 2^t * (2 * u + 1) ∧ t < 64 * X.length ∧ Quiet w w' := by
  obtain ⟨L, hL⟩ : ∃ L, L = X.length := ⟨_, rfl⟩
  rw [← hL] at hl
  have HL := Lib.hid hL
  rw [← hL]
  clear hL
  go_enter Tryz.func121, Tryz.ntmps121
  go_wp2_with fail
  go_loop [3] (fun i => ∃ j : Nat, j < L ∧ i = .int .i64 (j : Nat) ∧ Hid (∀ i, i < j → gd X i = 0)) (fun i => L - (intOf i).toNat)
  case atStart => exact ⟨0, by
    have := HL.out
    cases X with
    | nil => simp [wv] at h0
    | cons x l => rw [this]; simp, rfl, Lib.hid (fun i hi => absurd hi (Nat.not_lt_zero _))⟩
  case round =>
    obtain ⟨j, hj, rfl, hz⟩ := hrel
    have hx := hR.cell j (by rw [← HL.out]; exact hj)
    by_cases hx0 : gd X j = 0
    · have hnext : j + 1 < L := by
        rcases Nat.lt_or_ge (j+1) L with h | h
        · exact h
        · exfalso
          apply h0
          have := wv_take_zeros X 0 (Nat.zero_le _) (fun i _ hi => by
            have hi2 : i < j ∨ i = j := by have := HL.out; omega
            rcases hi2 with h | rfl
            · exact hz.out i h
            · exact hx0)
          rw [← this]; simp [wv]
      have hx1 := hx
      rw [hx0] at hx1
      have HX0 := Lib.hid hx0; clear hx0 hx
      go_wp2
      go_round
      case rel => exact ⟨j + 1, hnext, by go_num, Lib.hid (fun i hi => by
        by_cases e : i = j
        · rw [e]; exact HX0.out
        · exact hz.out i (by omega))⟩
      case measure => (simp [intOf]; omega)
    · have hne : (((gd X j : Nat) : Int) == 0) = false := beq_eq_false_iff_ne.2 (by omega)
      have hm := twos_math X hX j (by rw [← HL.out]; exact hj) hz.out hx0
      have hlt : Lib.ctz 64 (gd X j) < 64 := (Lib.lowest_bit 64 _ hx0 (gd_lt hX j)).2
      have HC := Lib.hid (TrailingZeros64_any (gd X j) (gd_lt hX j) hx0 w hT)
      have HM := Lib.hid hm
      clear hx0 hm
      generalize Lib.ctz 64 (gd X j) = c at *
      go_wp2_with fail
      refine HC.out.mono ?_
      rintro e w1 ⟨rfl, rfl⟩
      go_wp2
      go_ret
      obtain ⟨u, hu⟩ := HM.out
      exact ⟨64 * j + c, u, by go_num, hu, by omega, Quiet.refl _⟩
end Go.Proofs.YteccbedmpjeamaaGreatDoor
