/-
  The walks of sign's helpers: the bytes of a number, the scalar of parts, challenges, the secret numbers.
-/
import Derived.Test.YthoonpjgecempaaDoorSBytes
import Derived.Test.YthoonpjgecempaaDoorShelf
namespace Go.Proofs.YthoonpjgecempaaDoor.S5
open Go.RowKit GM SH G4
set_option maxRecDepth 100000 in
set_option maxHeartbeats 1000000 in
theorem bytesOf_any (w : World) (n : Nat) (hn : n < 9223372036854775808) :
    Calls Tryd.prog 20 #[.int .i64 (n : Int)] w fun e w' => e = .returned (.string (bx n)) ∧ Below w.heap.size w w' := by
  obtain ⟨W, hW⟩ : ∃ W, w.alloc (.cells (hcells (rw8 n 0)) 52) = W := ⟨_, rfl⟩
  have h1 : BM W w.heap.size (rw8 n 0) := by rw [← hW]; exact heap_alloc_new _ _
  have hb : Below w.heap.size w W := by rw [← hW]; exact (Below.refl w.heap.size w).alloc (Nat.le_refl _) _
  have HI := Lib.hid (And.intro h1 hb); clear h1 hb
  go_enter Tryd.func20, Tryd.ntmps20
  go_upto_region 2 with fail
  change Code.wp _ _ _ _ (w.alloc (.cells (hcells (rw8 n 0)) 52))
  rw [hW]
  clear hW
  go_wp2_with fail
  go_loopw [5] (fun i wr => ∃ (k : Nat) (kk : Int), k ≤ 8 ∧ kk = (k : Nat) ∧ i = .int .i64 kk ∧ BM wr w.heap.size (rw8 n k) ∧ Hid (Below w.heap.size w wr)) (fun i _ => 8 - (intOf i).toNat)
  case atStart => exact ⟨0, 0, by omega, rfl, rfl, HI.out.1, Lib.hid HI.out.2⟩
  case round =>
    clear HI
    obtain ⟨k, kk, hk, hkk, rfl, hH, hb⟩ := hrel
    by_cases hlt : k < 8
    · subst hkk
      obtain ⟨j, hj⟩ : ∃ j : Nat, 7 - k = j := ⟨_, rfl⟩
      obtain ⟨s, hs⟩ : ∃ s : Nat, 8 * k = s := ⟨_, rfl⟩
      have e1 : 7 - (k : Int) = (j : Int) := by omega
      have e2 : 8 * (k : Int) = (s : Int) := by omega
      have s56 : s ≤ 56 := by omega
      have hj7 : j ≤ 7 := by omega
      have ev : ((n : Int) / 2 ^ s % 256) = (((by8 n k).toNat : Nat) : Int) := by rw [len_byte]; unfold by8; rw [hs]
      have ch := hH.cell j (by rw [rw8_len]; omega)
      have fh := hH.free j
      have hH2 : BM (wr.setCell ⟨w.heap.size, j, none⟩ (.int .u8 ((n : Int) / 2 ^ s % 256))) w.heap.size (rw8 n (k+1)) := by rw [ev, rw8, hj]; exact hH.set j _
      have hb2 := Lib.hid (hb.out.setCell (p := ⟨w.heap.size, j, none⟩) (Nat.le_refl _) (.int .u8 ((n : Int) / 2 ^ s % 256)))
      have HH := Lib.hid hH2; clear hH2 ev hH hb hj hs
      go_wp2
      exact ⟨⟨k + 1, _, by omega, by simp, rfl, HH.out, hb2⟩, by simp [intOf]; omega⟩
    · obtain rfl : k = 8 := by omega
      obtain rfl : kk = 8 := by omega
      rw [rw8_done] at hH
      have hcv := hH.conv 8 8 rfl
      clear hkk hlt hk
      go_wp2
      go_ret
      exact ⟨rfl, hb.out⟩
/-- the string of parts -/
def catL (xs : List ByteArray) : ByteArray := ⟨(Lib.join (xs.map (·.data.toList)) []).toArray⟩
theorem ba_ext {a b : ByteArray} (h : a.data.toList = b.data.toList) : a = b := by
  cases a; cases b; congr 1; exact Array.toList_inj.1 h
theorem catL_two (a b : ByteArray) : catL [a, b] = a ++ b := ba_ext (by
  show (Lib.join _ []).toArray.toList = _
  rw [cat_toList]; simp [Lib.join, List.intercalate])
theorem catL_three (a b c : ByteArray) : catL [a, b, c] = a ++ b ++ c := ba_ext (by
  show (Lib.join _ []).toArray.toList = _
  rw [cat_toList, cat_toList]; simp [Lib.join, List.intercalate])
theorem catL_four (a b c d : ByteArray) : catL [a, b, c, d] = a ++ b ++ c ++ d := ba_ext (by
  show (Lib.join _ []).toArray.toList = _
  rw [cat_toList, cat_toList, cat_toList]; simp [Lib.join, List.intercalate])
/-- the strings that are hashed: for a secret, for a signature's number, for a challenge -/
def ks (s : ByteArray) : ByteArray := (⟨#[107]⟩ : ByteArray) ++ s
def ns (x : Nat) (t : ByteArray) : ByteArray := (⟨#[110]⟩ : ByteArray) ++ bx x ++ t
def cs (r k : Nat) (t : ByteArray) : ByteArray := (⟨#[99]⟩ : ByteArray) ++ bx r ++ bx k ++ t
theorem ks_size (s : ByteArray) : (ks s).size = 1 + s.size := by unfold ks; rw [ByteArray.size_append]; rfl
theorem ns_size (x : Nat) (t : ByteArray) : (ns x t).size = 9 + t.size := by unfold ns; rw [ByteArray.size_append, ByteArray.size_append]; rfl
theorem cs_size (r k : Nat) (t : ByteArray) : (cs r k t).size = 17 + t.size := by unfold cs; rw [ByteArray.size_append, ByteArray.size_append, ByteArray.size_append]; rfl
set_option maxRecDepth 100000 in
theorem scalar_any (w : World) (bk c n : Nat) (xs : List ByteArray) (T : ByteArray) (hT : catL xs = T) (hn : xs.length = n)
    (hcells : ∀ (j : Nat) x, xs[j]? = some x → w.cell? ⟨bk, 0 + j, none⟩ = some (.string x)) (hbk : bk < w.heap.size) (hN : n ≤ 1000) (hcap : n ≤ c) (hlen : T.size ≤ 140737488355326) (hB : TB w) :
    Calls Tryd.prog 31 #[.slice (some ⟨bk, 0, none⟩) n c] w fun e w' => e = .returned (.int .i64 (sc T)) ∧ Below w.heap.size w w' := by
  subst hn
  have R1 := Tryd.strings_Join bk 0 c xs ⟨#[]⟩ w hcells hbk (by omega) hcap (by
    have : (catL xs).size = (Lib.join (xs.map (·.data.toList)) []).length := by rw [← size_toList]; rfl
    rw [hT] at this
    show (Lib.join (xs.map (·.data.toList)) []).length ≤ _
    omega)
  have e : (⟨(Lib.join (xs.map (·.data.toList)) (ByteArray.mk #[]).data.toList).toArray⟩ : ByteArray) = T := hT
  rw [e] at R1
  have R1 := Lib.hid R1
  have R2 := Lib.hid fun W (h : TB W) => Scalar_any W T hlen h.sq h.cb
  have HB := Lib.hid hB
  clear e hT hcells hB
  go_enter Tryd.func31, Tryd.ntmps31
  go_wp2_with fail
  refine R1.out.mono ?_
  rintro e w1 ⟨rfl, b1⟩
  have t1 := Lib.hid (HB.out.below b1)
  have hb := Lib.hid b1; clear b1
  go_wp2_with fail
  refine (R2.out _ t1.out).mono ?_
  rintro e w2 ⟨rfl, b2⟩
  replace hb := Lib.hid (hb.out.trans (b2.mono hb.out.size)); clear b2
  go_wp2
  go_ret
  exact ⟨rfl, hb.out⟩
/-- 1 in the place of 0 -/
def nz (n : Int) : Int := if n < 1 then 1 else n
theorem nz_rng {n : Int} (h : 0 ≤ n ∧ n < 1152921504606845789) : 0 < nz n ∧ nz n < 1152921504606845789 := by unfold nz; split <;> omega
theorem notZero_any (w : World) (n : Int) :
    Calls Tryd.prog 30 #[.int .i64 n] w fun e w' => e = .returned (.int .i64 (nz n)) ∧ w' = w := by
  by_cases h : n < 1
  · have e : nz n = 1 := if_pos h
    rw [e]
    have h2 : max n 1 = 1 := by omega
    go_enter Tryd.func30, Tryd.ntmps30
    go_wp2
    go_ret
    exact ⟨ret_int (by first | rfl | exact h2), rfl⟩
  · have e : nz n = n := if_neg h
    rw [e]
    have h2 : max n 1 = n := by omega
    go_enter Tryd.func30, Tryd.ntmps30
    go_wp2
    go_ret
    exact ⟨ret_int (by first | rfl | exact h2), rfl⟩
set_option maxRecDepth 100000 in
theorem hidden_any (w : World) (bk c n : Nat) (xs : List ByteArray) (T : ByteArray) (hT : catL xs = T) (hn : xs.length = n)
    (hcells : ∀ (j : Nat) x, xs[j]? = some x → w.cell? ⟨bk, 0 + j, none⟩ = some (.string x)) (hbk : bk < w.heap.size) (hN : n ≤ 1000) (hcap : n ≤ c) (hlen : T.size ≤ 140737488355326) (hB : TB w) :
    Calls Tryd.prog 17 #[.slice (some ⟨bk, 0, none⟩) n c] w fun e w' => e = .returned (.int .i64 (nz (sc T))) ∧ Below w.heap.size w w' := by
  have R1 := Lib.hid (scalar_any w bk c n xs T hT hn hcells hbk hN hcap hlen hB)
  have R2 := Lib.hid fun W => notZero_any W (sc T)
  generalize nz (sc T) = u at *
  generalize sc T = v at *
  clear hT hn hcells hB
  go_enter Tryd.func17, Tryd.ntmps17
  go_wp2_with fail
  refine R1.out.mono ?_
  rintro e w1 ⟨rfl, b1⟩
  have hb := Lib.hid b1; clear b1
  go_wp2_with fail
  refine (R2.out _).mono ?_
  rintro e w2 ⟨rfl, rfl⟩
  go_wp2
  go_ret
  exact ⟨rfl, hb.out⟩
/-- the exponent of a secret, and the public key of an exponent -/
def ex (s : Int) : Int := ga s 0 1152921504606845789
def pk (x : Int) : Int := gp 4 x 2305843009213691579
theorem ex_rng (s : Int) : 0 ≤ ex s ∧ ex s < 1152921504606845789 := by
  have := ga_rng s 0 1152921504606845789; unfold ex; omega
theorem pk_rng (x : Int) : 0 ≤ pk x ∧ pk x < 2305843009213691579 := by
  have := gp_rng 4 x 2305843009213691579; unfold pk; omega
theorem exponent_any (w : World) (s : Int) (h : -9223372036854775808 ≤ s ∧ s ≤ 9223372036854775807) :
    Calls Tryd.prog 19 #[.int .i64 s] w fun e w' => e = .returned (.int .i64 (ex s)) ∧ w' = w := by
  have R := Lib.hid (add_k w s 0 1152921504606845789 (ex s) rfl h.1 h.2 (by decide) (by decide) (by decide))
  generalize ex s = x at *
  go_enter Tryd.func19, Tryd.ntmps19
  go_wp2_with fail
  refine R.out.mono ?_
  rintro e w1 ⟨rfl, rfl⟩
  go_wp2
  go_ret
  exact ⟨rfl, rfl⟩
theorem publicKey_any (w : World) (x : Int) (h : 0 ≤ x ∧ x < 1152921504606845789) :
    Calls Tryd.prog 18 #[.int .i64 x] w fun e w' => e = .returned (.int .i64 (pk x)) ∧ Below w.heap.size w w' := by
  have R := Lib.hid (pow_k w 4 x 2305843009213691579 (pk x) rfl (by decide) (by decide) (by omega) (by decide))
  generalize pk x = y at *
  go_enter Tryd.func18, Tryd.ntmps18
  go_wp2_with fail
  refine R.out.mono ?_
  rintro e w1 ⟨rfl, b1⟩
  go_wp2
  go_ret
  exact ⟨rfl, b1⟩
set_option maxRecDepth 100000 in
theorem challenge_any (w : World) (r k : Nat) (t : ByteArray) (hr : r < 9223372036854775808) (hk : k < 9223372036854775808) (ht : t.size ≤ 140737488355300) (hB : TB w) :
    Calls Tryd.prog 22 #[.int .i64 (r : Int), .int .i64 (k : Int), .string t] w fun e w' => e = .returned (.int .i64 (sc (cs r k t))) ∧ Below w.heap.size w w' := by
  have R1 := Lib.hid fun W => bytesOf_any W r hr
  have R2 := Lib.hid fun W => bytesOf_any W k hk
  have R3 := Lib.hid fun W (h : TB W) => scalar_any (W.alloc (.cells #[.string ⟨#[99]⟩, .string (bx r), .string (bx k), .string t] 9)) W.heap.size 4 4 [⟨#[99]⟩, bx r, bx k, t] (cs r k t) (catL_four _ _ _ _) rfl
    (fun j x hj => by
      rw [World.cell?_alloc_at _ _ _ _ rfl]
      match j, hj with
      | 0, hj => simp at hj; subst hj; rfl
      | 1, hj => simp at hj; subst hj; rfl
      | 2, hj => simp at hj; subst hj; rfl
      | 3, hj => simp at hj; subst hj; rfl) (by simp) (by omega) (by omega) (by rw [cs_size]; omega) (h.below ((Below.refl _ W).alloc (Nat.le_refl _) _))
  have HB := Lib.hid hB
  generalize sc (cs r k t) = v at *
  generalize bx r = p at *
  generalize bx k = q at *
  clear hr hk hB
  go_enter Tryd.func22, Tryd.ntmps22
  go_wp2_with fail
  refine (R1.out _).mono ?_
  rintro e w1 ⟨rfl, b1⟩
  have t1 := Lib.hid (HB.out.below b1)
  have hb := Lib.hid b1; clear b1
  go_wp2_with fail
  refine (R2.out _).mono ?_
  rintro e w2 ⟨rfl, b2⟩
  have t2 := Lib.hid (t1.out.below b2)
  replace hb := Lib.hid (hb.out.trans (b2.mono hb.out.size)); clear b2
  go_wp2_with fail
  refine (R3.out _ t2.out).mono ?_
  rintro e w3 ⟨rfl, b2⟩
  have hb3 := Lib.hid ((hb.out.alloc hb.out.size _).trans (b2.mono (by have := hb.out.size; simp; omega))); clear b2
  go_wp2
  go_ret
  exact ⟨rfl, hb3.out⟩
end Go.Proofs.YthoonpjgecempaaDoor.S5
