/-
  The walks of the reference's Bytes, Exponent, positive, Public, Key, Challenge.
-/
import Derived.Test.YtiojcmfckmjoaaaGreatDoorSVerifies
import Derived.Test.YtiojcmfckmjoaaaGreatDoorGRefB
import Derived.Test.YtiojcmfckmjoaaaGreatDoorGRefNumber
import Derived.OwnWalk
namespace Go.Proofs.YtiojcmfckmjoaaaGreatDoor.S5
open Go.RowKit GM SH G4
theorem conv_own5 {wr : World} {B : Nat} {v : Value} {bs : List UInt8} (n : Nat) (hn : bs.length = n) (h : wr.ownsRow B t8 1 v n (Lib.byteCells bs)) :
    (convert 77 9 v).run Tryz.prog wr = .ok (.string ⟨bs.toArray⟩) wr := by
  subst hn
  rcases h.2 with ⟨hv, h0⟩ | ⟨g, cap, cur, hv, _⟩
  · subst hv
    have hb : bs = [] := List.length_eq_zero_iff.1 h0
    subst hb
    exact run_convert_bytes_nil (P := Tryz.prog) wr 77 5 Tryz.underlying77 Tryz.underlying5 0 0 9 Tryz.underlying9
  · subst hv
    exact run_convert_bytes_back (P := Tryz.prog) wr 77 9 5 ⟨g, 0, none⟩ cap bs Tryz.underlying77 Tryz.underlying5 Tryz.underlying9 (fun j hj => World.ownsRow.cells h (g := g) rfl j (.int .u8 (bs[j].toNat : Int)) (by simp [Lib.byteCells, hj]))
theorem bx_succ (n j s : Nat) (hj : j < 8) (hs : 8 * (7 - j) = s) : Lib.byteCells ((bxl n).take (j+1)) = Lib.byteCells ((bxl n).take j) ++ [.int .u8 ((n : Int) / 2^s % 256)] := by
  subst hs
  rw [len_byte]
  match j, hj with
  | 0, _ => rfl
  | 1, _ => rfl
  | 2, _ => rfl
  | 3, _ => rfl
  | 4, _ => rfl
  | 5, _ => rfl
  | 6, _ => rfl
  | 7, _ => rfl
set_option maxRecDepth 100000 in
set_option maxHeartbeats 2000000 in
theorem refBytes_any (w : World) (n : Nat) (hn : n < 9223372036854775808) :
    Calls Tryz.prog 42 #[.int .i64 (n : Int)] w fun e w' => e = .returned (.string (bx n)) ∧ Below w.heap.size w w' := by
  obtain ⟨i0, hi, hz0, hz1, hz2⟩ := info_parts info8
  go_enter Tryz.func42, Tryz.ntmps42
  go_wp2_with fail
  go_loopw [3, 4] (fun b k wr => ∃ (j : Nat) (v : Value) (kk : Int), b = v ∧ j ≤ 8 ∧ kk = 7 - (j : Int) ∧ k = .int .i64 kk ∧ wr.ownsRow w.heap.size t8 1 v j (Lib.byteCells ((bxl n).take j)) ∧ Hid (Below w.heap.size w wr)) (fun _ k _ => (intOf k + 1).toNat)
  case atStart => exact ⟨0, _, 7, rfl, by omega, rfl, rfl, World.ownsRow_nil _ _ _ _, Lib.hid (Below.refl _ _)⟩
  case round =>
    obtain ⟨j, v, kk, rfl, hj, hkk, rfl, hown, hb⟩ := hrel
    by_cases hlt : j < 8
    · obtain ⟨m, hm⟩ : ∃ m : Nat, 7 - j = m := ⟨_, rfl⟩
      obtain rfl : kk = (m : Int) := by omega
      have hm7 : m ≤ 7 := by omega
      obtain ⟨s, hs⟩ : ∃ s : Nat, 8 * m = s := ⟨_, rfl⟩
      have e2 : 8 * (m : Int) = (s : Int) := by omega
      have s56 : s ≤ 56 := by omega
      have hsz := hb.out.size
      have hst := bx_succ n j s hlt (by omega)
      have HH := Lib.hid (And.intro hm (And.intro hs (And.intro hlt (And.intro hkk (And.intro hsz hst))))); clear hm hs hlt hkk hj hsz hst
      go_wp2_with (at_builtin; refine wpList_append_own _ rfl _ _ 77 rfl w.heap.size t8 i0 (.int .u8 0) 1 1 Tryz.underlying77 hi hz0 hz1 hz2 rfl (by decide) _ _ _ rfl (hown.alloc _) ⟨wr.heap.size, 0, none⟩ 1 1 [.int .u8 ((n : Int) / 2^s % 256)] rfl rfl ?c1 ?c2 ?c3 ?c4 ?c5 ?_)
      case c1 =>
        intro j u hj
        match j, hj with
        | 0, hj => simp at hj; subst hj; simp [Addr.add]
      case c2 => intro u hu; simp at hu; subst hu; rfl
      case c3 => unfold maxLen; have := HH.out.2.2.1; omega
      case c4 => have := HH.out.2.2.1; omega
      case c5 => have := HH.out.2.2.2.2.1; simp; omega
      intro v' w2 hown' hgrow _
      rw [← HH.out.2.2.2.2.2] at hown'
      go_wp2
      exact ⟨⟨j + 1, v', (m : Int) - 1, rfl, by have := HH.out.2.2.1; omega, by have := HH.out.1; have := HH.out.2.2.1; omega, rfl, hown', Lib.hid ((hb.out.alloc HH.out.2.2.2.2.1 _).grown hgrow (by have := HH.out.2.2.2.2.1; simp; omega) (fun k hk => (hown.lt k hk).1))⟩, by simp [intOf]; try omega⟩
    · obtain rfl : j = 8 := by omega
      obtain rfl : kk = -1 := by omega
      have hl : (bxl n).take 8 = bxl n := rfl
      rw [hl] at hown
      have hcv := conv_own5 8 rfl hown
      clear hkk hlt hj hl hown
      go_wp2
      go_ret
      exact ⟨rfl, hb.out⟩
theorem ex_mod (s : Int) : ex s = s % 1152921504606845789 := by unfold ex ga; rw [if_neg (by omega), Int.add_zero]
theorem refExponent_any (w : World) (s : Int) (_h : -9223372036854775808 ≤ s ∧ s ≤ 9223372036854775807) :
    Calls Tryz.prog 23 #[.int .i64 s] w fun e w' => e = .returned (.int .i64 (ex s)) ∧ w' = w := by
  have E0 := ex_mod s
  have h1 : -1152921504606845789 < Int.tmod s 1152921504606845789 := by
    have := Int.lt_tmod_of_pos s (show (0 : Int) < 1152921504606845789 by decide); omega
  have h2 : Int.tmod s 1152921504606845789 < 1152921504606845789 := Int.tmod_lt_of_pos s (by decide)
  by_cases h : Int.tmod s 1152921504606845789 < 0
  · have e := res_lo s 1152921504606845789 (by decide) h
    obtain ⟨r, hr⟩ : ∃ r, Int.tmod s 1152921504606845789 = r := ⟨_, rfl⟩
    rw [hr] at e
    have E := Lib.hid (e.trans E0.symm); clear e E0
    rw [hr] at h h1 h2
    go_enter Tryz.func23, Tryz.ntmps23
    go_wp2
    go_ret
    exact ⟨ret_int E.out, rfl⟩
  · have e := res_hi s 1152921504606845789 (by decide) h
    obtain ⟨r, hr⟩ : ∃ r, Int.tmod s 1152921504606845789 = r := ⟨_, rfl⟩
    rw [hr] at e
    have E := Lib.hid (e.trans E0.symm); clear e E0
    rw [hr] at h h1 h2
    go_enter Tryz.func23, Tryz.ntmps23
    go_wp2
    go_ret
    exact ⟨ret_int E.out, rfl⟩
set_option maxRecDepth 100000 in
theorem refPositive_any (w : World) (t : ByteArray) (ht : t.size ≤ 999999998) :
    Calls Tryz.prog 33 #[.string t] w fun e w' => e = .returned (.int .i64 (nz (sc t))) ∧ Below w.heap.size w w' := by
  have R1 := Lib.hid (refScalar_any w t ht)
  have E := Lib.hid (show max (sc t) 1 = nz (sc t) by unfold nz; split <;> omega)
  generalize nz (sc t) = z at *
  generalize sc t = v at *
  go_enter Tryz.func33, Tryz.ntmps33
  go_wp2_with fail
  refine R1.out.mono ?_
  rintro e w1 ⟨rfl, b1⟩
  have hb := Lib.hid b1; clear b1
  go_wp2
  go_ret
  exact ⟨ret_int E.out, hb.out⟩
theorem refPublic_any (w : World) (s : Int) (h : -9223372036854775808 ≤ s ∧ s ≤ 9223372036854775807) :
    Calls Tryz.prog 19 #[.int .i64 s] w fun e w' => e = .returned (.int .i64 (pk (ex s))) ∧ Below w.heap.size w w' := by
  have x0 := ex_rng s
  have R1 := Lib.hid (refExponent_any w s h)
  generalize ex s = x at *
  have R2 := Lib.hid (show ∀ W, Calls Tryz.prog 16 #[.int .i64 4, .int .i64 x, .int .i64 2305843009213691579] W fun e w' => e = .returned (.int .i64 (pk x)) ∧ Below W.heap.size W w' from fun W => (refPow_any W 4 x 2305843009213691579 (by decide) (by decide) (by omega) (by decide)).mono fun e w' ⟨he, hw⟩ => ⟨he, hw ▸ Below.refl _ _⟩)
  generalize pk x = y at *
  go_enter Tryz.func19, Tryz.ntmps19
  go_wp2_with fail
  refine R1.out.mono ?_
  rintro e w1 ⟨rfl, rfl⟩
  go_wp2_with fail
  refine (R2.out _).mono ?_
  rintro e w2 ⟨rfl, b2⟩
  go_wp2
  go_ret
  exact ⟨rfl, b2⟩
set_option maxRecDepth 100000 in
theorem refKey_any (w : World) (s : ByteArray) (hs : s.size ≤ 999990000) :
    Calls Tryz.prog 15 #[.string s] w fun e w' => e = .returned (.tuple #[.int .i64 (nz (sc (ks s))), .int .i64 (pk (nz (sc (ks s))))]) ∧ Below w.heap.size w w' := by
  have hbig : (9223372036854775807 < 1 + s.size) = False := eq_false (by omega)
  have R1 := Lib.hid (show Calls Tryz.prog 33 #[.string ((⟨#[107]⟩ : ByteArray) ++ s)] w fun e w' => e = .returned (.int .i64 (nz (sc (ks s)))) ∧ Below w.heap.size w w' from refPositive_any w (ks s) (by rw [ks_size]; omega))
  have x0 := nz_rng (sc_rng (ks s))
  have R2 := fun W => refPublic_any W (nz (sc (ks s))) (by omega)
  rw [ex_id _ (by omega)] at R2
  have R2 := Lib.hid R2
  generalize nz (sc (ks s)) = x at *
  generalize pk x = y at *
  clear hs x0
  go_enter Tryz.func15, Tryz.ntmps15
  go_wp2_with fail
  refine R1.out.mono ?_
  rintro e w1 ⟨rfl, b1⟩
  have hb := Lib.hid b1; clear b1
  go_wp2_with fail
  refine (R2.out _).mono ?_
  rintro e w2 ⟨rfl, b2⟩
  replace hb := Lib.hid (hb.out.trans (b2.mono hb.out.size)); clear b2
  go_wp2
  go_ret2
  exact ⟨rfl, hb.out⟩
set_option maxRecDepth 100000 in
theorem refChallenge_any (w : World) (r k : Nat) (t : ByteArray) (hr : r < 9223372036854775808) (hk : k < 9223372036854775808) (ht : t.size ≤ 999990000) :
    Calls Tryz.prog 24 #[.int .i64 (r : Int), .int .i64 (k : Int), .string t] w fun e w' => e = .returned (.int .i64 (sc (cs r k t))) ∧ Below w.heap.size w w' := by
  have R1 := Lib.hid fun W => refBytes_any W r hr
  have R2 := Lib.hid fun W => refBytes_any W k hk
  have R3 := Lib.hid (show ∀ W, Calls Tryz.prog 46 #[.string ((⟨#[99]⟩ : ByteArray) ++ bx r ++ bx k ++ t)] W fun e w' => e = .returned (.int .i64 (sc (cs r k t))) ∧ Below W.heap.size W w' from fun W => refScalar_any W (cs r k t) (by rw [cs_size]; omega))
  have p8 : (bx r).size = 8 := rfl
  have q8 : (bx k).size = 8 := rfl
  generalize sc (cs r k t) = v at *
  generalize bx r = p at *
  generalize bx k = q at *
  have b1 : (9223372036854775807 < 1 + p.size) = False := eq_false (by omega)
  have b2 : (9223372036854775807 < 1 + p.size + q.size) = False := eq_false (by omega)
  have b3 : (9223372036854775807 < 1 + p.size + q.size + t.size) = False := eq_false (by omega)
  clear hr hk ht p8 q8
  go_enter Tryz.func24, Tryz.ntmps24
  go_wp2_with fail
  refine (R1.out _).mono ?_
  rintro e w1 ⟨rfl, c1⟩
  have hb := Lib.hid c1; clear c1
  go_wp2_with fail
  refine (R2.out _).mono ?_
  rintro e w2 ⟨rfl, c2⟩
  replace hb := Lib.hid (hb.out.trans (c2.mono hb.out.size)); clear c2
  go_wp2_with fail
  refine (R3.out _).mono ?_
  rintro e w3 ⟨rfl, c3⟩
  replace hb := Lib.hid (hb.out.trans (c3.mono hb.out.size)); clear c3
  go_wp2
  go_ret
  exact ⟨rfl, hb.out⟩
end Go.Proofs.YtiojcmfckmjoaaaGreatDoor.S5
