/-
  The walk of the law NatInts.
-/
import Derived.Test.YtfamhaklfclcfaaGreatDoorRefOf
import Derived.Test.YtfamhaklfclcfaaGreatDoorSanity
import Derived.OpenShut
namespace Go.Proofs.YtfamhaklfclcfaaGreatDoor
open Go.RowKit NM
theorem OfZ (w : World) (m : Int) (h1 : -9223372036854775808 ≤ m) (h2 : m < 9223372036854775808) :
    Calls Tryz.prog 34 #[.int .i64 m] w fun e w' => e = .returned (.string (NB m.toNat)) ∧ Below w.heap.size w w' := by
  by_cases h : m < 0
  · rw [show m.toNat = 0 by omega, NB_0]
    exact (Of_neg w m h h1).mono fun e w' ⟨h1, h2⟩ => ⟨h1, by rw [← h2]; exact Below.refl _ _⟩
  · have := Of_pos w m.toNat (by omega)
    rw [show ((m.toNat : Nat) : Int) = m by omega] at this
    exact this
theorem NB63 {k : Nat} (h : k < 9223372036854775808) : (NB k).size ≤ 4294967296 := Nat.le_trans (NB_size (k := 8) (by omega)) (by omega)
theorem IntNB (w : World) (k : Nat) (h : k < 9223372036854775808) :
    Calls Tryz.prog 35 #[.string (NB k)] w fun e w' => e = .returned (.tuple #[.int .i64 (k : Nat), .bool true]) ∧ Below w.heap.size w w' := by
  have := Int_any w (NB k) (NB63 h)
  rw [show IntV (NB k) = .tuple #[.int .i64 (k : Nat), .bool true] by unfold IntV; rw [sv_NB, if_pos h]] at this
  exact this
theorem IntV_form (S : ByteArray) : ∃ (v : Int) (o : Bool), IntV S = .tuple #[.int .i64 v, .bool o] := by
  unfold IntV
  split
  · exact ⟨_, _, rfl⟩
  · exact ⟨_, _, rfl⟩
theorem and_range (n : Int) : -9223372036854775808 ≤ bits .and .i64 n 255 ∧ bits .and .i64 n 255 < 9223372036854775808 := by
  have := bounds_i64 (wf_bits .and .i64 n 255)
  omega
theorem cells6 (w : World) (t : TypeId) (n : Int) (h1 : -9223372036854775808 ≤ n) (h2 : n < 9223372036854775808) : ∀ j, j < 6 → ∃ m : Int, -9223372036854775808 ≤ m ∧ m < 9223372036854775808 ∧
    (w.alloc (.cells #[.int .i64 n, .int .i64 (wrap64 (-n)), .int .i64 (n / 256), .int .i64 (bits BinOp.and IntKind.i64 n 255), .int .i64 9223372036854775807, .int .i64 (-9223372036854775808)] t)).cell? ⟨w.heap.size, j, none⟩ = some (.int .i64 m) := by
  intro j hj
  rw [World.cell?_alloc_at _ _ _ _ rfl]
  match j, hj with
  | 0, _ => exact ⟨_, h1, h2, rfl⟩
  | 1, _ => exact ⟨_, by unfold wrap64; omega, by unfold wrap64; omega, rfl⟩
  | 2, _ => exact ⟨_, by omega, by omega, rfl⟩
  | 3, _ => exact ⟨_, (and_range n).1, (and_range n).2, rfl⟩
  | 4, _ => exact ⟨_, by omega, by omega, rfl⟩
  | 5, _ => exact ⟨_, by omega, by omega, rfl⟩
theorem cells4 (w : World) (t : TypeId) (A : ByteArray) (h : A.size ≤ 40) : ∀ j, j < 4 → ∃ S : ByteArray, S.size ≤ 4294967296 ∧
    (w.alloc (.cells #[.string A, .string ⟨#[128, 0, 0, 0, 0, 0, 0, 0]⟩, .string ⟨#[127, 255, 255, 255, 255, 255, 255, 255]⟩, .string (⟨#[0]⟩ ++ A)] t)).cell? ⟨w.heap.size, j, none⟩ = some (.string S) := by
  intro j hj
  rw [World.cell?_alloc_at _ _ _ _ rfl]
  match j, hj with
  | 0, _ => exact ⟨_, by omega, rfl⟩
  | 1, _ => exact ⟨_, by decide, rfl⟩
  | 2, _ => exact ⟨_, by decide, rfl⟩
  | 3, _ => exact ⟨_, by rw [ByteArray.size_append, show (ByteArray.mk #[0]).size = 1 from rfl]; omega, rfl⟩
set_option maxRecDepth 100000 in
set_option maxHeartbeats 8000000 in
theorem ints_walk (w : World) (n : Int) (hn1 : -9223372036854775808 ≤ n) (hn2 : n < 9223372036854775808) (v1 : Value) (h1 : ∀ W, Below w.heap.size w W → Calls Tryz.prog 11 #[v1] W (MadeQ W))
    (hT : DB w) (hg : 2 < w.heap.size) (hP : P10 w) (hg2 : 3 < w.heap.size) :
    Calls Tryz.prog 9 #[.int .i64 n, v1] w fun e w' => e = .returned (.bool true) ∧ Below w.heap.size w w' := by
  have HN := Lib.hid (And.intro hn1 hn2); clear hn1 hn2
  have hB := Below.refl w.heap.size w
  go_enter Tryz.func9, Tryz.ntmps9
  go_wp2_with fail
  refine (sanity_any w hT hg hP hg2).mono ?_
  rintro e w' ⟨rfl, b⟩
  replace hB := hB.trans b; clear b
  go_wp2_with fail
  refine (h1 _ hB).mono ?_
  rintro e w' ⟨A, sA, rfl, rfl⟩
  have hc6 := cells6 w' 3 n HN.out.1 HN.out.2
  have hBA : Below w.heap.size w (w'.alloc (.cells #[.int .i64 n, .int .i64 (wrap64 (-n)), .int .i64 (n / 256), .int .i64 (bits BinOp.and IntKind.i64 n 255), .int .i64 9223372036854775807, .int .i64 (-9223372036854775808)] 3)) := hB.alloc hB.size _
  have hlt : w'.heap.size < (w'.alloc (.cells #[.int .i64 n, .int .i64 (wrap64 (-n)), .int .i64 (n / 256), .int .i64 (bits BinOp.and IntKind.i64 n 255), .int .i64 9223372036854775807, .int .i64 (-9223372036854775808)] 3)).heap.size := by simp
  generalize hg9 : w'.heap.size = g at *
  go_wp2_with fail
  clear hg9
  generalize w'.alloc (.cells #[.int .i64 n, .int .i64 (wrap64 (-n)), .int .i64 (n / 256), .int .i64 (bits BinOp.and IntKind.i64 n 255), .int .i64 9223372036854775807, .int .i64 (-9223372036854775808)] 3) = wA at *
  have HC := Lib.hid hc6; clear hc6
  go_loopw [30] (fun i wr => ∃ (j : Nat) (kk : Int), j ≤ 6 ∧ kk = (j : Int) ∧ i = .int .i64 kk ∧ Below wA.heap.size wA wr) (fun i _ => 6 - (intOf i).toNat)
  case atStart => exact ⟨0, 0, by omega, rfl, rfl, Below.refl _ _⟩
  case round =>
    obtain ⟨j, kk, hj, hkk, rfl, hBr⟩ := hrel
    by_cases hlj : j < 6
    · subst hkk
      obtain ⟨m, m1, m2, hcell⟩ := HC.out j hlj
      have hcr := (hBr.cell (p := ⟨g, j, none⟩) hlt).trans hcell
      obtain ⟨k, hk⟩ : ∃ k, k = m.toNat := ⟨_, rfl⟩
      have hmax : max m 0 = (k : Int) := by omega
      have hk63 : k < 9223372036854775808 := by omega
      have C1 := fun W => OfZ W m m1 m2
      have C2 := fun W => RefOf_any W m m1 m2
      have C3 := fun W => IntNB W k hk63
      rw [← hk] at C1 C2
      clear hk hk63 m1 m2
      have hdj : decide ((j : Int) < 6) = true := by simp; omega
      go_wp2_with fail
      refine (C1 _).mono ?_
      rintro e x1 ⟨rfl, b1⟩
      go_wp2_with fail
      refine (C3 _).mono ?_
      rintro e x2 ⟨rfl, b2⟩
      go_wp2_with fail
      refine (C2 _).mono ?_
      rintro e x3 ⟨rfl, b3⟩
      have hB3 := ((hBr.trans (b1.mono hBr.size)).trans (b2.mono (Nat.le_trans hBr.size b1.size))).trans (b3.mono (Nat.le_trans (Nat.le_trans hBr.size b1.size) b2.size))
      go_wp2
      exact ⟨⟨j + 1, _, hlj, rfl, by go_num, hB3⟩, by simp [intOf]; omega⟩
    · obtain rfl : kk = 6 := by omega
      clear HC hlj hj hkk
      have hd4 := cells4 wr 24 A sA
      have hBA2 : Below w.heap.size w (wr.alloc (.cells #[.string A, .string ⟨#[128, 0, 0, 0, 0, 0, 0, 0]⟩, .string ⟨#[127, 255, 255, 255, 255, 255, 255, 255]⟩, .string (⟨#[0]⟩ ++ A)] 24)) := (hBA.trans (hBr.mono hBA.size)).alloc (Nat.le_trans hBA.size hBr.size) _
      have hlt2 : wr.heap.size < (wr.alloc (.cells #[.string A, .string ⟨#[128, 0, 0, 0, 0, 0, 0, 0]⟩, .string ⟨#[127, 255, 255, 255, 255, 255, 255, 255]⟩, .string (⟨#[0]⟩ ++ A)] 24)).heap.size := by simp
      clear hBA hlt hBr
      generalize hg9 : wr.heap.size = g2 at *
      go_wp2_with fail
      clear hg9
      generalize wr.alloc (.cells #[.string A, .string ⟨#[128, 0, 0, 0, 0, 0, 0, 0]⟩, .string ⟨#[127, 255, 255, 255, 255, 255, 255, 255]⟩, .string (⟨#[0]⟩ ++ A)] 24) = wC at *
      have HC := Lib.hid hd4; clear hd4
      go_loopw [61] (fun i wr => ∃ j : Nat, j ≤ 4 ∧ i = .int .i64 (j : Nat) ∧ Below wC.heap.size wC wr) (fun i _ => 4 - (intOf i).toNat)
      case atStart => exact ⟨0, by omega, rfl, Below.refl _ _⟩
      case round =>
        obtain ⟨j, hj, rfl, hBr⟩ := hrel
        by_cases hlj : j < 4
        · obtain ⟨S, sS, hcell⟩ := HC.out j hlj
          have hcr := (hBr.cell (p := ⟨g2, j, none⟩) hlt2).trans hcell
          have C1 := fun W => Int_any W S sS
          have C2 := fun W => RefInt_any W S sS
          have C3 := fun W => Bits_any W S sS
          have C4 := fun W => RefBits_any W S sS
          obtain ⟨v, o, hvo⟩ := IntV_form S
          rw [hvo] at C1 C2
          clear hvo
          generalize bl (sv S) = q at *
          go_wp2_with fail
          refine (C1 _).mono ?_
          rintro e x1 ⟨rfl, b1⟩
          have hB1 := hBr.trans (b1.mono hBr.size)
          go_wp2_with fail
          refine (C2 _).mono ?_
          rintro e x2 ⟨rfl, rfl⟩
          go_wp2_with fail
          refine (C3 _).mono ?_
          rintro e x2 ⟨rfl, rfl⟩
          go_wp2_with fail
          refine (C4 _).mono ?_
          rintro e x2 ⟨rfl, rfl⟩
          go_wp2_with fail
          refine (Right_any _ S).mono ?_
          rintro e x2 ⟨rfl, rfl⟩
          go_wp2_with fail
          refine (RefRight_any _ S).mono ?_
          rintro e x2 ⟨rfl, rfl⟩
          go_wp2
          go_roundw
          case rel => exact ⟨j + 1, hlj, by go_num, hB1⟩
          case measure => (simp [intOf]; omega)
        · obtain rfl : j = 4 := by omega
          go_wp2
          go_ret
          exact ⟨rfl, hBA2.trans (hBr.mono hBA2.size)⟩
end Go.Proofs.YtfamhaklfclcfaaGreatDoor
