/-
  The walk of the reference's decimal.
-/
import Derived.Test.YthoonpjgecempaaDoorSCut
namespace Go.Proofs.YthoonpjgecempaaDoor.S5
open Go.RowKit GM SH G4 DM
abbrev i64 (n : Int) : Prop := -9223372036854775808 ≤ n ∧ n ≤ 9223372036854775807
def dgx (n : Nat) : ByteArray := ⟨(Lib.decDigits n).toArray⟩
theorem conv_one (W : World) (c : Nat) (h : c < 256) (t : TypeId) :
    (convert 30 9 (.slice (some ⟨W.heap.size, 0, none⟩) 1 1)).run Tryd.prog (W.alloc (.cells #[.int .u8 (c : Int)] t)) = .ok (.string ⟨#[UInt8.ofNat c]⟩) (W.alloc (.cells #[.int .u8 (c : Int)] t)) := by
  have := run_convert_bytes_back (P := Tryd.prog) (W.alloc (.cells #[.int .u8 (c : Int)] t)) 30 9 5 ⟨W.heap.size, 0, none⟩ 1 [UInt8.ofNat c] Tryd.underlying30 Tryd.underlying5 Tryd.underlying9 (fun j hj => by
    obtain rfl : j = 0 := by simp at hj; exact hj
    simp [Addr.add]
    omega)
  simpa using this
theorem ten_step (n : Nat) (h : ¬ n < 10) (T : List UInt8) : Lib.decDigits (n / 10) ++ ([UInt8.ofNat (48 + n % 10)] ++ T) = Lib.decDigits n ++ T := by
  conv => rhs; rw [Lib.decDigits, dif_neg h]
  rw [List.append_assoc]
theorem dig_len (k : Nat) : ∀ n, 1 ≤ k → n < 10^k → (Lib.decDigits n).length ≤ k := by
  induction k with
  | zero => intro n h; omega
  | succ k ih =>
    intro n _ hn
    rw [Lib.decDigits]
    split
    · simp
    · rename_i h
      have hk : 1 ≤ k := by
        rcases Nat.eq_zero_or_pos k with h0 | h0
        · subst h0; simp at hn; omega
        · exact h0
      have := ih (n / 10) hk (by rw [Nat.pow_succ] at hn; omega)
      rw [List.length_append, List.length_singleton]; omega
theorem dcm_nat (n : Nat) : dcm (n : Int) = dgx n := by
  unfold dcm Lib.itoa dgx
  rw [if_neg (by omega), Int.toNat_natCast]
theorem neg_cat (s : ByteArray) : (⟨#[45]⟩ : ByteArray) ++ s = ⟨(45 :: s.data.toList).toArray⟩ := ba_ext (by simp [ByteArray.data_append])
theorem dcm_neg (n : Nat) (h : 0 < n) : dcm (-(n : Int)) = (⟨#[45]⟩ : ByteArray) ++ dgx n := by
  rw [neg_cat]
  unfold dcm Lib.itoa
  rw [if_pos (by omega), Int.natAbs_neg, Int.natAbs_natCast]
  rfl
/-- what the divisions by ten keep -/
structure DI (N m : Nat) (T : ByteArray) : Prop where
  le : m ≤ N
  ne : m ≠ 0 → Lib.decDigits m ++ T.data.toList = Lib.decDigits N
  z : m = 0 → T.data.toList = Lib.decDigits N
theorem DI.step {N m : Nat} {T : ByteArray} (h : DI N m T) (hm : m ≠ 0) (c : Nat) (hc : c = 48 + m % 10) : DI N (m / 10) ((⟨#[UInt8.ofNat c]⟩ : ByteArray) ++ T) := by
  subst hc
  refine ⟨by have := h.le; omega, fun h2 => ?_, fun h2 => ?_⟩
  · rw [ByteArray.data_append, Array.toList_append, ← h.ne hm]
    show Lib.decDigits (m / 10) ++ ([UInt8.ofNat _] ++ _) = _
    exact ten_step m (by omega) _
  · rw [ByteArray.data_append, Array.toList_append, ← h.ne hm, Lib.decDigits_one (show m < 10 by omega)]
    show [UInt8.ofNat _] ++ _ = _
    rw [Nat.mod_eq_of_lt (by omega)]
theorem DI.len {N m : Nat} {T : ByteArray} (h : DI N m T) (hN : N ≤ 9223372036854775808) : T.size ≤ 19 := by
  have hl := dig_len 19 N (by decide) (by omega)
  have e : T.data.toList.length = T.size := by rw [size_toList]
  by_cases hm : m = 0
  · rw [← h.z hm] at hl; omega
  · have := congrArg List.length (h.ne hm)
    rw [List.length_append] at this; omega
set_option maxRecDepth 100000 in
set_option maxHeartbeats 4000000 in
theorem decimal_pos (w : World) (N : Nat) (h0 : 0 < N) (hN : N ≤ 9223372036854775808 - 1) :
    Calls Tryd.prog 15 #[.int .i64 (N : Int)] w fun e w' => e = .returned (.string (dcm (N : Int))) ∧ Below w.heap.size w w' := by
  have z0 : ((N : Int) == 0) = false := beq_eq_false_iff_ne.2 (by omega)
  have D0 := Lib.hid (show DI N N ⟨#[]⟩ from ⟨Nat.le_refl _, fun _ => by simp, fun h => by omega⟩)
  have E := Lib.hid (dcm_nat N)
  have HN := Lib.hid (And.intro h0 hN)
  have sN : decide ((N : Int) < 0) = false := decide_eq_false (by omega)
  generalize dcm (N : Int) = V at *
  clear h0 hN
  go_enter Tryd.func15, Tryd.ntmps15
  go_wp2_with fail
  go_loopw [4, 3] (fun rv sv wr => ∃ (m : Nat) (T : ByteArray), rv = .int .i64 (m : Int) ∧ sv = .string T ∧ Hid (DI N m T) ∧ Hid (Below w.heap.size w wr)) (fun rv _ _ => match rv with | .int _ i => i.natAbs | _ => 0)
  case atStart => exact ⟨N, _, rfl, rfl, D0, Lib.hid (Below.refl _ _)⟩
  case round =>
    obtain ⟨m, T, rfl, rfl, hD, hB⟩ := hrel
    have hlen := hD.out.len (by have := HN.out.2; omega)
    by_cases hm : m = 0
    · subst hm
      have hT : T = dgx N := ba_ext (hD.out.z rfl)
      rw [← hT] at E
      have hN0 : 0 < N := HN.out.1
      clear hT hD
      go_wp2
      go_ret
      exact ⟨by rw [E.out]; rfl, hB.out⟩
    · have zm : ((m : Int) == 0) = false := beq_eq_false_iff_ne.2 (by omega)
      obtain ⟨r, hr⟩ : ∃ r, r = m % 10 := ⟨_, rfl⟩
      have hr10 : r < 10 := by omega
      have d1 : Int.tdiv (m : Int) 10 = ((m / 10 : Nat) : Int) := by rw [Int.tdiv_eq_ediv_of_nonneg (by omega)]; omega
      have d2 : Int.tmod (m : Int) 10 = (r : Int) := by rw [Int.tmod_eq_emod_of_nonneg (by omega), hr]; omega
      have x1 : IntKind.i64.wrap (48 + (r : Int)) = 48 + (r : Int) := IntWalk.i64_in _ ⟨by omega, by omega⟩
      obtain ⟨c, hc⟩ : ∃ c, c = 48 + r := ⟨_, rfl⟩
      have x2 : IntKind.u8.wrap (48 + (r : Int)) = (c : Int) := by rw [IntKind.wrap_u8]; omega
      have hcv := fun W => conv_one W c (by omega) 5
      have hcv4 := hcv wr
      have N2 := Lib.hid (hD.out.step hm c (by omega))
      have hmN : m ≤ 9223372036854775808 := by have := hD.out.le; have := HN.out.2; omega
      have hdec : (m / 10) < m := by omega
      have szb := hB.out.size
      have s0 : decide ((r : Int) < 0) = false := decide_eq_false (by omega)
      clear hr hc hcv
      go_wp2
      exact ⟨⟨m / 10, _, rfl, rfl, N2, Lib.hid (hB.out.alloc szb _)⟩, by simp only [Int.natAbs_natCast]; omega⟩
set_option maxRecDepth 100000 in
set_option maxHeartbeats 4000000 in
theorem decimal_neg (w : World) (N : Nat) (h0 : 0 < N) (hN : N ≤ 9223372036854775808) :
    Calls Tryd.prog 15 #[.int .i64 (-(N : Int))] w fun e w' => e = .returned (.string (dcm (-(N : Int)))) ∧ Below w.heap.size w w' := by
  have z0 : ((-(N : Int)) == 0) = false := beq_eq_false_iff_ne.2 (by omega)
  have D0 := Lib.hid (show DI N N ⟨#[]⟩ from ⟨Nat.le_refl _, fun _ => by simp, fun h => by omega⟩)
  have E := Lib.hid (dcm_neg N h0)
  have HN := Lib.hid (And.intro h0 hN)
  have sN : decide ((-(N : Int)) < 0) = true := decide_eq_true (by omega)
  generalize dcm (-(N : Int)) = V at *
  clear h0 hN
  go_enter Tryd.func15, Tryd.ntmps15
  go_wp2_with fail
  go_loopw [4, 3] (fun rv sv wr => ∃ (m : Nat) (T : ByteArray), rv = .int .i64 (-(m : Int)) ∧ sv = .string T ∧ Hid (DI N m T) ∧ Hid (Below w.heap.size w wr)) (fun rv _ _ => match rv with | .int _ i => i.natAbs | _ => 0)
  case atStart => exact ⟨N, _, rfl, rfl, D0, Lib.hid (Below.refl _ _)⟩
  case round =>
    obtain ⟨m, T, rfl, rfl, hD, hB⟩ := hrel
    have hlen := hD.out.len HN.out.2
    by_cases hm : m = 0
    · subst hm
      have hT : T = dgx N := ba_ext (hD.out.z rfl)
      rw [← hT] at E
      have hN0 : 0 < N := HN.out.1
      clear hT hD
      go_wp2
      go_ret
      exact ⟨by rw [E.out]; rfl, hB.out⟩
    · have zm : ((-(m : Int)) == 0) = false := beq_eq_false_iff_ne.2 (by omega)
      obtain ⟨r, hr⟩ : ∃ r, r = m % 10 := ⟨_, rfl⟩
      have hr10 : r < 10 := by omega
      have d1 : Int.tdiv (-(m : Int)) 10 = (-((m / 10 : Nat) : Int)) := by rw [Int.neg_tdiv, Int.tdiv_eq_ediv_of_nonneg (by omega)]; omega
      have d2 : Int.tmod (-(m : Int)) 10 = (-(r : Int)) := by rw [Int.neg_tmod, Int.tmod_eq_emod_of_nonneg (by omega), hr]; omega
      have x1 : IntKind.i64.wrap (48 + (r : Int)) = 48 + (r : Int) := IntWalk.i64_in _ ⟨by omega, by omega⟩
      obtain ⟨c, hc⟩ : ∃ c, c = 48 + r := ⟨_, rfl⟩
      have x2 : IntKind.u8.wrap (48 + (r : Int)) = (c : Int) := by rw [IntKind.wrap_u8]; omega
      have hcv := fun W => conv_one W c (by omega) 5
      have hcv4 := hcv wr
      have N2 := Lib.hid (hD.out.step hm c (by omega))
      have hmN : m ≤ 9223372036854775808 := by have := hD.out.le; have := HN.out.2; omega
      have hdec : (m / 10) < m := by omega
      have szb := hB.out.size
      by_cases hr0 : r = 0
      · have d3 : Int.tmod (-(m : Int)) 10 = 0 := by rw [d2, hr0]; rfl
        obtain rfl : c = 48 := by omega
        have hcv5 : (convert 30 9 (.slice (some ⟨wr.heap.size, 0, none⟩) 1 1)).run Tryd.prog (wr.alloc (.cells #[.int .u8 48] 5)) = .ok (.string ⟨#[UInt8.ofNat 48]⟩) (wr.alloc (.cells #[.int .u8 48] 5)) := conv_one wr 48 (by decide) 5
        clear hr hcv hcv4 d2 x1 x2 hc hr0
        go_wp2
        exact ⟨⟨m / 10, _, rfl, rfl, N2, Lib.hid (hB.out.alloc szb _)⟩, by simp only [Int.natAbs_neg, Int.natAbs_natCast]; omega⟩
      · have s0 : decide (-(r : Int) < 0) = true := decide_eq_true (by omega)
        have x5 : wrap64 (-(-(r : Int))) = (r : Int) := by unfold wrap64; omega
        have x6 : IntKind.i64.wrap (-(-(r : Int))) = (r : Int) := by rw [Int.neg_neg]; exact IntWalk.i64_in _ ⟨by omega, by omega⟩
        clear hr hc hcv
        go_wp2
        exact ⟨⟨m / 10, _, rfl, rfl, N2, Lib.hid (hB.out.alloc szb _)⟩, by simp only [Int.natAbs_neg, Int.natAbs_natCast]; omega⟩
theorem decimal_any (w : World) (n : Int) (h : i64 n) :
    Calls Tryd.prog 15 #[.int .i64 n] w fun e w' => e = .returned (.string (dcm n)) ∧ Below w.heap.size w w' := by
  by_cases h0 : n = 0
  · subst h0
    have E : dcm 0 = ⟨#[48]⟩ := by
      have e := dcm_nat 0
      unfold dgx at e
      rw [Lib.decDigits_one (by omega)] at e
      exact e
    rw [E]
    go_enter Tryd.func15, Tryd.ntmps15
    go_wp2
    go_ret
    exact ⟨rfl, Below.refl _ _⟩
  · by_cases h1 : n < 0
    · obtain ⟨N, rfl⟩ : ∃ N : Nat, n = -(N : Int) := ⟨n.natAbs, by omega⟩
      exact decimal_neg w N (by omega) (by have := h.1; omega)
    · obtain ⟨N, rfl⟩ : ∃ N : Nat, n = (N : Int) := ⟨n.toNat, by omega⟩
      exact decimal_pos w N (by omega) (by have := h.2; omega)
end Go.Proofs.YthoonpjgecempaaDoor.S5
