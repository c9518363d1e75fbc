/-
  The walk of nat.divideWord: a number is divided by a word, in place.
-/
import Derived.Test.YtkpkifhjedlieaaDoorMul
import Derived.Test.YtkpkifhjedlieaaDoorDiv
namespace Go.Proofs.YtkpkifhjedlieaaDoor
open Go.RowKit NM
def dq (hi lo y : Nat) : Nat := (hi * B64 + lo) / y
def dr (hi lo y : Nat) : Nat := (hi * B64 + lo) % y
theorem dq_lt {hi lo y : Nat} (h : hi < y) (hl : lo < B64) : dq hi lo y < B64 := by
  unfold dq
  apply (Nat.div_lt_iff_lt_mul (by omega)).2
  have h1 : (hi + 1) * B64 ≤ y * B64 := Nat.mul_le_mul_right _ h
  rw [Nat.add_mul] at h1
  rw [Nat.mul_comm B64]; omega
theorem dr_lt {hi lo y : Nat} (h : hi < y) : dr hi lo y < y := Nat.mod_lt _ (by omega)
theorem Div64_q (hi lo y : Nat) (hlo : lo < 18446744073709551616) (hhi : hi < y) (hy64 : y < 18446744073709551616) (w : World) :
    Calls Tryd.prog 64 #[.int .u64 hi, .int .u64 lo, .int .u64 y] w fun e w' => e = .returned (.tuple #[.int .u64 (dq hi lo y : Nat), .int .u64 (dr hi lo y : Nat)]) ∧ Quiet w w' :=
  (Div64_any hi lo y hlo hhi hy64 w).mono fun _ _ ⟨h1, m, h2⟩ => ⟨h1, h2 ▸ (Quiet.refl _).drewN m⟩
theorem Div64_d (hi lo y : Nat) (hlo : lo < 18446744073709551616) (hhi : hi < y) (hy64 : y < 18446744073709551616) (w : World) :
    Calls Tryd.prog 64 #[.int .u64 hi, .int .u64 lo, .int .u64 y] w fun e w' => e = .returned (.tuple #[.int .u64 (dq hi lo y : Nat), .int .u64 (dr hi lo y : Nat)]) ∧ ∃ m, w' = w.drewN m :=
  Div64_any hi lo y hlo hhi hy64 w
theorem dw_step (X Z : List Nat) (m left y : Nat) (hl : Z.length = X.length) (hm : m < X.length)
    (hv : y * wv (Z.drop (m+1)) + left = wv (X.drop (m+1))) :
    y * wv ((Z.set m (dq left (gd X m) y)).drop m) + dr left (gd X m) y = wv (X.drop m) := by
  rw [wv_drop_cons X m hm, wv_drop_cons _ m (by rw [List.length_set, hl]; exact hm), ← hv]
  have e1 : (Z.set m (dq left (gd X m) y)).getD m 0 = dq left (gd X m) y := gd_set_same _ _ _ (by omega)
  have e2 : (Z.set m (dq left (gd X m) y)).drop (m+1) = Z.drop (m+1) := by rw [List.drop_set_of_lt (by omega)]
  rw [e1, e2]
  have d := Nat.div_add_mod (left * B64 + gd X m) y
  unfold dq dr gd at *
  rw [Nat.mul_add, Nat.mul_add, Nat.mul_left_comm y B64, Nat.mul_comm left] at *
  omega
def DWQ (X : List Nat) (y b o cap : Nat) (w : World) (e : Ending) (w' : World) : Prop :=
  ∃ (Z : List Nat) (k : Nat), At X.length b o w Z w' ∧ k ≤ X.length ∧ Tr (Z.take k) ∧ wv (Z.take k) = wv X / y ∧ e = .returned (.tuple #[.slice (some ⟨b, o, none⟩) k cap, .int .u64 (wv X % y : Nat)])
theorem At.quiet {n b o : Nat} {w wr w' : World} {Z : List Nat} (h : At n b o w Z wr) (q : Quiet wr w') : At n b o w Z w' := ⟨h.len, h.wd, q.row h.row, h.only.trans (q.only _ _ _)⟩
set_option maxHeartbeats 1000000 in
theorem divideWord_any (w : World) (b o cap y : Nat) (X : List Nat) (hR : Row w b o X) (hX : Wd X) (hn : X.length ≤ 9223372036854775807) (hc : X.length ≤ cap) (hy0 : 0 < y) (hy : y < 18446744073709551616) :
    Calls Tryd.prog 41 #[.slice (some ⟨b, o, none⟩) X.length cap, .int .u64 (y : Nat)] w (DWQ X y b o cap w) := by
  obtain ⟨n, hXn⟩ : ∃ n, n = X.length := ⟨_, rfl⟩
  have hA0 := At.start hX hR
  rw [← hXn] at hn hc hA0
  rw [← hXn]
  have HX := Lib.hid hXn; clear hXn
  go_enter Tryd.func41, Tryd.ntmps41
  go_wp2
  go_loopw [6, 7] (fun l i wr => ∃ (k left : Nat) (Z : List Nat), k ≤ n ∧ left < y ∧ i = .int .i64 ((k : Int) - 1) ∧ l = .int .u64 (left : Nat) ∧ At n b o w Z wr ∧ Hid (y * wv (Z.drop k) + left = wv (X.drop k)) ∧ Hid (∀ j, j < k → gd Z j = gd X j)) (fun _ i _ => (intOf i + 1).toNat)
  case atStart => exact ⟨n, 0, X, Nat.le_refl _, hy0, rfl, rfl, hA0, by
    show _ = _
    rw [List.drop_eq_nil_of_le (by rw [← HX.out]; exact Nat.le_refl _)]; rfl, fun _ _ => rfl⟩
  case round =>
    obtain ⟨k, left, Z, hk, hleft, rfl, rfl, hA, hv, hg⟩ := hrel
    clear hA0 hR
    by_cases h0 : k = 0
    · subst h0
      have ht := trim_any wr b o cap Z hA.row (by rw [hA.len]; exact hn) (by rw [hA.len]; exact hc)
      rw [hA.len] at ht
      have HT := Lib.hid ht; clear ht
      go_wp2_with (refine HT.out.mono ?_; rintro e w' ⟨j, hj, hw, htr, rfl, rfl⟩)
      go_ret2
      have hv' := hv.out
      simp only [List.drop_zero] at hv'
      have q1 : wv X / y = wv Z := by rw [← hv', Nat.mul_add_div hy0, Nat.div_eq_of_lt hleft, Nat.add_zero]
      have q2 : wv X % y = left := by rw [← hv', Nat.mul_add_mod, Nat.mod_eq_of_lt hleft]
      refine ⟨Z, j, by rw [← HX.out]; exact hA, by rw [← HX.out, ← hA.len]; exact hj, htr, by rw [hw, q1], by rw [q2]; rfl⟩
    · obtain ⟨m, rfl⟩ : ∃ m, k = m + 1 := ⟨k - 1, by omega⟩
      rw [show (((m + 1 : Nat) : Int) - 1) = (m : Int) by omega]
      have hx := hA.row.cell m (by rw [hA.len]; omega)
      rw [hg.out m (by omega)] at hx
      have hdv := Div64_q left (gd X m) y (gd_lt hX m) hleft hy wr
      have HDV := Lib.hid hdv; clear hdv
      go_wp2_with (refine HDV.out.mono ?_; rintro e w1 ⟨rfl, hq⟩; have hA1 := hA.quiet hq; have hf1 := hA1.row.free m (by rw [hA1.len]; omega); have hx1 := hA1.row.cell m (by rw [hA1.len]; omega))
      go_roundw
      case rel =>
        have hA1 := hA.quiet ‹Quiet wr _›
        refine ⟨m, dr left (gd X m) y, Z.set m (dq left (gd X m) y), by omega, dr_lt hleft, by go_num, rfl, hA1.set m _ (by omega) (dq_lt hleft (gd_lt hX m)), ?_, ?_⟩
        · show _ = _
          exact dw_step X Z m left y (by rw [hA.len, HX.out]) (by rw [← HX.out]; omega) hv.out
        · intro j hj
          rw [gd_set_other _ _ _ _ (by omega)]; exact hg.out j (by omega)
      case measure => (simp [intOf]; try omega)
end Go.Proofs.YtkpkifhjedlieaaDoor
