/-
  The walk of nat.montgomery: a product divided by a power of 2 to the power of 64, modulo an odd number.
-/
import Derived.Test.YtkpkifhjedlieaaDoorMul
import Derived.Test.YtkpkifhjedlieaaDoorWords
import Derived.Deep.RegionWith
import Derived.Deep.RegionLaw
namespace Go.Proofs.YtkpkifhjedlieaaDoor
open Go.RowKit NM
/-- after i rounds -/
structure MontI (n b : Nat) (w : World) (X Y M : List Nat) (k : Nat) (Z : List Nat) (wr : World) : Prop where
  at_ : At (2*n+1) b 0 w Z wr
  eqn : ∃ U, U < B64^k ∧ wv Z = wv X * wv (Y.take k) + wv M * U
  dvd : wv Z % B64^k = 0
theorem mont_low (z f m0 : Nat) (hf : (m0 * f + 1) % B64 = 0) : (z + (z * f % B64) * m0) % B64 = 0 := by
  have h1 : (z + (z * f % B64) * m0) % B64 = (z + (z * f) * m0) % B64 := by
    rw [Nat.add_mod, Nat.mul_mod, Nat.mod_mod, ← Nat.mul_mod, ← Nat.add_mod]
  rw [h1, show z + z * f * m0 = z * (m0 * f + 1) by rw [Nat.mul_add, Nat.mul_one, Nat.mul_assoc, Nat.mul_comm f]; omega, Nat.mul_mod, hf, Nat.mul_zero, Nat.zero_mod]
theorem wv_mod (M : List Nat) (hM : Wd M) : wv M % B64 = gd M 0 := by
  have := wv_digit M hM 0
  rw [Nat.pow_zero, Nat.div_one] at this
  exact this.symm
theorem mont_bound (n k V x m yk U : Nat) (hx : x < B64^n) (hm : m < B64^n) (hy : yk < B64^(k+1)) (hU : U < B64^(k+1)) (hk : k < n) (hV : V = x * yk + m * U) : V < B64^(2*n+1) := by
  have h1 : x * yk ≤ B64^n * B64^(k+1) := Nat.mul_le_mul (by omega) (by omega)
  have h2 : m * U ≤ B64^n * B64^(k+1) := Nat.mul_le_mul (by omega) (by omega)
  rw [← Nat.pow_add] at h1 h2
  have h3 : B64^(n+(k+1)) ≤ B64^(2*n) := Nat.pow_le_pow_right B64_pos (by omega)
  have h4 : B64^(2*n+1) = B64^(2*n) * B64 := Nat.pow_succ ..
  have h5 : B64^(2*n) * 3 ≤ B64^(2*n) * B64 := Nat.mul_le_mul_left _ (by decide)
  have h6 : 0 < B64^(2*n) := Nat.pow_pos B64_pos
  omega
theorem div_of_dvd {V k : Nat} (h : V % B64^k = 0) : V = B64^k * (V / B64^k) := by
  have := Nat.div_add_mod V (B64^k); omega
theorem MontI.first {n b : Nat} {w wr w' : World} {X Y M Z Z' : List Nat} {k : Nat} (h : MontI n b w X Y M k Z wr) (hk : k < n) (h' : At (Z.drop k).length b k wr Z' w') (hv : wv Z' = wv (Z.drop k) + gd Y k * wv X) (hy : Y.length = n) :
    At (2*n+1) b 0 w (Z.take k ++ Z') w' ∧ ∃ U, U < B64^k ∧ wv (Z.take k ++ Z') = wv X * wv (Y.take (k+1)) + wv M * U ∧ wv (Z.take k ++ Z') % B64^k = 0 := by
  have hl := h.at_.len
  refine ⟨h.at_.part (by omega) h', ?_⟩
  obtain ⟨U, hU, hE⟩ := h.eqn
  refine ⟨U, hU, ?_, ?_⟩
  · rw [wv_append, List.length_take, Nat.min_eq_left (by omega), hv, Nat.mul_add, wv_take_succ Y k (by omega), Nat.mul_add]
    have s := wv_split Z k (by omega)
    have e : B64^k * (gd Y k * wv X) = wv X * (B64^k * Y.getD k 0) := by
      show B64^k * (Y.getD k 0 * wv X) = _
      rw [← Nat.mul_assoc, Nat.mul_comm]
    rw [e]; omega
  · have s := wv_split Z k (by omega)
    have h1 := wv_lt (Z.take k) (Wd_take h.at_.wd k)
    rw [List.length_take, Nat.min_eq_left (by omega)] at h1
    have h0 : wv (Z.take k) = 0 := by
      have := h.dvd
      rw [s, Nat.add_mul_mod_self_left, Nat.mod_eq_of_lt h1] at this; exact this
    rw [wv_append, List.length_take, Nat.min_eq_left (by omega), h0, Nat.zero_add, Nat.mul_mod_right]
theorem MontI.second {n b : Nat} {w wr w' : World} {X Y M Z Z' : List Nat} {k U f : Nat} (h : At (2*n+1) b 0 w Z wr) (hU : U < B64^k) (hE : wv Z = wv X * wv (Y.take (k+1)) + wv M * U) (hdv : wv Z % B64^k = 0)
    (hk : k < n) (h' : At (Z.drop k).length b k wr Z' w') (hv : wv Z' = wv (Z.drop k) + (gd Z k * f % B64) * wv M) (hM : Wd M) (hf : (gd M 0 * f + 1) % B64 = 0) :
    MontI n b w X Y M (k+1) (Z.take k ++ Z') w' := by
  have hl := h.len
  have s := wv_split Z k (by omega)
  have h1 := wv_lt (Z.take k) (Wd_take h.wd k)
  rw [List.length_take, Nat.min_eq_left (by omega)] at h1
  have h0 : wv (Z.take k) = 0 := by
    rw [s, Nat.add_mul_mod_self_left, Nat.mod_eq_of_lt h1] at hdv; exact hdv
  have ev : wv (Z.take k ++ Z') = B64^k * wv Z' := by rw [wv_append, List.length_take, Nat.min_eq_left (by omega), h0, Nat.zero_add]
  refine ⟨h.part (by omega) h', ⟨U + B64^k * (gd Z k * f % B64), ?_, ?_⟩, ?_⟩
  · have h2 : gd Z k * f % B64 + 1 ≤ B64 := Nat.mod_lt _ B64_pos
    have h3 : B64^k * (gd Z k * f % B64 + 1) ≤ B64^k * B64 := Nat.mul_le_mul_left _ h2
    rw [Nat.pow_succ]; rw [Nat.mul_add] at h3; omega
  · rw [ev, hv, Nat.mul_add, Nat.mul_add, ← Nat.add_assoc, ← hE, Nat.mul_left_comm (wv M), Nat.mul_comm (wv M)]
    omega
  · rw [ev, Nat.pow_succ, Nat.mul_mod_mul_left]
    have : wv Z' % B64 = 0 := by
      rw [hv]
      have e1 : wv (Z.drop k) % B64 = gd Z k := by
        rw [wv_mod _ (Wd_drop h.wd k)]; unfold gd; simp [List.getElem?_drop]
      have e2 := wv_mod M hM
      rw [Nat.add_mod, e1, Nat.mul_mod, e2, Nat.mod_mod]
      have := mont_low (gd Z k) f (gd M 0) hf
      have hz : gd Z k % B64 = gd Z k := Nat.mod_eq_of_lt (gd_lt h.wd k)
      rw [Nat.add_mod, Nat.mul_mod, Nat.mod_mod, hz] at this
      have hm0 : gd M 0 % B64 = gd M 0 := Nat.mod_eq_of_lt (gd_lt hM 0)
      rw [hm0] at this
      exact this
    rw [this, Nat.mul_zero]
def MontQ (X Y M : List Nat) (w : World) (e : Ending) (w' : World) : Prop :=
  ∃ Z b o, e = .returned (.slice (some ⟨b, o, none⟩) M.length (M.length + 1)) ∧ b < w'.heap.size ∧ Row w' b o Z ∧ Wd Z ∧ Z.length = M.length ∧ wv Z < wv M ∧ wv Z * B64^M.length % wv M = wv X * wv Y % wv M ∧ Below w.heap.size w w'
theorem mont_end (X Y M Z : List Nat) (n U : Nat) (hx : wv X < wv M) (hy : wv Y < B64^n) (hM : Wd M) (hn : n = M.length) (hm0 : 0 < wv M) (hZ : Z.length = 2*n+1) (hW : Wd Z) (hU : U < B64^n) (hE : wv Z = wv X * wv Y + wv M * U) (hd : wv Z % B64^n = 0) :
    wv (Z.drop n) * B64^n = wv X * wv Y + wv M * U ∧ wv (Z.drop n) < 2 * wv M := by
  have e := div_of_dvd hd
  have ed := drop_div Z hW n
  have h1 : wv (Z.drop n) * B64^n = wv X * wv Y + wv M * U := by rw [ed, Nat.mul_comm, ← e, hE]
  refine ⟨h1, ?_⟩
  have hml : wv M < B64^n := by rw [hn]; exact wv_lt M hM
  apply Nat.lt_of_mul_lt_mul_right (a := B64^n)
  rw [h1]
  have h2 : wv X * wv Y < wv M * B64^n := by
    have : wv X * wv Y ≤ wv M * wv Y := Nat.mul_le_mul_right _ (by omega)
    have : wv M * wv Y < wv M * B64^n := Nat.mul_lt_mul_of_pos_left (by omega) hm0
    omega
  have h3 : wv M * U < wv M * B64^n := Nat.mul_lt_mul_of_pos_left hU hm0
  rw [Nat.mul_assoc]; omega
/-- the highest word is 0 -/
theorem top_zero (T : List Nat) (k : Nat) (hT : Wd T) (hl : T.length = k + 1) (h : wv T < B64^k) : wv (T.take k) = wv T ∧ gd T k = 0 := by
  have s := wv_split T k (by omega)
  rw [wv_drop_cons T k (by omega), List.drop_eq_nil_of_le (by omega)] at s
  simp only [wv, Nat.mul_zero, Nat.add_zero] at s
  have h0 : T.getD k 0 = 0 := by
    apply Classical.byContradiction; intro hne
    have : B64^k * 1 ≤ B64^k * T.getD k 0 := Nat.mul_le_mul_left _ (by omega)
    omega
  rw [h0] at s
  exact ⟨by omega, h0⟩
set_option maxRecDepth 100000 in
set_option maxHeartbeats 4000000 in
theorem montgomery_any (w : World) (b1 o1 c1 b2 o2 c2 bm om cm f n : Nat) (X Y M : List Nat) (hR : Row w b1 o1 X) (hS : Row w b2 o2 Y) (hT : Row w bm om M) (hX : Wd X) (hY : Wd Y) (hM : Wd M) (tM : Tr M)
    (hb1 : b1 < w.heap.size) (hb2 : b2 < w.heap.size) (hbm : bm < w.heap.size) (hn : n = M.length) (lX : X.length = n) (lY : Y.length = n) (hnb : n ≤ 536870914) (hc1 : n ≤ c1) (hc2 : n ≤ c2) (hcm : n ≤ cm)
    (hx : wv X < wv M) (hf : (gd M 0 * f + 1) % B64 = 0) (hf64 : f < 18446744073709551616) :
    Calls Tryd.prog 59 #[.slice (some ⟨b1, o1, none⟩) n c1, .slice (some ⟨b2, o2, none⟩) n c2, .slice (some ⟨bm, om, none⟩) n cm, .int .u64 (f : Nat)] w (MontQ X Y M w) := by
  obtain ⟨n2, hn2⟩ : ∃ n2, n2 = 2 * n + 1 := ⟨_, rfl⟩
  have e0 : (2 * (n : Int) + 1) = (n2 : Int) := by omega
  have hn2b : n2 ≤ 1073741829 := by omega
  have hnn2 : n < n2 := by omega
  have hmk := fun u => make_words n2 (by omega) u
  have hA0 := At.made n2 56 w
  have hR1 := hR.alloc hb1 (.cells (madeCells #[.int .u64 0] n2) 56)
  have hS1 := hS.alloc hb2 (.cells (madeCells #[.int .u64 0] n2) 56)
  have hT1 := hT.alloc hbm (.cells (madeCells #[.int .u64 0] n2) 56)
  have hB1 := (Below.refl w.heap.size w).alloc (Nat.le_refl _) (.cells (madeCells #[.int .u64 0] n2) 56)
  have hz : (w.alloc (.cells (madeCells #[.int .u64 0] n2) 56)).heap.size = w.heap.size + 1 := by simp
  have HN := Lib.hid (And.intro hn (And.intro lX (And.intro lY hn2))); clear hn lX lY hn2 hR hS hT
  have HF := Lib.hid hf; clear hf
  go_enter Tryd.func59, Tryd.ntmps59
  go_wp2
  generalize w.alloc (.cells (madeCells #[.int .u64 0] n2) 56) = w1 at *
  clear hmk e0
  have HZ := Lib.hid hz; clear hz
  go_loopw [21] (fun i wr => ∃ (k : Nat) (Z : List Nat), k ≤ n ∧ i = .int .i64 (k : Nat) ∧ MontI n w.heap.size w1 X Y M k Z wr) (fun i _ => n - (intOf i).toNat)
  case atStart => exact ⟨0, _, Nat.zero_le _, rfl, by rw [← HN.out.2.2.2]; exact hA0, ⟨0, by simp, by simp [wv, wv_replicate]⟩, by simp [Nat.mod_one]⟩
  case round =>
    obtain ⟨k, Z, hk, rfl, hI⟩ := hrel
    clear hA0
    have hA := hI.at_
    obtain ⟨hn, lX, lY, hn2⟩ := HN.out
    by_cases hlt : k < n
    · have hyc := (hA.only.row hS1 (by omega) (by rw [HZ.out]; omega)).cell k (by omega)
      have hs1 := hA.only.size
      have hcall := addProduct_any wr w.heap.size k (n2 - k) b1 o1 c1 (gd Y k) (Z.drop k) X (by have := hA.row.drop k; rwa [Nat.zero_add] at this) (hA.only.row hR1 (by omega) (by rw [HZ.out]; omega)) (Wd_drop hA.wd k) hX (by omega) (by rw [HZ.out] at hs1; omega)
        (gd_lt hY k) (by rw [List.length_drop, hA.len]; omega) (by rw [List.length_drop, hA.len]; omega) (by omega) (by rw [List.length_drop, hA.len]; omega) ?room1
      case room1 =>
        obtain ⟨U, hU, hE⟩ := hI.eqn
        have hxl := wv_lt X hX
        have hml := wv_lt M hM
        have hyl := wv_lt (Y.take (k+1)) (Wd_take hY _)
        rw [List.length_take, Nat.min_eq_left (by omega)] at hyl
        have hp : B64^k ≤ B64^(k+1) := Nat.pow_le_pow_right B64_pos (by omega)
        have hb := mont_bound n k (wv X * wv (Y.take (k+1)) + wv M * U) (wv X) (wv M) (wv (Y.take (k+1))) U (by rw [← lX]; exact hxl) (by rw [hn]; exact hml) hyl (by omega) hlt rfl
        rw [List.length_drop, hA.len]
        apply Nat.lt_of_mul_lt_mul_left (a := B64^k)
        rw [← Nat.pow_add, show k + (2*n+1-k) = 2*n+1 by omega]
        refine Nat.lt_of_le_of_lt ?_ hb
        rw [drop_div Z hA.wd, Nat.mul_add, ← div_of_dvd hI.dvd, hE, wv_take_succ Y k (by omega), Nat.mul_add]
        have e : B64^k * (gd Y k * wv X) = wv X * (B64^k * Y.getD k 0) := by
          show B64^k * (Y.getD k 0 * wv X) = _
          rw [← Nat.mul_assoc, Nat.mul_comm]
        omega
      have hcall2 : Calls Tryd.prog 48 #[.slice (some ⟨w.heap.size, k, none⟩) (n2 - k) (n2 - k), .slice (some ⟨b1, o1, none⟩) n c1, .int .u64 (gd Y k : Nat)] wr (ProdQ (Z.drop k) X (gd Y k) w.heap.size k wr) := by
        rw [List.length_drop, hA.len, lX, ← hn2] at hcall; exact hcall
      have HC := Lib.hid hcall2; clear hcall hcall2
      have hkn2 : k < n2 := by omega
      have hHN := Lib.hid (And.intro hn (And.intro lX (And.intro lY hn2))); clear hn lX lY hn2
      have HR := Lib.hid hR1; clear hR1
      have HS := Lib.hid hS1; clear hS1
      have HT := Lib.hid hT1; clear hT1
      go_wp2_with (refine HC.out.mono ?_; rintro e w2 ⟨Z', hA', hZ', rfl⟩)
      obtain ⟨hn, lX, lY, hn2⟩ := hHN.out
      obtain ⟨A2, U, hU, hE, hdv⟩ := hI.first hlt hA' hZ' lY
      generalize hZ2 : Z.take k ++ Z' = Z2 at *
      have hs2 := A2.only.size
      have hx2 := A2.row.cell k (by rw [A2.len]; omega)
      rw [Nat.zero_add] at hx2
      obtain ⟨q, hq⟩ : ∃ q, q = gd Z2 k * f % B64 := ⟨_, rfl⟩
      have hqlt : q < 18446744073709551616 := by rw [hq]; exact Nat.mod_lt _ B64_pos
      have eq1 : IntKind.u64.wrap (((gd Z2 k : Nat) : Int) * (f : Int)) = (q : Int) := by
        rw [show (((gd Z2 k : Nat) : Int) * (f : Int)) = ((gd Z2 k * f : Nat) : Int) by rw [Int.natCast_mul], IntKind.wrap_u64, hq]
        show _ = ((gd Z2 k * f % 18446744073709551616 : Nat) : Int)
        omega
      have hcall := addProduct_any w2.drew w.heap.size k (n2 - k) bm om cm q (Z2.drop k) M (by have := A2.row.drop k; rw [Nat.zero_add] at this; exact this.drew) (A2.only.row HT.out (by omega) (by rw [HZ.out]; omega)).drew (Wd_drop A2.wd k) hM (by omega) (by rw [HZ.out] at hs2; show bm < w2.heap.size; omega)
        hqlt (by rw [List.length_drop, A2.len]; omega) (by rw [List.length_drop, A2.len]; omega) (by omega) (by rw [List.length_drop, A2.len]; omega) ?room2
      case room2 =>
        have hxl := wv_lt X hX
        have hml := wv_lt M hM
        have hyl := wv_lt (Y.take (k+1)) (Wd_take hY _)
        rw [List.length_take, Nat.min_eq_left (by omega)] at hyl
        have h3 : B64^k * (q + 1) ≤ B64^k * B64 := Nat.mul_le_mul_left _ hqlt
        rw [show B64^k * B64 = B64^(k+1) from rfl, Nat.mul_add] at h3
        have hb := mont_bound n k (wv X * wv (Y.take (k+1)) + wv M * (U + B64^k * q)) (wv X) (wv M) (wv (Y.take (k+1))) (U + B64^k * q) (by rw [← lX]; exact hxl) (by rw [hn]; exact hml) hyl (by omega) hlt rfl
        rw [List.length_drop, A2.len]
        apply Nat.lt_of_mul_lt_mul_left (a := B64^k)
        rw [← Nat.pow_add, show k + (2*n+1-k) = 2*n+1 by omega]
        refine Nat.lt_of_le_of_lt ?_ hb
        rw [drop_div Z2 A2.wd, Nat.mul_add, ← div_of_dvd hdv, hE, Nat.mul_add, Nat.mul_left_comm (wv M), Nat.mul_comm (wv M) q]
        omega
      have hcall2 : Calls Tryd.prog 48 #[.slice (some ⟨w.heap.size, k, none⟩) (n2 - k) (n2 - k), .slice (some ⟨bm, om, none⟩) n cm, .int .u64 (q : Nat)] w2.drew (ProdQ (Z2.drop k) M q w.heap.size k w2.drew) := by
        rw [List.length_drop, A2.len, ← hn, ← hn2] at hcall; exact hcall
      have HC2 := Lib.hid hcall2; clear hcall hcall2
      have HE2 := Lib.hid (And.intro hE (And.intro hdv (And.intro hq hZ2))); clear hE hdv hq hZ2 hn lX lY hn2
      go_region_with (go_at_call 48; refine HC2.out.mono ?_; rintro e w3 ⟨Z3, hA3, hZ3, rfl⟩)
      all_goals go_wp2
      all_goals go_roundw
      all_goals first
        | exact ⟨k + 1, _, hlt, by go_num, MontI.second A2.drew hU HE2.out.1 HE2.out.2.1 hlt hA3 (by rw [← HE2.out.2.2.1]; exact hZ3) hM HF.out⟩
        | (simp [intOf]; try omega)
    · obtain rfl : k = n := by omega
      obtain ⟨U, hU, hE⟩ := hI.eqn
      rw [List.take_of_length_le (by omega)] at hE
      have hm0 : 0 < wv M := by omega
      obtain ⟨g1, g2⟩ := mont_end X Y M Z k U hx (by have h := wv_lt Y hY; rw [lY] at h; exact h) hM hn hm0 hA.len hA.wd hU hE hI.dvd
      have rT : Row wr w.heap.size k (Z.drop k) := by have := hA.row.drop k; rwa [Nat.zero_add] at this
      have lT : (Z.drop k).length = k + 1 := by rw [List.length_drop, hA.len]; omega
      obtain ⟨T, hTd⟩ : ∃ T, T = Z.drop k := ⟨_, rfl⟩
      rw [← hTd] at g1 g2 rT lT
      have wT : Wd T := by rw [hTd]; exact Wd_drop hA.wd k
      have hz2 : w.heap.size < wr.heap.size := by have := hA.only.size; have := HZ.out; omega
      have rM := hA.only.row hT1 (by omega) (by rw [HZ.out]; omega)
      have hbr : Below w.heap.size w wr := hB1.trans (hA.only.below (Nat.le_refl _) (by have := HZ.out; omega))
      have ht := trim_any wr w.heap.size k (k+1) T rT (by omega) (by omega)
      rw [lT] at ht
      have HT := Lib.hid ht; clear ht
      have en : n2 - k = k + 1 := by omega
      have HA := Lib.hid hA
      have HQ := Lib.hid (And.intro hn (And.intro lX (And.intro lY (And.intro hn2 (And.intro hE (And.intro g1 (And.intro hTd lT))))))); clear hn lX lY hn2 hE g1 hTd lT hA hI
      have HR := Lib.hid hR1; clear hR1
      have HS := Lib.hid hS1; clear hS1
      go_wp2_with fail
      refine HT.out.mono ?_
      rintro e w2 ⟨j, hj, hw, htr, rfl, rfl⟩
      have ljT : (T.take j).length = j := by rw [List.length_take]; omega
      have hj1 : j ≤ k + 1 := by have := HQ.out.2.2.2.2.2.2.2; omega
      have hcmp := compare_any wr w.heap.size k (k+1) bm om cm (T.take j) M (rT.take j) rM (Wd_take wT j) hM htr tM (by omega) (by have := HQ.out.1; omega) (by omega) (by have := HQ.out.1; omega)
      rw [ljT, ← HQ.out.1] at hcmp
      have HCM := Lib.hid hcmp; clear hcmp
      have HW := Lib.hid hw; have HL := Lib.hid ljT; clear hw ljT
      go_wp2_with fail
      refine HCM.out.mono ?_
      rintro e w3 ⟨he, hq⟩
      rw [HW.out] at he
      subst he
      have rT3 := hq.row rT
      have rM3 := hq.row rM
      have hb3 := hq.below (w.heap.size + 1)
      have hs3 : w.heap.size < w3.heap.size := Nat.lt_of_lt_of_le hz2 hb3.size
      have lT := HQ.out.2.2.2.2.2.2.2
      have hk1 := HQ.out.1
      have hTk : T.length = k + 1 := lT
      have hmk1 : wv M < B64^k := by rw [hk1]; exact wv_lt M hM
      by_cases hlt2 : wv T < wv M
      · rw [cmpv_lt hlt2]
        have HK := Lib.hid (And.intro lT (And.intro hk1 (And.intro hTk hmk1))); clear lT hk1 hTk hmk1
        go_wp2
        go_ret
        obtain ⟨lT, hk1, hTk, hmk1⟩ := HK.out
        obtain ⟨v1, v2⟩ := top_zero T k wT hTk (by omega)
        refine ⟨T.take k, w.heap.size, k, by rw [← hk1]; rfl, hs3, rT3.take k, Wd_take wT k, by rw [List.length_take, ← hk1]; omega, by rw [v1]; exact hlt2, ?_, hbr.trans (hq.below _)⟩
        rw [v1, ← hk1, HQ.out.2.2.2.2.2.1, Nat.add_mul_mod_self_left]
      · have hge : (decide (0 ≤ cmpv (wv T) (wv M))) = true := by unfold cmpv; rw [if_neg hlt2]; split <;> simp
        have hsub := subtract_any w3 w.heap.size k (k+1) bm om cm T M rT3 rM3 wT hM (by omega) (by omega) (by omega) (by omega) (by omega) (by omega) (by omega)
        rw [lT, ← hk1] at hsub
        have HS2 := Lib.hid hsub; clear hsub
        have HK := Lib.hid (And.intro lT (And.intro hk1 (And.intro hTk hmk1))); clear lT hk1 hTk hmk1
        go_wp2_with fail
        refine HS2.out.mono ?_
        rintro e w4 ⟨S, aS, vS, rfl⟩
        have VS := Lib.hid vS; clear vS
        have AS := Lib.hid aS; clear aS
        go_wp2
        go_ret
        obtain ⟨lT, hk1, hTk, hmk1⟩ := HK.out
        have aS := AS.out
        have vS := VS.out
        have lS : S.length = k + 1 := by rw [aS.len, hTk]
        obtain ⟨v1, v2⟩ := top_zero S k aS.wd lS (by omega)
        refine ⟨S.take k, w.heap.size, k, by rw [← hk1]; rfl, Nat.lt_of_lt_of_le hs3 aS.only.size, aS.row.take k, Wd_take aS.wd k, by rw [List.length_take, ← hk1]; omega, by rw [v1]; omega, ?_, (hbr.trans (hq.below _)).trans (aS.only.below (Nat.le_refl _) (by omega))⟩
        rw [v1, ← hk1]
        have e1 : wv T * B64^k = wv S * B64^k + wv M * B64^k := by rw [← vS, Nat.add_mul]
        have e2 := HQ.out.2.2.2.2.2.1
        have e3 : (wv S * B64^k + wv M * B64^k) % wv M = wv S * B64^k % wv M := Nat.add_mul_mod_self_left _ _ _
        rw [← e3, ← e1, e2, Nat.add_mul_mod_self_left]
end Go.Proofs.YtkpkifhjedlieaaDoor
