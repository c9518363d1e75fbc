/-
  The walk of the laws' sanity: the document's examples.
-/
import Derived.Test.YthoonpjgecempaaDoorSSign
import Derived.Test.YthoonpjgecempaaDoorSRead
namespace Go.Proofs.YthoonpjgecempaaDoor.S5
open Go.RowKit GM SH G4
theorem dec_lt (u : Nat) (h : u < 10) : Lib.decDigits u = [UInt8.ofNat (48 + u)] := by rw [Lib.decDigits, dif_pos h]
theorem dec_ge (u : Nat) (h : ¬ u < 10) : Lib.decDigits u = Lib.decDigits (u / 10) ++ [UInt8.ofNat (48 + u % 10)] := by rw [Lib.decDigits, dif_neg h]
theorem itoa_12 : Lib.itoa 12 = [49, 50] := by
  have : Lib.itoa 12 = Lib.decDigits 12 := rfl
  rw [this, dec_ge 12 (by decide), dec_lt _ (by decide)]; rfl
theorem itoa_3 : Lib.itoa 3 = [51] := by
  have : Lib.itoa 3 = Lib.decDigits 3 := rfl
  rw [this, dec_lt _ (by decide)]; rfl
theorem itoa_m3 : Lib.itoa (-3) = [45, 51] := by
  have : Lib.itoa (-3) = 45 :: Lib.decDigits 3 := rfl
  rw [this, dec_lt _ (by decide)]; rfl
theorem txt_a : txt 12 (-3) = ⟨#[49, 50, 46, 45, 51]⟩ := by unfold txt dcm; rw [itoa_12, itoa_m3]; rfl
theorem txt_b : txt 12 3 = ⟨#[49, 50, 46, 51]⟩ := by unfold txt dcm; rw [itoa_12, itoa_3]; rfl
theorem nm_a : nmA ⟨#[49, 50, 46, 51]⟩ = 12 := by decide +kernel
theorem nm_b : nmB ⟨#[49, 50, 46, 51]⟩ = 3 := by decide +kernel
theorem nm_c : nmA ⟨#[48, 49, 50, 46, 51]⟩ = 12 := by decide +kernel
theorem nm_d : nmB ⟨#[48, 49, 50, 46, 51]⟩ = 3 := by decide +kernel
theorem ok_a : rdOk ⟨#[49, 50, 46, 51]⟩ = true := by unfold rdOk; rw [nm_a, nm_b, txt_b]; exact decide_eq_true rfl
theorem ok_c : rdOk ⟨#[48, 49, 50, 46, 51]⟩ = false := by unfold rdOk; rw [nm_c, nm_d, txt_b]; decide
theorem rdv_a : rdv ⟨#[49, 50, 46, 51]⟩ = sgv 12 3 := by unfold rdv; rw [ok_a, if_pos rfl, nm_a, nm_b]
theorem rdv_c : rdv ⟨#[48, 49, 50, 46, 51]⟩ = sgv 0 0 := by unfold rdv; rw [ok_c]; rfl
theorem ex_id (x : Int) (h : 0 ≤ x ∧ x < 1152921504606845789) : ex x = x := by
  unfold ex ga; rw [if_neg (by omega), Int.add_zero, Int.emod_eq_of_lt h.1 h.2]
theorem gp_one (c : Int) (h : 0 ≤ c) : gp 1 c 2305843009213691579 = 1 := by
  unfold gp; rw [if_neg (by omega), Int.one_pow]; rfl
theorem vf_one (t : ByteArray) : vf 1 t 1 0 = true := by
  unfold vf
  rw [gp_one _ (cc_rng 1 1 t).1, mem_1]
  decide
theorem vf_zero (t : ByteArray) (R S : Int) : vf 0 t R S = false := by unfold vf; rw [mem_0]; simp
theorem vf_high (t : ByteArray) (k R : Int) : vf k t R 1152921504606845789 = false := by unfold vf; rfl
/-- what the walk of a law keeps: the tables, the frame, signatures in blocks of its own -/
structure SK (w0 W : World) (l : List (Nat × Int × Int)) : Prop where
  t : TS W
  b : Below w0.heap.size w0 W
  s : ∀ p ∈ l, SM W p.1 p.2.1 p.2.2
theorem SK.next {w0 u v : World} {l : List (Nat × Int × Int)} (h : SK w0 u l) (k : Below u.heap.size u v) : SK w0 v l :=
  ⟨h.t.below k, h.b.trans (k.mono h.b.size), fun p hp => (h.s p hp).next k⟩
theorem SK.get {w0 W : World} {l : List (Nat × Int × Int)} (h : SK w0 W l) (p : Nat) (R S : Int) (hp : (p, R, S) ∈ l) : SM W p R S := h.s _ hp
theorem SK.push {w0 u : World} {l : List (Nat × Int × Int)} (h : SK w0 u l) (R S : Int) :
    SK w0 ((u.alloc (.cells #[.int .i64 0, .int .i64 0] 26)).setRow u.heap.size #[.int .i64 R, .int .i64 S]) ((u.heap.size, R, S) :: l) := by
  have hb : Below u.heap.size u ((u.alloc (.cells #[.int .i64 0, .int .i64 0] 26)).setRow u.heap.size #[.int .i64 R, .int .i64 S]) := Below.setRow' ((Below.refl u.heap.size u).alloc (Nat.le_refl _) _) (Nat.le_refl _) _
  have h2 := h.next hb
  refine ⟨h2.t, h2.b, fun p hp => ?_⟩
  rcases List.mem_cons.1 hp with rfl | hp
  · exact setRow_heap _ _ _ _ _ _ (SM.new u 0 0)
  · exact h2.s p hp
theorem sk_start {w : World} (h : TS w) : SK w w [] := ⟨h, Below.refl _ _, fun p hp => by cases hp⟩
set_option maxRecDepth 100000 in
set_option maxHeartbeats 4000000 in
theorem sanity_any (w : World) (hT : TS w) : Calls Tryd.prog 4 #[] w fun e w' => e = .returned (.bool true) ∧ Below w.heap.size w w' := by
  have HT := Lib.hid (sk_start hT); clear hT
  have C1 := Lib.hid fun W (h : TB W) => Key_any W ⟨#[115]⟩ (by decide) h
  have x0 := nz_rng (sc_rng (ks ⟨#[115]⟩))
  generalize nz (sc (ks ⟨#[115]⟩)) = x at *
  have C2 := fun W (h : TB W) => Sign_any W x ⟨#[116]⟩ (by omega) (by decide) h
  rw [ex_id x (by omega)] at C2
  have C2 := Lib.hid C2
  have n0 := nn_rng x ⟨#[116]⟩
  have p1 := pk_rng (nn x ⟨#[116]⟩)
  have p2 := pk_rng x
  have p3 := sS_rng x (nn x ⟨#[116]⟩) ⟨#[116]⟩
  have e1 := vf_sig x (nn x ⟨#[116]⟩) ⟨#[116]⟩ (by omega) (by omega)
  have V1 := fun W (h : TB W) => Verify_any W (pk x) ⟨#[116]⟩ (pk (nn x ⟨#[116]⟩)) (sS x (nn x ⟨#[116]⟩) ⟨#[116]⟩) (by omega) (by omega) (by omega) (by decide) h
  rw [e1] at V1
  have V1 := Lib.hid V1
  generalize sS x (nn x ⟨#[116]⟩) ⟨#[116]⟩ = v at *
  generalize pk (nn x ⟨#[116]⟩) = r at *
  generalize pk x = y at *
  have V2 := fun W (h : TB W) => Verify_any W 1 ⟨#[116]⟩ 1 0 (by decide) (by decide) (by decide) (by decide) h
  rw [vf_one] at V2
  have V2 := Lib.hid V2
  have V3 := fun W (h : TB W) => Verify_any W 0 ⟨#[116]⟩ 1 0 (by decide) (by decide) (by decide) (by decide) h
  rw [vf_zero] at V3
  have V3 := Lib.hid V3
  have V4 := fun W (h : TB W) => Verify_any W 1 ⟨#[116]⟩ 1 1152921504606845789 (by decide) (by decide) (by decide) (by decide) h
  rw [vf_high] at V4
  have V4 := Lib.hid V4
  have D1 := fun W (h : TS W) => Read_any W ⟨#[49, 50, 46, 51]⟩ (by decide) h
  rw [ok_a, rdv_a] at D1
  have D1 := Lib.hid D1
  have D2 := fun W (h : TS W) => Read_any W ⟨#[48, 49, 50, 46, 51]⟩ (by decide) h
  rw [ok_c, rdv_c] at D2
  have D2 := Lib.hid D2
  have X1 := fun W (h : TS W) => Text_any W 12 (-3) (by decide) (by decide) h
  rw [txt_a] at X1
  have X1 := Lib.hid X1
  clear e1 n0 p1 p2 p3 x0
  go_enter Tryd.func4, Tryd.ntmps4
  go_wp2_with fail
  refine (C1.out _ HT.out.t.tb).mono ?_
  rintro e w1 ⟨rfl, b⟩
  have K1 := Lib.hid (HT.out.next b); clear b HT
  go_wp2_with fail
  refine (C2.out _ K1.out.t.tb).mono ?_
  rintro e w2 ⟨rfl, b⟩
  have K2 := Lib.hid (K1.out.next b); clear b K1
  have z2 := SM.new w2 0 0
  have hiz2 := infoS (r) (v)
  go_upto_region 3 with (refine wpList_store_row rfl 26 (.tmp 3) (.tmp 15) rfl w2.heap.size #[.int .i64 (r), .int .i64 (v)] rfl rfl 26 _ z2 hiz2.out (two_size _ _ _ _) (sg_one _ _) ?_)
  clear z2 hiz2
  have Hv2 := Lib.hid (K2.out.push (r) (v)); clear K2
  try change Code.wp _ _ _ _ ((w2.alloc (.cells #[.int .i64 0, .int .i64 0] 26)).setRow w2.heap.size #[.int .i64 (r), .int .i64 (v)])
  generalize hq : (w2.alloc (.cells #[.int .i64 0, .int .i64 0] 26)).setRow w2.heap.size #[.int .i64 (r), .int .i64 (v)] = v2 at *
  clear hq
  have z3 := SM.new v2 0 0
  have hiz3 := infoS (1) (0)
  go_upto_region 4 with (refine wpList_store_row rfl 26 (.tmp 4) (.tmp 16) rfl v2.heap.size #[.int .i64 (1), .int .i64 (0)] rfl rfl 26 _ z3 hiz3.out (two_size _ _ _ _) (sg_one _ _) ?_)
  clear z3 hiz3
  have Hv3 := Lib.hid (Hv2.out.push (1) (0)); clear Hv2
  try change Code.wp _ _ _ _ ((v2.alloc (.cells #[.int .i64 0, .int .i64 0] 26)).setRow v2.heap.size #[.int .i64 (1), .int .i64 (0)])
  generalize hq : (v2.alloc (.cells #[.int .i64 0, .int .i64 0] 26)).setRow v2.heap.size #[.int .i64 (1), .int .i64 (0)] = v3 at *
  clear hq
  have z4 := SM.new v3 0 0
  have hiz4 := infoS (1) (1152921504606845789)
  go_upto_region 5 with (refine wpList_store_row rfl 26 (.tmp 5) (.tmp 17) rfl v3.heap.size #[.int .i64 (1), .int .i64 (1152921504606845789)] rfl rfl 26 _ z4 hiz4.out (two_size _ _ _ _) (sg_one _ _) ?_)
  clear z4 hiz4
  have Hv4 := Lib.hid (Hv3.out.push (1) (1152921504606845789)); clear Hv3
  try change Code.wp _ _ _ _ ((v3.alloc (.cells #[.int .i64 0, .int .i64 0] 26)).setRow v3.heap.size #[.int .i64 (1), .int .i64 (1152921504606845789)])
  generalize hq : (v3.alloc (.cells #[.int .i64 0, .int .i64 0] 26)).setRow v3.heap.size #[.int .i64 (1), .int .i64 (1152921504606845789)] = v4 at *
  clear hq
  go_wp2_with fail
  refine (D1.out _ Hv4.out.t).mono ?_
  rintro e w5 ⟨rfl, b⟩
  have K5 := Lib.hid (Hv4.out.next b); clear b Hv4
  have z5 := SM.new w5 0 0
  have hiz5 := infoS (12) (3)
  go_upto_region 6 with (refine wpList_store_row rfl 26 (.tmp 6) (.tmp 20) rfl w5.heap.size #[.int .i64 (12), .int .i64 (3)] rfl rfl 26 _ z5 hiz5.out (two_size _ _ _ _) (sg_one _ _) ?_)
  clear z5 hiz5
  have Hv5 := Lib.hid (K5.out.push (12) (3)); clear K5
  try change Code.wp _ _ _ _ ((w5.alloc (.cells #[.int .i64 0, .int .i64 0] 26)).setRow w5.heap.size #[.int .i64 (12), .int .i64 (3)])
  generalize hq : (w5.alloc (.cells #[.int .i64 0, .int .i64 0] 26)).setRow w5.heap.size #[.int .i64 (12), .int .i64 (3)] = v5 at *
  clear hq
  go_wp2_with fail
  refine (D2.out _ Hv5.out.t).mono ?_
  rintro e w6 ⟨rfl, b⟩
  have K6 := Lib.hid (Hv5.out.next b); clear b Hv5
  have z6 := SM.new w6 0 0
  have hiz6 := infoS (0) (0)
  go_upto_region 7 with (refine wpList_store_row rfl 26 (.tmp 8) (.tmp 24) rfl w6.heap.size #[.int .i64 (0), .int .i64 (0)] rfl rfl 26 _ z6 hiz6.out (two_size _ _ _ _) (sg_one _ _) ?_)
  clear z6 hiz6
  have Hv6 := Lib.hid (K6.out.push (0) (0)); clear K6
  try change Code.wp _ _ _ _ ((w6.alloc (.cells #[.int .i64 0, .int .i64 0] 26)).setRow w6.heap.size #[.int .i64 (0), .int .i64 (0)])
  generalize hq : (w6.alloc (.cells #[.int .i64 0, .int .i64 0] 26)).setRow w6.heap.size #[.int .i64 (0), .int .i64 (0)] = v6 at *
  clear hq
  have q := Hv6.out.get w2.heap.size (r) (v) (by simp)
  have hq := infoS (r) (v)
  go_wp2_with (refine wpList_load_row rfl 26 (.tmp 3) rfl (w2.heap.size) rfl 26 #[.int .i64 (r), .int .i64 (v)] (0, 0) _ q Tryd.underlying26 rfl hq.out ?_)
  clear q hq
  refine (V1.out _ Hv6.out.t.tb).mono ?_
  rintro e x1 ⟨rfl, b⟩
  have L1 := Lib.hid (Hv6.out.next b); clear b Hv6
  have q0 := (L1.out.get v2.heap.size (1) (0) (by simp)).c0
  have q1 := (L1.out.get v2.heap.size (1) (0) (by simp)).c1
  go_wp2_with fail
  clear q0 q1
  refine (V2.out _ L1.out.t.tb).mono ?_
  rintro e x2 ⟨rfl, b⟩
  have L2 := Lib.hid (L1.out.next b); clear b L1
  have q0 := (L2.out.get v2.heap.size (1) (0) (by simp)).c0
  have q1 := (L2.out.get v2.heap.size (1) (0) (by simp)).c1
  go_wp2_with fail
  clear q0 q1
  refine (V3.out _ L2.out.t.tb).mono ?_
  rintro e x3 ⟨rfl, b⟩
  have L3 := Lib.hid (L2.out.next b); clear b L2
  have q0 := (L3.out.get v3.heap.size (1) (1152921504606845789) (by simp)).c0
  have q1 := (L3.out.get v3.heap.size (1) (1152921504606845789) (by simp)).c1
  go_wp2_with fail
  clear q0 q1
  refine (V4.out _ L3.out.t.tb).mono ?_
  rintro e x4 ⟨rfl, b⟩
  have L4 := Lib.hid (L3.out.next b); clear b L3
  go_wp2_with fail
  refine (X1.out _ L4.out.t).mono ?_
  rintro e x5 ⟨rfl, b⟩
  have L5 := Lib.hid (L4.out.next b); clear b L4
  have q0 := (L5.out.get w5.heap.size 12 3 (by simp)).c0
  have q1 := (L5.out.get w5.heap.size 12 3 (by simp)).c1
  go_wp2
  go_ret
  exact ⟨rfl, L5.out.b⟩
end Go.Proofs.YthoonpjgecempaaDoor.S5
