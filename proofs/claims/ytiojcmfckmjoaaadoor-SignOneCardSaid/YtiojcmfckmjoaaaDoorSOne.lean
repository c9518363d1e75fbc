/-
  The walk of the law SignOne.
-/
import Derived.Test.YtiojcmfckmjoaaaDoorSVerifies
import Derived.Test.YtiojcmfckmjoaaaDoorGRefA
namespace Go.Proofs.YtiojcmfckmjoaaaDoor.S5
open Go.RowKit GM SH G4
/-- at most one S is accepted -/
theorem vf_only (k : Int) (t : ByteArray) (R S T : Int) (h : vf k t R S = true) (hT : 0 ≤ T ∧ T < 1152921504606845789) (hne : T ≠ S) : vf k t R T = false := by
  unfold vf at h ⊢
  simp only [Bool.and_eq_true, Bool.not_eq_true', decide_eq_false_iff_not, beq_iff_eq] at h
  obtain ⟨⟨⟨⟨h1, h2⟩, _⟩, _⟩, h5⟩ := h
  have hp : (gp 4 T 2305843009213691579 == gm R (gp k (cc R k t) 2305843009213691579) 2305843009213691579) = false := by
    rw [← h5]
    refine beq_eq_false_iff_ne.2 fun e => hne ?_
    obtain ⟨a, rfl⟩ : ∃ v : Nat, T = v := ⟨T.toNat, by omega⟩
    obtain ⟨b, rfl⟩ : ∃ v : Nat, S = v := ⟨S.toNat, by omega⟩
    rw [gpP, gpP] at e
    have hq : gQ = 1152921504606845789 := rfl
    have := pow_inj mem_four (by decide) a b (by omega) (by omega) e
    omega
  rw [hp, Bool.and_false]
theorem SM.set1 {w : World} {b : Nat} {R S : Int} (h : SM w b R S) (z : Int) : SM (w.setCell ⟨b, 1, none⟩ (.int .i64 z)) b R z := by
  unfold SM; rw [heap_setCell_same w b 1 _ _ _ h]; rfl
theorem SM.other {w : World} {b c : Nat} {R S : Int} (h : SM w b R S) (hc : b ≠ c) (j : Nat) (v : Value) : SM (w.setCell ⟨c, j, none⟩ v) b R S := by
  unfold SM; rw [heap_setCell_other w _ b _ hc]; exact h
theorem SK.set1 {w0 W : World} {l : List (Nat × Int × Int)} {p : Nat} {R S : Int} (h : SK w0 W ((p, R, S) :: l)) (h0 : TS w0) (hp : w0.heap.size ≤ p) (hl : ∀ q ∈ l, q.1 ≠ p) (z : Int) : SK w0 (W.setCell ⟨p, 1, none⟩ (.int .i64 z)) ((p, R, z) :: l) := by
  have hb := h.b.setCell (p := ⟨p, 1, none⟩) hp (.int .i64 z)
  refine ⟨h0.below hb, hb, fun q hq => ?_⟩
  rcases List.mem_cons.1 hq with rfl | hq
  · exact (h.s (p, R, S) (by simp)).set1 z
  · exact (h.s q (by simp [hq])).other (hl q hq) _ _
set_option maxRecDepth 100000 in
set_option maxHeartbeats 4000000 in
theorem one_walk (w : World) (s : ByteArray) (hs : s.size ≤ 140737488355300) (t : ByteArray) (_ht : t.size ≤ 140737488355300) (d : Int) (hd : -9223372036854775808 ≤ d ∧ d ≤ 9223372036854775807) (hT : TS w) :
    Calls Tryd.prog 4 #[.string s, .string t, .int .i64 d] w fun e w' => e = .returned (.bool true) ∧ Below w.heap.size w w' := by
  obtain ⟨m, m1, m4, hxs⟩ := cut300 t
  have m2 : (m : Int) ≤ (t.size : Int) := by omega
  have m3 : (0 : Int) ≤ (m : Int) := by omega
  obtain ⟨u, hu⟩ : ∃ x, t.extract 0 m = x := ⟨_, rfl⟩
  rw [hu] at hxs
  have C0 := Lib.hid fun W (h : TS W) => sanity_any W h
  have C1 := Lib.hid fun W (h : TB W) => Key_any W s hs h
  have x0 := nz_rng (sc_rng (ks s))
  generalize nz (sc (ks s)) = x at *
  have C2 := fun W (h : TB W) => Sign_any W x u (by omega) (by omega) h
  rw [ex_id x (by omega)] at C2
  have C2 := Lib.hid C2
  have n0 := nn_rng x u
  have p1 := pk_rng (nn x u)
  have p2 := pk_rng x
  have p3 := sS_rng x (nn x u) u
  have e1 := vf_sig x (nn x u) u (by omega) (by omega)
  generalize sS x (nn x u) u = v at *
  generalize pk (nn x u) = r at *
  generalize pk x = y at *
  have V1 := fun W (h : TB W) => Verify_any W y u r v (by omega) (by omega) (by omega) (by omega) h
  rw [e1] at V1
  have V1 := Lib.hid V1
  have q0 := ga_rng v d 1152921504606845789
  have A1 := Lib.hid fun W => refAdd_any W v d 1152921504606845789 (by omega) (by omega) hd.1 hd.2 (by decide)
  generalize ga v d 1152921504606845789 = z at *
  have V2 := Lib.hid fun (hne : z ≠ v) W (h : TB W) => by
    have := Verify_any W y u r z (by omega) (by omega) (by omega) (by omega) h
    rwa [vf_only y u r v z e1 (by omega) hne] at this
  have H0 := Lib.hid hT
  have HT := Lib.hid (sk_start hT); clear hT hs e1 n0 p1 p2 p3 x0 hxs q0
  go_enter Tryd.func4, Tryd.ntmps4
  go_wp2_with fail
  refine (C0.out _ HT.out.t).mono ?_
  rintro e w1 ⟨rfl, b⟩
  have K1 := Lib.hid (HT.out.next b); clear b HT
  go_wp2_with fail
  refine (C1.out _ K1.out.t.tb).mono ?_
  rintro e w2 ⟨rfl, b⟩
  have K2 := Lib.hid (K1.out.next b); clear b K1
  go_wp2_with fail
  refine (C2.out _ K2.out.t.tb).mono ?_
  rintro e w3 ⟨rfl, b⟩
  have K3 := Lib.hid (K2.out.next b); clear b K2
  have z3 := SM.new w3 0 0
  have hi := infoS r v
  go_upto_region 5 with (refine wpList_store_row rfl 27 (.tmp 10) (.tmp 25) rfl w3.heap.size #[.int .i64 r, .int .i64 v] rfl rfl 27 _ z3 hi.out (two_size _ _ _ _) (sg_one _ _) ?_)
  clear z3
  have hs3 := K3.out.b.size
  have H3 := Lib.hid (K3.out.push r v); clear K3
  try change Code.wp _ _ _ _ ((w3.alloc (.cells #[.int .i64 0, .int .i64 0] 27)).setRow w3.heap.size #[.int .i64 r, .int .i64 v])
  generalize hq : (w3.alloc (.cells #[.int .i64 0, .int .i64 0] 27)).setRow w3.heap.size #[.int .i64 r, .int .i64 v] = v3 at *
  clear hq
  have hl3 := (H3.out.get w3.heap.size r v (by simp)).lt
  have HS3 := Lib.hid (show w.heap.size ≤ v3.heap.size by omega)
  have HS3b := Lib.hid hl3
  clear hs3 hl3
  have q3 := H3.out.get w3.heap.size r v (by simp)
  have z4 := SM.new v3 0 0
  go_upto_region 6 with (first | (refine wpList_load_row rfl 27 (.tmp 10) rfl w3.heap.size rfl 27 #[.int .i64 r, .int .i64 v] (0, 0) _ q3 Tryd.underlying27 rfl hi.out ?_) | (refine wpList_store_row rfl 27 (.tmp 11) (.tmp 26) rfl v3.heap.size #[.int .i64 r, .int .i64 v] rfl rfl 27 _ z4 hi.out (two_size _ _ _ _) (sg_one _ _) ?_))
  clear z4 q3
  have H4 := Lib.hid (H3.out.push r v); clear H3
  try change Code.wp _ _ _ _ ((v3.alloc (.cells #[.int .i64 0, .int .i64 0] 27)).setRow v3.heap.size #[.int .i64 r, .int .i64 v])
  generalize hq : (v3.alloc (.cells #[.int .i64 0, .int .i64 0] 27)).setRow v3.heap.size #[.int .i64 r, .int .i64 v] = v4 at *
  clear hq
  have c1 := (H4.out.get w3.heap.size r v (by simp)).c1
  go_wp2_with fail
  refine (A1.out _).mono ?_
  rintro e w5 ⟨rfl, rfl⟩
  have hv3 : w.heap.size ≤ v3.heap.size := HS3.out
  have hne : w3.heap.size ≠ v3.heap.size := by have := HS3b.out; omega
  have d1 := (H4.out.get v3.heap.size r v (by simp)).c1
  have f1 : w5.frozen? ⟨v3.heap.size, 1, none⟩ = false := frozen_of_row w5 v3.heap.size 1 _ _ (H4.out.get v3.heap.size r v (by simp))
  have H5 := Lib.hid (H4.out.set1 H0.out hv3 (by intro q hq; simp at hq; subst hq; exact hne) z)
  clear H4 hne hv3 A1
  go_upto_region 7 with fail
  clear c1 d1 f1
  try change Code.wp _ _ _ _ (w5.setCell ⟨v3.heap.size, 1, none⟩ (.int .i64 z))
  generalize hq : w5.setCell ⟨v3.heap.size, 1, none⟩ (.int .i64 z) = v5 at *
  clear hq
  have c0 := (H5.out.get w3.heap.size r v (by simp)).c0
  have c1 := (H5.out.get w3.heap.size r v (by simp)).c1
  go_wp2_with fail
  refine (V1.out _ H5.out.t.tb).mono ?_
  rintro e w6 ⟨rfl, b⟩
  have H6 := Lib.hid (H5.out.next b); clear b H5 c0 c1
  have c0 := (H6.out.get w3.heap.size r v (by simp)).c0
  have c1 := (H6.out.get w3.heap.size r v (by simp)).c1
  have d0 := (H6.out.get v3.heap.size r z (by simp)).c0
  have d1 := (H6.out.get v3.heap.size r z (by simp)).c1
  by_cases hz : z = v
  · have hzb : (z == v) = true := beq_iff_eq.2 hz
    clear hz
    go_wp2
    go_ret
    exact ⟨rfl, H6.out.b⟩
  · have hzb : (z == v) = false := beq_eq_false_iff_ne.2 hz
    have V2 := Lib.hid (V2.out hz)
    clear hz
    go_wp2_with fail
    refine (V2.out _ H6.out.t.tb).mono ?_
    rintro e w7 ⟨rfl, b⟩
    have H7 := Lib.hid (H6.out.next b); clear b H6
    go_wp2
    go_ret
    exact ⟨rfl, H7.out.b⟩
end Go.Proofs.YtiojcmfckmjoaaaDoor.S5
