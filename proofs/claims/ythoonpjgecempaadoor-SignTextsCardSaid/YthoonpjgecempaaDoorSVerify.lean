/-
  The walk of sign.Verify.
-/
import Derived.Test.YthoonpjgecempaaDoorSKey
namespace Go.Proofs.YthoonpjgecempaaDoor.S5
open Go.RowKit GM SH G4
/-- a signature as a value -/
abbrev sgv (R S : Int) : Value := .agg #[.int .i64 R, .int .i64 S]
/-- a signature lies in block b -/
def SM (w : World) (b : Nat) (R S : Int) : Prop := w.heap[b]? = some (.cells #[.int .i64 R, .int .i64 S] 26 (0, 0))
theorem SM.lt {w : World} {b : Nat} {R S : Int} (h : SM w b R S) : b < w.heap.size := (Array.getElem?_eq_some_iff.1 h).1
theorem SM.c0 {w : World} {b : Nat} {R S : Int} (h : SM w b R S) : w.cell? ⟨b, 0, none⟩ = some (.int .i64 R) := cell_of_row w b 0 _ _ _ h
theorem SM.c1 {w : World} {b : Nat} {R S : Int} (h : SM w b R S) : w.cell? ⟨b, 1, none⟩ = some (.int .i64 S) := cell_of_row w b 1 _ _ _ h
theorem SM.below {w w' : World} {b B : Nat} {R S : Int} (h : SM w b R S) (k : Below B w w') (hb : b < B) : SM w' b R S := (k.block b hb).trans h
theorem SM.next {w w' : World} {b : Nat} {R S : Int} (h : SM w b R S) (k : Below w.heap.size w w') : SM w' b R S := h.below k h.lt
theorem SM.alloc {w : World} {b : Nat} {R S : Int} (h : SM w b R S) (o : Obj) : SM (w.alloc o) b R S := by
  have hl := h.lt
  unfold SM at h ⊢; rw [heap_alloc_old _ _ hl]; exact h
theorem SM.new (w : World) (R S : Int) : SM (w.alloc (.cells #[.int .i64 R, .int .i64 S] 26)) w.heap.size R S := heap_alloc_new _ _
theorem infoS (R S : Int) : Hid ((Tryd.prog.info? 26).map (·.size) = some (#[Value.int .i64 R, .int .i64 S]).size) := Lib.hid (by show _ = some 2; kernel_rfl)
theorem two_size (a b c d : Value) : (#[a, b]).size = (#[c, d]).size := by simp
theorem sg_one (R S : Int) : (#[Value.int .i64 R, .int .i64 S]).all (·.oneCell') = true := by simp [Value.oneCell']
theorem vk_next {w u v : World} {p : Nat} {R S : Int} (h : Below w.heap.size w u ∧ u.cell? ⟨p, 0, none⟩ = some (.int .i64 R) ∧ u.cell? ⟨p, 1, none⟩ = some (.int .i64 S)) (b : Below u.heap.size u v) :
    Below w.heap.size w v ∧ v.cell? ⟨p, 0, none⟩ = some (.int .i64 R) ∧ v.cell? ⟨p, 1, none⟩ = some (.int .i64 S) := by
  have hp : p < u.heap.size := World.block_lt_of_cell? _ _ h.2.1
  exact ⟨h.1.trans (b.mono h.1.size), (b.cell (p := ⟨p, 0, none⟩) hp).trans h.2.1, (b.cell (p := ⟨p, 1, none⟩) hp).trans h.2.2⟩
set_option maxRecDepth 100000 in
set_option maxHeartbeats 2000000 in
theorem Verify_any (w : World) (k : Int) (t : ByteArray) (R S : Int) (hk : -9223372036854775808 ≤ k ∧ k ≤ 9223372036854775807) (hR : -9223372036854775808 ≤ R ∧ R ≤ 9223372036854775807) (hS : -9223372036854775808 ≤ S ∧ S ≤ 9223372036854775807) (ht : t.size ≤ 140737488355300) (hB : TB w) :
    Calls Tryd.prog 11 #[.int .i64 k, .string t, sgv R S] w fun e w' => e = .returned (.bool (vf k t R S)) ∧ Below w.heap.size w w' := by
  obtain ⟨W, hW⟩ : ∃ W, w.alloc (.cells #[.int .i64 R, .int .i64 S] 26) = W := ⟨_, rfl⟩
  have h1 : SM W w.heap.size R S := by rw [← hW]; exact SM.new _ _ _
  have hb : Below w.heap.size w W := by rw [← hW]; exact (Below.refl w.heap.size w).alloc (Nat.le_refl _) _
  have hBW : TB W := hB.below hb
  have HV := Lib.hid (show Below w.heap.size w W ∧ W.cell? ⟨w.heap.size, 0, none⟩ = some (.int .i64 R) ∧ W.cell? ⟨w.heap.size, 1, none⟩ = some (.int .i64 S) from ⟨hb, h1.c0, h1.c1⟩)
  have HB := Lib.hid hBW
  clear h1 hb hBW hB
  by_cases s0 : S < 0
  · have E : vf k t R S = false := by unfold vf; rw [decide_eq_true s0]; rfl
    rw [E]
    obtain ⟨hb, c0, c1⟩ := HV.out
    clear HV HB
    go_enter Tryd.func11, Tryd.ntmps11
    go_upto_region 1 with fail
    go_wp2
    go_ret
    exact ⟨rfl, hb⟩
  by_cases s1 : 1152921504606845789 ≤ S
  · have E : vf k t R S = false := by unfold vf; rw [decide_eq_true s1, decide_eq_false s0]; rfl
    rw [E]
    obtain ⟨hb, c0, c1⟩ := HV.out
    clear HV HB
    go_enter Tryd.func11, Tryd.ntmps11
    go_upto_region 1 with fail
    go_wp2
    go_ret
    exact ⟨rfl, hb⟩
  by_cases m0 : mem k = true
  · by_cases m1 : mem R = true
    · have k0 := mem_rng m0
      have r0 := mem_rng m1
      obtain ⟨kn, rfl⟩ : ∃ v : Nat, k = v := ⟨k.toNat, by omega⟩
      obtain ⟨rn, rfl⟩ : ∃ v : Nat, R = v := ⟨R.toNat, by omega⟩
      have hc := cc_rng rn kn t
      have M1 := Lib.hid fun W => member_k W kn true m0 hk.1 hk.2
      have M2 := Lib.hid fun W => member_k W rn true m1 hR.1 hR.2
      have C1 := Lib.hid (show ∀ W, TB W → Calls Tryd.prog 22 #[.int .i64 (rn : Int), .int .i64 (kn : Int), .string t] W fun e w' => e = .returned (.int .i64 (cc rn kn t)) ∧ Below W.heap.size W w' from fun W h => challenge_any W rn kn t (by omega) (by omega) ht h)
      have E := Lib.hid (show vf kn t rn S = (gp 4 S 2305843009213691579 == gm rn (gp kn (cc rn kn t) 2305843009213691579) 2305843009213691579) by unfold vf; rw [m0, m1, decide_eq_false s0, decide_eq_false s1]; rfl)
      generalize cc rn kn t = c at *
      have q0 := gp_rng kn c 2305843009213691579
      have P1 := Lib.hid fun W => pow_k W 4 S 2305843009213691579 _ rfl (by decide) (by decide) (by omega) (by decide)
      have P2 := Lib.hid fun W => pow_k W kn c 2305843009213691579 _ rfl (by omega) (by omega) (by omega) (by decide)
      have X1 := Lib.hid fun W => mul_k W rn (gp kn c 2305843009213691579) 2305843009213691579 _ rfl (by omega) (by omega) (by omega) (by omega) (by decide)
      generalize gm rn (gp kn c 2305843009213691579) 2305843009213691579 = z at *
      generalize gp kn c 2305843009213691579 = y at *
      generalize gp 4 S 2305843009213691579 = u at *
      generalize vf kn t rn S = V at *
      obtain ⟨hb, c0, c1⟩ := HV.out
      clear HV m0 m1 k0 r0 hc q0 hk hR ht
      have HS := Lib.hid hS; clear hS
      go_enter Tryd.func11, Tryd.ntmps11
      go_upto_region 1 with fail
      clear hW
      go_wp2_with fail
      refine (M1.out _).mono ?_
      rintro e w1 ⟨rfl, b1⟩
      have t1 := Lib.hid (HB.out.below b1)
      obtain ⟨hb1, d0, d1⟩ := vk_next ⟨hb, c0, c1⟩ b1
      clear b1 hb c0 c1 HB
      go_wp2_with fail
      refine (M2.out _).mono ?_
      rintro e w2 ⟨rfl, b2⟩
      have t2 := Lib.hid (t1.out.below b2)
      obtain ⟨hb2, c0, c1⟩ := vk_next ⟨hb1, d0, d1⟩ b2
      clear b2 hb1 d0 d1 t1
      go_wp2_with fail
      refine (C1.out _ t2.out).mono ?_
      rintro e w3 ⟨rfl, b3⟩
      obtain ⟨hb3, d0, d1⟩ := vk_next ⟨hb2, c0, c1⟩ b3
      clear b3 hb2 c0 c1 t2
      go_wp2_with fail
      go_region_held3 (fun w' => Below w.heap.size w w' ∧ w'.cell? ⟨w.heap.size, 0, none⟩ = some (.int .i64 (rn : Int)) ∧ w'.cell? ⟨w.heap.size, 1, none⟩ = some (.int .i64 S))
        (first | assumption | exact ⟨hb3.drew, d0, d1⟩ | exact ⟨hb3, d0, d1⟩ | exact vk_next (by assumption) b)
        (first
          | (go_at_call_of 21 (Value.int .i64 (4 : Int)); refine (P1.out _).mono ?_; rintro e w' ⟨rfl, b⟩)
          | (go_at_call_of 21 (Value.int .i64 (kn : Int)); refine (P2.out _).mono ?_; rintro e w' ⟨rfl, b⟩)
          | (go_at_call 24; refine (X1.out _).mono ?_; rintro e w' ⟨rfl, b⟩))
      all_goals go_wp2
      all_goals go_ret
      all_goals exact ⟨by rw [E.out]; rfl, (And.left (by assumption) : Below w.heap.size w _)⟩
    · have E : vf k t R S = false := by unfold vf; rw [m0, decide_eq_false s0, decide_eq_false s1]; simp only [Bool.not_eq_true] at m1; rw [m1]; rfl
      rw [E]
      have M1 := Lib.hid fun W => member_k W k true m0 hk.1 hk.2
      have M2 := Lib.hid fun W => member_k W R false (by simpa using m1) hR.1 hR.2
      obtain ⟨hb, c0, c1⟩ := HV.out
      clear HV m0 m1 HB E
      go_enter Tryd.func11, Tryd.ntmps11
      go_upto_region 1 with fail
      clear hW
      go_wp2_with fail
      refine (M1.out _).mono ?_
      rintro e w1 ⟨rfl, b1⟩
      obtain ⟨hb1, d0, d1⟩ := vk_next ⟨hb, c0, c1⟩ b1
      clear b1 hb c0 c1
      go_wp2_with fail
      refine (M2.out _).mono ?_
      rintro e w2 ⟨rfl, b2⟩
      have hb2 := Lib.hid (hb1.trans (b2.mono hb1.size)); clear b2
      go_wp2
      go_ret
      exact ⟨rfl, hb2.out⟩
  · have E : vf k t R S = false := by unfold vf; rw [decide_eq_false s0, decide_eq_false s1]; simp only [Bool.not_eq_true] at m0; rw [m0]; rfl
    rw [E]
    have M1 := Lib.hid fun W => member_k W k false (by simpa using m0) hk.1 hk.2
    obtain ⟨hb, c0, c1⟩ := HV.out
    clear HV m0 HB E
    go_enter Tryd.func11, Tryd.ntmps11
    go_upto_region 1 with fail
    clear hW
    go_wp2_with fail
    refine (M1.out _).mono ?_
    rintro e w1 ⟨rfl, b1⟩
    have hb2 := Lib.hid (hb.trans (b1.mono hb.size)); clear b1
    go_wp2
    go_ret
    exact ⟨rfl, hb2.out⟩
end Go.Proofs.YthoonpjgecempaaDoor.S5
