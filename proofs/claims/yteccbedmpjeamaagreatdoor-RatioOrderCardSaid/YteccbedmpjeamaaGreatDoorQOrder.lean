/-
  The walk of the law RatioOrder.
-/
import Derived.Test.YteccbedmpjeamaaGreatDoorQCmp
namespace Go.Proofs.YteccbedmpjeamaaGreatDoor
open Go.RowKit NM QM
theorem sq_bd (a : Rat) : -1 ≤ sq a ∧ sq a ≤ 1 := by unfold sq; split <;> (try split) <;> omega
theorem cq_bd (a b : Rat) : -1 ≤ cq a b ∧ cq a b ≤ 1 := by unfold cq; split <;> (try split) <;> omega
theorem cq_trans (a b c : Rat) (h1 : ¬ cq a b < 0) (h2 : ¬ cq b c < 0) : 0 ≤ cq a c := by
  rw [cq_lt] at h1 h2
  have h3 : b ≤ a := Rat.not_lt.1 h1
  have h4 : c ≤ b := Rat.not_lt.1 h2
  have h5 : ¬ a < c := Rat.not_lt.2 (Rat.le_trans h4 h3)
  have h6 := mt cq_lt.1 h5
  omega
set_option maxRecDepth 200000 in
set_option maxHeartbeats 64000000 in
theorem order_walk (w : World) (x0 y0 z0 x1 y1 z1 x2 y2 z2 : Int) (hT : Tp w)
    (hx0 : -9223372036854775808 ≤ x0 ∧ x0 ≤ 9223372036854775807)
    (hy0 : -9223372036854775808 ≤ y0 ∧ y0 ≤ 9223372036854775807)
    (hz0 : -9223372036854775808 ≤ z0 ∧ z0 ≤ 9223372036854775807)
    (hx1 : -9223372036854775808 ≤ x1 ∧ x1 ≤ 9223372036854775807)
    (hy1 : -9223372036854775808 ≤ y1 ∧ y1 ≤ 9223372036854775807)
    (hz1 : -9223372036854775808 ≤ z1 ∧ z1 ≤ 9223372036854775807)
    (hx2 : -9223372036854775808 ≤ x2 ∧ x2 ≤ 9223372036854775807)
    (hy2 : -9223372036854775808 ≤ y2 ∧ y2 ≤ 9223372036854775807)
    (hz2 : -9223372036854775808 ≤ z2 ∧ z2 ≤ 9223372036854775807)
    : Calls Tryz.prog 7 #[.agg #[.int .i64 x0, .int .i64 y0, .int .i64 z0], .agg #[.int .i64 x1, .int .i64 y1, .int .i64 z1], .agg #[.int .i64 x2, .int .i64 y2, .int .i64 z2]] w fun e w' => e = .returned (.bool true) ∧ Below w.heap.size w w' := by
  obtain ⟨W, hW⟩ : ∃ W, ((w.alloc (.cells #[.int .i64 x0, .int .i64 y0, .int .i64 z0] 22)).alloc (.cells #[.int .i64 x1, .int .i64 y1, .int .i64 z1] 22)).alloc (.cells #[.int .i64 x2, .int .i64 y2, .int .i64 z2] 22) = W := ⟨_, rfl⟩
  have hbW : Below w.heap.size w W := by rw [← hW]; exact (((Below.refl _ w).alloc (Nat.le_refl _) _).alloc (by simp) _).alloc (by simp; omega) _
  have ha0 : AR W w.heap.size x0 y0 z0 := by
    rw [← hW]; exact ((ar_alloc w x0 y0 z0 _).next ((Below.refl _ _).alloc (Nat.le_refl _) _)).next ((Below.refl _ _).alloc (Nat.le_refl _) _)
  have ha1 : AR W (w.heap.size + 1) x1 y1 z1 := by
    have h := (ar_alloc (w.alloc (.cells #[.int .i64 x0, .int .i64 y0, .int .i64 z0] 22)) x1 y1 z1 22).next ((Below.refl _ _).alloc (Nat.le_refl _) (.cells #[.int .i64 x2, .int .i64 y2, .int .i64 z2] 22))
    rw [← hW]; simpa using h
  have ha2 : AR W (w.heap.size + 2) x2 y2 z2 := by
    have h := ar_alloc ((w.alloc (.cells #[.int .i64 x0, .int .i64 y0, .int .i64 z0] 22)).alloc (.cells #[.int .i64 x1, .int .i64 y1, .int .i64 z1] 22)) x2 y2 z2 22
    rw [← hW]; simpa using h
  have HS0 : Hid (KB w [] W) := Lib.hid ⟨fun x hx => (by cases hx), hbW, hT.below hbW⟩
  have HA0 := Lib.hid (And.intro ha0 (And.intro ha1 ha2))
  have HWe := Lib.hid hW
  clear hW hbW ha0 ha1 ha2 hT
  go_enter Tryz.func7, Tryz.ntmps7
  go_upto_region 1 with fail
  change Code.wp _ _ _ _ (((w.alloc (.cells #[.int .i64 x0, .int .i64 y0, .int .i64 z0] 22)).alloc (.cells #[.int .i64 x1, .int .i64 y1, .int .i64 z1] 22)).alloc (.cells #[.int .i64 x2, .int .i64 y2, .int .i64 z2] 22))
  rw [HWe.out]
  clear HWe
  go_wp2_with fail
  refine (sanity_any _ HS0.out.t).mono ?_
  rintro e u1 ⟨rfl, b⟩
  have HS1 := Lib.hid (HS0.out.next b)
  have HA1 := Lib.hid (And.intro (HA0.out.1.next b) (And.intro (HA0.out.2.1.next b) (HA0.out.2.2.next b)))
  clear b
  have cc := HA1.out.1
  have d0 := cc.2.1
  have d1 := cc.2.2.1
  have d2 := cc.2.2.2
  clear cc
  go_wp2_with fail
  refine (made_q _ x0 y0 z0 hx0 hy0 hz0).mono ?_
  rintro e u2 ⟨a, sa, rfl, b⟩
  have HS2 := Lib.hid (HS1.out.next b)
  have HB0 := Lib.hid (And.intro (HA1.out.1.next b) (And.intro (HA1.out.2.1.next b) (HA1.out.2.2.next b)))
  clear d0 d1 d2
  clear b
  unfold QV
  go_upto_region 3 with (refine wpList_store_row rfl 26 (.tmp 8) (.tmp 15) rfl u2.heap.size (qcells a) rfl rfl 26 zrow (heap_alloc_new _ _) info26.out rfl (qone _) ?_)
  change Code.wp _ _ _ _ ((u2.alloc (.cells zrow 26)).setRow u2.heap.size (qcells a))
  rw [World.setRow_alloc_new u2 zrow (qcells a) 26]
  have hx := HS2.out.push (qcells a)
  have hbx := Lib.hid ((Below.refl u2.heap.size u2).alloc (Nat.le_refl _) (.cells (qcells a) 26))
  generalize u2.alloc (.cells (qcells a) 26) = u3 at *
  obtain ⟨p3, hp⟩ : ∃ p, u2.heap.size = p := ⟨_, rfl⟩
  rw [hp] at hx ⊢
  have HA2 := Lib.hid (And.intro (HB0.out.1.next hbx.out) (And.intro (HB0.out.2.1.next hbx.out) (HB0.out.2.2.next hbx.out)))
  clear hp hbx
  have HS3 := Lib.hid hx
  clear hx
  have cc := HA2.out.2.1
  have d0 := cc.2.1
  have d1 := cc.2.2.1
  have d2 := cc.2.2.2
  clear cc
  go_wp2_with fail
  refine (made_q _ x1 y1 z1 hx1 hy1 hz1).mono ?_
  rintro e u4 ⟨b, sb, rfl, b⟩
  have HS4 := Lib.hid (HS3.out.next b)
  have HB1 := Lib.hid (And.intro (HA2.out.1.next b) (And.intro (HA2.out.2.1.next b) (HA2.out.2.2.next b)))
  clear d0 d1 d2
  clear b
  unfold QV
  go_upto_region 4 with (refine wpList_store_row rfl 26 (.tmp 9) (.tmp 17) rfl u4.heap.size (qcells b) rfl rfl 26 zrow (heap_alloc_new _ _) info26.out rfl (qone _) ?_)
  change Code.wp _ _ _ _ ((u4.alloc (.cells zrow 26)).setRow u4.heap.size (qcells b))
  rw [World.setRow_alloc_new u4 zrow (qcells b) 26]
  have hx := HS4.out.push (qcells b)
  have hbx := Lib.hid ((Below.refl u4.heap.size u4).alloc (Nat.le_refl _) (.cells (qcells b) 26))
  generalize u4.alloc (.cells (qcells b) 26) = u5 at *
  obtain ⟨p5, hp⟩ : ∃ p, u4.heap.size = p := ⟨_, rfl⟩
  rw [hp] at hx ⊢
  have HA3 := Lib.hid (And.intro (HB1.out.1.next hbx.out) (And.intro (HB1.out.2.1.next hbx.out) (HB1.out.2.2.next hbx.out)))
  clear hp hbx
  have HS5 := Lib.hid hx
  clear hx
  have cc := HA3.out.2.2
  have d0 := cc.2.1
  have d1 := cc.2.2.1
  have d2 := cc.2.2.2
  clear cc
  go_wp2_with fail
  refine (made_q _ x2 y2 z2 hx2 hy2 hz2).mono ?_
  rintro e u6 ⟨c, sc, rfl, b⟩
  have HS6 := Lib.hid (HS5.out.next b)
  have HB2 := Lib.hid (And.intro (HA3.out.1.next b) (And.intro (HA3.out.2.1.next b) (HA3.out.2.2.next b)))
  clear d0 d1 d2
  clear b
  unfold QV
  go_upto_region 5 with (refine wpList_store_row rfl 26 (.tmp 10) (.tmp 19) rfl u6.heap.size (qcells c) rfl rfl 26 zrow (heap_alloc_new _ _) info26.out rfl (qone _) ?_)
  change Code.wp _ _ _ _ ((u6.alloc (.cells zrow 26)).setRow u6.heap.size (qcells c))
  rw [World.setRow_alloc_new u6 zrow (qcells c) 26]
  have hx := HS6.out.push (qcells c)
  have hbx := Lib.hid ((Below.refl u6.heap.size u6).alloc (Nat.le_refl _) (.cells (qcells c) 26))
  generalize u6.alloc (.cells (qcells c) 26) = u7 at *
  obtain ⟨p7, hp⟩ : ∃ p, u6.heap.size = p := ⟨_, rfl⟩
  rw [hp] at hx ⊢
  have HA4 := Lib.hid (And.intro (HB2.out.1.next hbx.out) (And.intro (HB2.out.2.1.next hbx.out) (HB2.out.2.2.next hbx.out)))
  clear hp hbx
  have HS7 := Lib.hid hx
  clear hx
  clear HA0 HA1 HA2 HA3 HA4 HB0 HB1 HB2
  have s0 : SmQ 16 0 := SmQ_zero 16 (by decide)
  have m : ∀ {N : Nat} {q : Rat}, SmQ N q → N ≤ 100 → SmQ 100 q := fun h h2 => h.mono h2
  have ac := SmQ_add sa sc
  have bc := SmQ_add sb sc
  have pac := SmQ_mul sa sc
  have pbc := SmQ_mul sb sc
  have nb : SmQ 16 (-b) := ⟨by rw [Rat.neg_num, Int.natAbs_neg]; exact sb.1, by rw [Rat.neg_den]; exact sb.2⟩
  have ab := SmQ_add sa nb
  rw [← Rat.sub_eq_add_neg] at ab
  have k5 := fun W (h : Tp W) => aCmp W a b 100 (m sa (by decide)) (m sb (by decide)) (by decide) (by decide) h
  have i1 := fun W (h : Tp W) => aCmp W b a 100 (m sb (by decide)) (m sa (by decide)) (by decide) (by decide) h
  have i2 := fun W (h : Tp W) => aCmp W b c 100 (m sb (by decide)) (m sc (by decide)) (by decide) (by decide) h
  have i3 := fun W (h : Tp W) => aCmp W a c 100 (m sa (by decide)) (m sc (by decide)) (by decide) (by decide) h
  have i4 := fun W (h : Tp W) => aAdd W a c 100 (m sa (by decide)) (m sc (by decide)) (by decide) (by decide) h
  have i5 := fun W (h : Tp W) => aAdd W b c 100 (m sb (by decide)) (m sc (by decide)) (by decide) (by decide) h
  have i6 := fun W (h : Tp W) => aCmp W (a + c) (b + c) 100 (m ac (by decide)) (m bc (by decide)) (by decide) (by decide) h
  rw [cq_add] at i6
  have j1 := fun W (h : Tp W) => aMul W a c 100 (m sa (by decide)) (m sc (by decide)) (by decide) (by decide) h
  have j2 := fun W (h : Tp W) => aMul W b c 100 (m sb (by decide)) (m sc (by decide)) (by decide) (by decide) h
  have j3 := fun W (h : Tp W) => aCmp W (a * c) (b * c) 100 (m pac (by decide)) (m pbc (by decide)) (by decide) (by decide) h
  rw [cq_mul] at j3
  have j4 := fun W (h : Tp W) => aSign W c 100 (m sc (by decide)) (by decide) h
  have j5 := fun W (h : Tp W) => aSub W a b 100 (m sa (by decide)) (m sb (by decide)) (by decide) (by decide) h
  have j6 := fun W (h : Tp W) => aSign W (a - b) 100 (m ab (by decide)) (by decide) h
  rw [cq_sub] at j6
  have j7 := fun W (h : Tp W) => aSign W a 100 (m sa (by decide)) (by decide) h
  have j8 := fun W => aOf W 0 0 (by decide +kernel) (by decide)
  have j9 := fun W (h : Tp W) => aCmp W a 0 100 (m sa (by decide)) (m s0 (by decide)) (by decide) (by decide) h
  rw [← sq_cq] at j9
  have hsw := cq_swap a b
  have b1 := cq_bd a b
  have b2 := sq_bd c
  have hz0 := cq_zero a b
  have htr := cq_trans a b c
  have eE := fun W => eq_q W a b
  obtain ⟨k0, hk0⟩ : ∃ k, decide (a = b) = k := ⟨_, rfl⟩
  rw [hk0] at eE
  generalize cq b a = zz at *
  generalize cq b c = yy at *
  generalize cq a c = vv at *
  generalize cq a b = xx at *
  generalize sq c = ss at *
  generalize sq a = uu at *
  obtain ⟨mm, hmm⟩ : ∃ mm, xx * ss = mm := ⟨_, rfl⟩
  rw [hmm] at j3
  have hmb : -1 ≤ mm ∧ mm ≤ 1 := by
    rw [← hmm]
    have hxx : xx = -1 ∨ xx = 0 ∨ xx = 1 := by omega
    rcases hxx with h | h | h <;> rw [h] <;> omega
  have f1 : IntKind.i64.wrap (-zz) = xx := by rw [hsw, Int.neg_neg]; exact IntWalk.i64_in _ (by omega)
  have f1b : wrap64 (-zz) = xx := by rw [hsw, Int.neg_neg]; exact IntWalk.wrap64_in _ ⟨by omega, by omega⟩
  have f2 : IntKind.i64.wrap (xx * ss) = mm := by rw [hmm]; exact IntWalk.i64_in _ (by omega)
  have f2b : wrap64 (xx * ss) = mm := by rw [hmm]; exact IntWalk.wrap64_in _ ⟨by omega, by omega⟩
  have fe : (xx == 0) = k0 := by
    rw [← hk0]
    by_cases h : xx = 0
    · rw [decide_eq_true (hz0.1 h), h]; rfl
    · rw [decide_eq_false (fun e => h (hz0.2 e))]; exact beq_eq_false_iff_ne.2 h
  have K5 := Lib.hid k5
  have H6 := Lib.hid (And.intro i1 (And.intro i2 (And.intro i3 (And.intro i4 (And.intro i5 i6)))))
  have H7 := Lib.hid (And.intro j1 (And.intro j2 (And.intro j3 (And.intro j4 (And.intro j5 (And.intro j6 (And.intro j7 (And.intro j8 j9))))))))
  have HI := Lib.hid (And.intro f1 (And.intro f1b (And.intro eE (And.intro fe (And.intro f2 f2b)))))
  have HTR := Lib.hid htr
  clear s0 m ac bc pac pbc nb ab k5 i1 i2 i3 i4 i5 i6 j1 j2 j3 j4 j5 j6 j7 j8 j9 hsw b1 b2 hz0 htr eE hk0 hmm hmb f1 f1b f2 f2b fe sa sb sc
  have rA := HS7.out.row (p := p3) (cs := qcells a) (by simp)
  have rB := HS7.out.row (p := p5) (cs := qcells b) (by simp)
  have c0 : u7.cell? ⟨p3, 0, none⟩ = some (.bool (decide (a.num < 0))) := cell_of_row _ _ 0 _ _ _ rA
  have c1 : u7.cell? ⟨p3, 1, none⟩ = some (.string (NB a.num.natAbs)) := cell_of_row _ _ 1 _ _ _ rA
  have c2 : u7.cell? ⟨p3, 2, none⟩ = some (.string (NB a.den)) := cell_of_row _ _ 2 _ _ _ rA
  have c3 : u7.cell? ⟨p5, 0, none⟩ = some (.bool (decide (b.num < 0))) := cell_of_row _ _ 0 _ _ _ rB
  have c4 : u7.cell? ⟨p5, 1, none⟩ = some (.string (NB b.num.natAbs)) := cell_of_row _ _ 1 _ _ _ rB
  have c5 : u7.cell? ⟨p5, 2, none⟩ = some (.string (NB b.den)) := cell_of_row _ _ 2 _ _ _ rB
  clear rA rB
  go_wp2_with fail
  refine (K5.out _ HS7.out.t).mono ?_
  rintro e u8 ⟨rfl, b⟩
  have HS8 := Lib.hid (HS7.out.next b)
  clear c0 c1 c2 c3 c4 c5
  clear b
  go_upto_region 6 with fail
  by_cases hx : xx < 0
  · have HX := Lib.hid (decide_eq_true hx)
    clear hx
    have hx := HX.out
    have W1 := HI.out.1
    have W1b := HI.out.2.1
    have E1 := HI.out.2.2.1
    have e0 := HI.out.2.2.2.1
    refine wp_region_held_drew (S := KB w [(p7, qcells c), (p5, qcells b), (p3, qcells a)]) (by kernel_rfl) HS8.out.drew (fun hS => ?_)
    clear HS8
    refine wpAnyH_take (i := 0) (oi := { dst := some 23, op := Op.move (Operand.tmp 11), type := 3, pos := "law.go:90", after := #[], guard := none }) (v := ?voxa0) rfl (by kernel_rfl) (by kernel_rfl) (by kernel_rfl) (fun _ _ _ h => h) (Or.inl ⟨by rfl, ?yoxa0⟩) hS ?roxa0
    case yoxa0 => (intro w hS; go_simp; try with_reducible rfl)
    refine wpAnyH_take (i := 1) (oi := { dst := some 24, op := Op.load 26 (Operand.tmp 9), type := 26, pos := "law.go:90", after := #[], guard := none }) (v := .agg (qcells b)) rfl (by kernel_rfl) (by kernel_rfl) (by kernel_rfl) (fun _ _ _ h => h) (Or.inl ⟨by rfl, ?yoxa1⟩) hS ?roxa1
    case yoxa1 => exact fun w' hS => exec_load_row w' 26 (.tmp 9) rfl p5 (by first | rfl | (simp [Act.eval])) 26 (qcells b) (0, 0) _ (hS.row (by simp)) Tryz.underlying26 rfl info26.out
    refine wpAnyH_take (i := 2) (oi := { dst := some 25, op := Op.load 26 (Operand.tmp 8), type := 26, pos := "law.go:90", after := #[], guard := none }) (v := .agg (qcells a)) rfl (by kernel_rfl) (by kernel_rfl) (by kernel_rfl) (fun _ _ _ h => h) (Or.inl ⟨by rfl, ?yoxa2⟩) hS ?roxa2
    case yoxa2 => exact fun w' hS => exec_load_row w' 26 (.tmp 8) rfl p3 (by first | rfl | (simp [Act.eval])) 26 (qcells a) (0, 0) _ (hS.row (by simp)) Tryz.underlying26 rfl info26.out
    go_simp
    refine wpAnyH_ready (rs := [3]) (by kernel_rfl) (by simp) ?_
    refine AllReadyH.cons (o := { dst := some 26, op := Op.call { callee := Callee.value (Operand.func 20), args := #[Operand.tmp 24, Operand.tmp 25], argTypes := #[26, 26] }, type := 3, pos := "law.go:90", after := #[{ on := 1, ground := Ground.data }, { on := 2, ground := Ground.data }], guard := none }) rfl (fun K hK => ?_) AllReadyH.nil
    go_simp
    go_at_call 20
    refine (H6.out.1 _ hS.t).mono ?_
    rintro e w' ⟨rfl, b⟩
    have hS2 := hS.next b
    clear b hS
    try go_simp
    refine hK.out _ _ hS2 (fun hS => ?_)
    clear hK K hS2
    refine wpAnyH_take (i := 4) (oi := { dst := some 27, op := Op.unOp UnOp.neg 3 (Operand.tmp 26), type := 3, pos := "law.go:90", after := #[{ on := 3, ground := Ground.data }], guard := none }) (v := ?voxa4) rfl (by kernel_rfl) (by kernel_rfl) (by kernel_rfl) (fun _ _ _ h => h) (Or.inl ⟨by rfl, ?yoxa4⟩) hS ?roxa4
    case yoxa4 => (intro w hS; go_simp; try with_reducible rfl)
    go_simp
    refine wpAnyH_take (i := 5) (oi := { dst := some 28, op := Op.binOp BinOp.eql 3 (Operand.tmp 23) (Operand.tmp 27) 3, type := 4, pos := "law.go:90", after := #[{ on := 0, ground := Ground.data }, { on := 4, ground := Ground.data }], guard := none }) (v := ?voxa5) rfl (by kernel_rfl) (by kernel_rfl) (by kernel_rfl) (fun _ _ _ h => h) (Or.inl ⟨by rfl, ?yoxa5⟩) hS ?roxa5
    case yoxa5 => (intro w hS; go_simp; try with_reducible rfl)
    go_simp
    refine wpAnyH_take (i := 6) (oi := { dst := some 29, op := Op.move (Operand.tmp 28), type := 4, pos := "law.go:90", after := #[{ on := 5, ground := Ground.data }, { on := 3, ground := Ground.chain }], guard := none }) (v := ?voxa6) rfl (by kernel_rfl) (by kernel_rfl) (by kernel_rfl) (fun _ _ _ h => h) (Or.inl ⟨by rfl, ?yoxa6⟩) hS ?roxa6
    case yoxa6 => (intro w hS; go_simp; try with_reducible rfl)
    go_simp
    refine wpAnyH_take (i := 7) (oi := { dst := some 30, op := Op.move (Operand.tmp 11), type := 3, pos := "law.go:90", after := #[{ on := 6, ground := Ground.guard }], guard := some (6, true) }) (v := ?voxa7) rfl (by kernel_rfl) (by kernel_rfl) (by kernel_rfl) (fun _ _ _ h => h) (Or.inl ⟨by rfl, ?yoxa7⟩) hS ?roxa7
    case yoxa7 => (intro w hS; go_simp; try with_reducible rfl)
    refine wpAnyH_take (i := 9) (oi := { dst := some 32, op := Op.load 26 (Operand.tmp 8), type := 26, pos := "law.go:90", after := #[{ on := 6, ground := Ground.guard }], guard := some (6, true) }) (v := .agg (qcells a)) rfl (by kernel_rfl) (by kernel_rfl) (by kernel_rfl) (fun _ _ _ h => h) (Or.inl ⟨by rfl, ?yoxa9⟩) hS ?roxa9
    case yoxa9 => exact fun w' hS => exec_load_row w' 26 (.tmp 8) rfl p3 (by first | rfl | (simp [Act.eval])) 26 (qcells a) (0, 0) _ (hS.row (by simp)) Tryz.underlying26 rfl info26.out
    refine wpAnyH_take (i := 10) (oi := { dst := some 33, op := Op.load 26 (Operand.tmp 9), type := 26, pos := "law.go:90", after := #[{ on := 6, ground := Ground.guard }], guard := some (6, true) }) (v := .agg (qcells b)) rfl (by kernel_rfl) (by kernel_rfl) (by kernel_rfl) (fun _ _ _ h => h) (Or.inl ⟨by rfl, ?yoxa10⟩) hS ?roxa10
    case yoxa10 => exact fun w' hS => exec_load_row w' 26 (.tmp 9) rfl p5 (by first | rfl | (simp [Act.eval])) 26 (qcells b) (0, 0) _ (hS.row (by simp)) Tryz.underlying26 rfl info26.out
    go_simp
    refine wpAnyH_take (i := 8) (oi := { dst := some 31, op := Op.binOp BinOp.eql 3 (Operand.tmp 30) (Operand.const (Value.int IntKind.i64 0)) 3, type := 4, pos := "law.go:90", after := #[{ on := 7, ground := Ground.data }, { on := 6, ground := Ground.guard }], guard := some (6, true) }) (v := ?voxa8) rfl (by kernel_rfl) (by kernel_rfl) (by kernel_rfl) (fun _ _ _ h => h) (Or.inl ⟨by rfl, ?yoxa8⟩) hS ?roxa8
    case yoxa8 => (intro w hS; go_simp; try with_reducible rfl)
    refine wpAnyH_take (i := 11) (oi := { dst := some 34, op := Op.binOp BinOp.eql 26 (Operand.tmp 32) (Operand.tmp 33) 26, type := 4, pos := "law.go:90", after := #[{ on := 9, ground := Ground.data }, { on := 10, ground := Ground.data }, { on := 6, ground := Ground.guard }], guard := some (6, true) }) (v := ?voxa11) rfl (by kernel_rfl) (by kernel_rfl) (by kernel_rfl) (fun _ _ _ h => h) (Or.inl ⟨by rfl, ?yoxa11⟩) hS ?roxa11
    case yoxa11 => (intro w hS; go_simp; try with_reducible rfl)
    go_simp
    refine wpAnyH_take (i := 12) (oi := { dst := some 35, op := Op.binOp BinOp.eql 4 (Operand.tmp 31) (Operand.tmp 34) 4, type := 4, pos := "law.go:90", after := #[{ on := 8, ground := Ground.data }, { on := 11, ground := Ground.data }, { on := 6, ground := Ground.guard }], guard := some (6, true) }) (v := ?voxa12) rfl (by kernel_rfl) (by kernel_rfl) (by kernel_rfl) (fun _ _ _ h => h) (Or.inl ⟨by rfl, ?yoxa12⟩) hS ?roxa12
    case yoxa12 => (intro w hS; go_simp; try with_reducible rfl)
    go_simp
    refine wpAnyH_take (i := 13) (oi := { dst := some 36, op := Op.pick (Operand.tmp 29) (Operand.tmp 35) (Operand.const (Value.bool false)), type := 4, pos := "law.go:90", after := #[{ on := 6, ground := Ground.data }, { on := 12, ground := Ground.data }], guard := none }) (v := ?voxa13) rfl (by kernel_rfl) (by kernel_rfl) (by kernel_rfl) (fun _ _ _ h => h) (Or.inl ⟨by rfl, ?yoxa13⟩) hS ?roxa13
    case yoxa13 => (intro w hS; go_simp; try with_reducible rfl)
    go_simp
    refine wpAnyH_take (i := 14) (oi := { dst := some 37, op := Op.move (Operand.tmp 36), type := 4, pos := "law.go:90", after := #[{ on := 13, ground := Ground.data }, { on := 6, ground := Ground.chain }], guard := none }) (v := ?voxa14) rfl (by kernel_rfl) (by kernel_rfl) (by kernel_rfl) (fun _ _ _ h => h) (Or.inl ⟨by rfl, ?yoxa14⟩) hS ?roxa14
    case yoxa14 => (intro w hS; go_simp; try with_reducible rfl)
    go_simp
    refine wpAnyH_take (i := 15) (oi := { dst := some 38, op := Op.move (Operand.tmp 11), type := 3, pos := "law.go:90", after := #[{ on := 14, ground := Ground.guard }], guard := some (14, true) }) (v := ?voxa15) rfl (by kernel_rfl) (by kernel_rfl) (by kernel_rfl) (fun _ _ _ h => h) (Or.inl ⟨by rfl, ?yoxa15⟩) hS ?roxa15
    case yoxa15 => (intro w hS; go_simp; try with_reducible rfl)
    go_simp
    refine wpAnyH_take (i := 16) (oi := { dst := some 39, op := Op.binOp BinOp.lss 3 (Operand.tmp 38) (Operand.const (Value.int IntKind.i64 0)) 3, type := 4, pos := "law.go:90", after := #[{ on := 15, ground := Ground.data }, { on := 14, ground := Ground.guard }], guard := some (14, true) }) (v := ?voxa16) rfl (by kernel_rfl) (by kernel_rfl) (by kernel_rfl) (fun _ _ _ h => h) (Or.inl ⟨by rfl, ?yoxa16⟩) hS ?roxa16
    case yoxa16 => (intro w hS; go_simp; try with_reducible rfl)
    go_simp
    refine wpAnyH_take (i := 17) (oi := { dst := some 40, op := Op.move (Operand.tmp 39), type := 4, pos := "law.go:90", after := #[{ on := 16, ground := Ground.data }, { on := 14, ground := Ground.chain }, { on := 14, ground := Ground.guard }], guard := some (14, true) }) (v := ?voxa17) rfl (by kernel_rfl) (by kernel_rfl) (by kernel_rfl) (fun _ _ _ h => h) (Or.inl ⟨by rfl, ?yoxa17⟩) hS ?roxa17
    case yoxa17 => (intro w hS; go_simp; try with_reducible rfl)
    go_simp
    refine wpAnyH_take (i := 18) (oi := { dst := some 41, op := Op.load 26 (Operand.tmp 9), type := 26, pos := "law.go:90", after := #[{ on := 17, ground := Ground.guard }], guard := some (17, false) }) (v := undef) rfl (by kernel_rfl) (by kernel_rfl) (by kernel_rfl) (fun _ _ _ h => h) (Or.inr ⟨by rfl, rfl⟩) hS ?roxa18
    refine wpAnyH_take (i := 19) (oi := { dst := some 42, op := Op.load 26 (Operand.tmp 10), type := 26, pos := "law.go:90", after := #[{ on := 17, ground := Ground.guard }], guard := some (17, false) }) (v := undef) rfl (by kernel_rfl) (by kernel_rfl) (by kernel_rfl) (fun _ _ _ h => h) (Or.inr ⟨by rfl, rfl⟩) hS ?roxa19
    go_simp
    refine wpAnyH_take (i := 20) (oi := { dst := some 43, op := Op.call { callee := Callee.value (Operand.func 20), args := #[Operand.tmp 41, Operand.tmp 42], argTypes := #[26, 26] }, type := 3, pos := "law.go:90", after := #[{ on := 18, ground := Ground.data }, { on := 19, ground := Ground.data }, { on := 17, ground := Ground.chain }, { on := 17, ground := Ground.guard }], guard := some (17, false) }) (v := undef) rfl (by kernel_rfl) (by kernel_rfl) (by kernel_rfl) (fun _ _ _ h => h) (Or.inr ⟨by rfl, rfl⟩) hS ?roxa20
    go_simp
    refine wpAnyH_take (i := 21) (oi := { dst := some 44, op := Op.binOp BinOp.lss 3 (Operand.tmp 43) (Operand.const (Value.int IntKind.i64 0)) 3, type := 4, pos := "law.go:90", after := #[{ on := 20, ground := Ground.data }, { on := 17, ground := Ground.guard }], guard := some (17, false) }) (v := undef) rfl (by kernel_rfl) (by kernel_rfl) (by kernel_rfl) (fun _ _ _ h => h) (Or.inr ⟨by rfl, rfl⟩) hS ?roxa21
    go_simp
    refine wpAnyH_take (i := 22) (oi := { dst := some 45, op := Op.pick (Operand.tmp 40) (Operand.const (Value.bool true)) (Operand.tmp 44), type := 4, pos := "law.go:90", after := #[{ on := 17, ground := Ground.data }, { on := 21, ground := Ground.data }, { on := 14, ground := Ground.guard }], guard := some (14, true) }) (v := ?voxa22) rfl (by kernel_rfl) (by kernel_rfl) (by kernel_rfl) (fun _ _ _ h => h) (Or.inl ⟨by rfl, ?yoxa22⟩) hS ?roxa22
    case yoxa22 => (intro w hS; go_simp; try with_reducible rfl)
    go_simp
    refine wpAnyH_take (i := 23) (oi := { dst := some 46, op := Op.move (Operand.tmp 45), type := 4, pos := "law.go:90", after := #[{ on := 22, ground := Ground.data }, { on := 20, ground := Ground.chain }, { on := 14, ground := Ground.guard }], guard := some (14, true) }) (v := ?voxa23) rfl (by kernel_rfl) (by kernel_rfl) (by kernel_rfl) (fun _ _ _ h => h) (Or.inl ⟨by rfl, ?yoxa23⟩) hS ?roxa23
    case yoxa23 => (intro w hS; go_simp; try with_reducible rfl)
    go_simp
    refine wpAnyH_take (i := 24) (oi := { dst := some 47, op := Op.load 26 (Operand.tmp 8), type := 26, pos := "law.go:90", after := #[{ on := 23, ground := Ground.guard }], guard := some (23, false) }) (v := undef) rfl (by kernel_rfl) (by kernel_rfl) (by kernel_rfl) (fun _ _ _ h => h) (Or.inr ⟨by rfl, rfl⟩) hS ?roxa24
    refine wpAnyH_take (i := 25) (oi := { dst := some 48, op := Op.load 26 (Operand.tmp 10), type := 26, pos := "law.go:90", after := #[{ on := 23, ground := Ground.guard }], guard := some (23, false) }) (v := undef) rfl (by kernel_rfl) (by kernel_rfl) (by kernel_rfl) (fun _ _ _ h => h) (Or.inr ⟨by rfl, rfl⟩) hS ?roxa25
    go_simp
    refine wpAnyH_take (i := 26) (oi := { dst := some 49, op := Op.call { callee := Callee.value (Operand.func 20), args := #[Operand.tmp 47, Operand.tmp 48], argTypes := #[26, 26] }, type := 3, pos := "law.go:90", after := #[{ on := 24, ground := Ground.data }, { on := 25, ground := Ground.data }, { on := 23, ground := Ground.chain }, { on := 23, ground := Ground.guard }], guard := some (23, false) }) (v := undef) rfl (by kernel_rfl) (by kernel_rfl) (by kernel_rfl) (fun _ _ _ h => h) (Or.inr ⟨by rfl, rfl⟩) hS ?roxa26
    go_simp
    refine wpAnyH_take (i := 27) (oi := { dst := some 50, op := Op.binOp BinOp.geq 3 (Operand.tmp 49) (Operand.const (Value.int IntKind.i64 0)) 3, type := 4, pos := "law.go:90", after := #[{ on := 26, ground := Ground.data }, { on := 23, ground := Ground.guard }], guard := some (23, false) }) (v := undef) rfl (by kernel_rfl) (by kernel_rfl) (by kernel_rfl) (fun _ _ _ h => h) (Or.inr ⟨by rfl, rfl⟩) hS ?roxa27
    go_simp
    refine wpAnyH_take (i := 28) (oi := { dst := some 51, op := Op.pick (Operand.tmp 46) (Operand.const (Value.bool true)) (Operand.tmp 50), type := 4, pos := "law.go:90", after := #[{ on := 23, ground := Ground.data }, { on := 27, ground := Ground.data }, { on := 14, ground := Ground.guard }], guard := some (14, true) }) (v := ?voxa28) rfl (by kernel_rfl) (by kernel_rfl) (by kernel_rfl) (fun _ _ _ h => h) (Or.inl ⟨by rfl, ?yoxa28⟩) hS ?roxa28
    case yoxa28 => (intro w hS; go_simp; try with_reducible rfl)
    go_simp
    refine wpAnyH_take (i := 29) (oi := { dst := some 52, op := Op.pick (Operand.tmp 37) (Operand.tmp 51) (Operand.const (Value.bool false)), type := 4, pos := "law.go:90", after := #[{ on := 14, ground := Ground.data }, { on := 28, ground := Ground.data }], guard := none }) (v := ?voxa29) rfl (by kernel_rfl) (by kernel_rfl) (by kernel_rfl) (fun _ _ _ h => h) (Or.inl ⟨by rfl, ?yoxa29⟩) hS ?roxa29
    case yoxa29 => (intro w hS; go_simp; try with_reducible rfl)
    go_simp
    refine wpAnyH_take (i := 30) (oi := { dst := some 53, op := Op.move (Operand.tmp 52), type := 4, pos := "law.go:90", after := #[{ on := 29, ground := Ground.data }, { on := 26, ground := Ground.chain }], guard := none }) (v := ?voxa30) rfl (by kernel_rfl) (by kernel_rfl) (by kernel_rfl) (fun _ _ _ h => h) (Or.inl ⟨by rfl, ?yoxa30⟩) hS ?roxa30
    case yoxa30 => (intro w hS; go_simp; try with_reducible rfl)
    go_simp
    refine wpAnyH_take (i := 31) (oi := { dst := some 54, op := Op.load 26 (Operand.tmp 8), type := 26, pos := "law.go:90", after := #[{ on := 30, ground := Ground.guard }], guard := some (30, true) }) (v := .agg (qcells a)) rfl (by kernel_rfl) (by kernel_rfl) (by kernel_rfl) (fun _ _ _ h => h) (Or.inl ⟨by rfl, ?yoxa31⟩) hS ?roxa31
    case yoxa31 => exact fun w' hS => exec_load_row w' 26 (.tmp 8) rfl p3 (by first | rfl | (simp [Act.eval])) 26 (qcells a) (0, 0) _ (hS.row (by simp)) Tryz.underlying26 rfl info26.out
    refine wpAnyH_take (i := 32) (oi := { dst := some 55, op := Op.load 26 (Operand.tmp 10), type := 26, pos := "law.go:90", after := #[{ on := 30, ground := Ground.guard }], guard := some (30, true) }) (v := .agg (qcells c)) rfl (by kernel_rfl) (by kernel_rfl) (by kernel_rfl) (fun _ _ _ h => h) (Or.inl ⟨by rfl, ?yoxa32⟩) hS ?roxa32
    case yoxa32 => exact fun w' hS => exec_load_row w' 26 (.tmp 10) rfl p7 (by first | rfl | (simp [Act.eval])) 26 (qcells c) (0, 0) _ (hS.row (by simp)) Tryz.underlying26 rfl info26.out
    refine wpAnyH_take (i := 34) (oi := { dst := some 57, op := Op.load 26 (Operand.tmp 9), type := 26, pos := "law.go:90", after := #[{ on := 30, ground := Ground.guard }], guard := some (30, true) }) (v := .agg (qcells b)) rfl (by kernel_rfl) (by kernel_rfl) (by kernel_rfl) (fun _ _ _ h => h) (Or.inl ⟨by rfl, ?yoxa34⟩) hS ?roxa34
    case yoxa34 => exact fun w' hS => exec_load_row w' 26 (.tmp 9) rfl p5 (by first | rfl | (simp [Act.eval])) 26 (qcells b) (0, 0) _ (hS.row (by simp)) Tryz.underlying26 rfl info26.out
    refine wpAnyH_take (i := 35) (oi := { dst := some 58, op := Op.load 26 (Operand.tmp 10), type := 26, pos := "law.go:90", after := #[{ on := 30, ground := Ground.guard }], guard := some (30, true) }) (v := .agg (qcells c)) rfl (by kernel_rfl) (by kernel_rfl) (by kernel_rfl) (fun _ _ _ h => h) (Or.inl ⟨by rfl, ?yoxa35⟩) hS ?roxa35
    case yoxa35 => exact fun w' hS => exec_load_row w' 26 (.tmp 10) rfl p7 (by first | rfl | (simp [Act.eval])) 26 (qcells c) (0, 0) _ (hS.row (by simp)) Tryz.underlying26 rfl info26.out
    refine wpAnyH_take (i := 38) (oi := { dst := some 61, op := Op.move (Operand.tmp 11), type := 3, pos := "law.go:90", after := #[{ on := 30, ground := Ground.guard }], guard := some (30, true) }) (v := ?voxa38) rfl (by kernel_rfl) (by kernel_rfl) (by kernel_rfl) (fun _ _ _ h => h) (Or.inl ⟨by rfl, ?yoxa38⟩) hS ?roxa38
    case yoxa38 => (intro w hS; go_simp; try with_reducible rfl)
    go_simp
    refine wpAnyH_ready (rs := [33]) (by kernel_rfl) (by simp) ?_
    refine AllReadyH.cons (o := { dst := some 56, op := Op.call { callee := Callee.value (Operand.func 14), args := #[Operand.tmp 54, Operand.tmp 55], argTypes := #[26, 26] }, type := 26, pos := "law.go:90", after := #[{ on := 31, ground := Ground.data }, { on := 32, ground := Ground.data }, { on := 30, ground := Ground.chain }, { on := 30, ground := Ground.guard }], guard := some (30, true) }) rfl (fun K hK => ?_) AllReadyH.nil
    go_simp
    go_at_call 14
    refine (H6.out.2.2.2.1 _ hS.t).mono ?_
    rintro e w' ⟨rfl, b⟩
    have hS2 := hS.next b
    clear b hS
    try go_simp
    refine hK.out _ _ hS2 (fun hS => ?_)
    clear hK K hS2
    refine wpAnyH_ready (rs := [36]) (by kernel_rfl) (by simp) ?_
    refine AllReadyH.cons (o := { dst := some 59, op := Op.call { callee := Callee.value (Operand.func 14), args := #[Operand.tmp 57, Operand.tmp 58], argTypes := #[26, 26] }, type := 26, pos := "law.go:90", after := #[{ on := 34, ground := Ground.data }, { on := 35, ground := Ground.data }, { on := 33, ground := Ground.chain }, { on := 30, ground := Ground.guard }], guard := some (30, true) }) rfl (fun K hK => ?_) AllReadyH.nil
    go_simp
    go_at_call 14
    refine (H6.out.2.2.2.2.1 _ hS.t).mono ?_
    rintro e w' ⟨rfl, b⟩
    have hS2 := hS.next b
    clear b hS
    try go_simp
    refine hK.out _ _ hS2 (fun hS => ?_)
    clear hK K hS2
    refine wpAnyH_ready (rs := [37]) (by kernel_rfl) (by simp) ?_
    refine AllReadyH.cons (o := { dst := some 60, op := Op.call { callee := Callee.value (Operand.func 20), args := #[Operand.tmp 56, Operand.tmp 59], argTypes := #[26, 26] }, type := 3, pos := "law.go:90", after := #[{ on := 33, ground := Ground.data }, { on := 36, ground := Ground.data }, { on := 36, ground := Ground.chain }, { on := 30, ground := Ground.guard }], guard := some (30, true) }) rfl (fun K hK => ?_) AllReadyH.nil
    go_simp
    go_at_call 20
    refine (H6.out.2.2.2.2.2 _ hS.t).mono ?_
    rintro e w' ⟨rfl, b⟩
    have hS2 := hS.next b
    clear b hS
    try go_simp
    refine hK.out _ _ hS2 (fun hS => ?_)
    clear hK K hS2
    refine wpAnyH_take (i := 39) (oi := { dst := some 62, op := Op.binOp BinOp.eql 3 (Operand.tmp 60) (Operand.tmp 61) 3, type := 4, pos := "law.go:90", after := #[{ on := 37, ground := Ground.data }, { on := 38, ground := Ground.data }, { on := 30, ground := Ground.guard }], guard := some (30, true) }) (v := ?voxa39) rfl (by kernel_rfl) (by kernel_rfl) (by kernel_rfl) (fun _ _ _ h => h) (Or.inl ⟨by rfl, ?yoxa39⟩) hS ?roxa39
    case yoxa39 => (intro w hS; go_simp; try with_reducible rfl)
    go_simp
    refine wpAnyH_take (i := 40) (oi := { dst := some 63, op := Op.pick (Operand.tmp 53) (Operand.tmp 62) (Operand.const (Value.bool false)), type := 4, pos := "law.go:90", after := #[{ on := 30, ground := Ground.data }, { on := 39, ground := Ground.data }], guard := none }) (v := ?voxa40) rfl (by kernel_rfl) (by kernel_rfl) (by kernel_rfl) (fun _ _ _ h => h) (Or.inl ⟨by rfl, ?yoxa40⟩) hS ?roxa40
    case yoxa40 => (intro w hS; go_simp; try with_reducible rfl)
    go_simp
    refine wpAnyH_take (i := 41) (oi := { dst := some 12, op := Op.assign (Operand.tmp 63), type := 4, pos := "law.go:90", after := #[{ on := 40, ground := Ground.data }, { on := 37, ground := Ground.chain }, { on := 0, ground := Ground.phase }, { on := 1, ground := Ground.phase }, { on := 2, ground := Ground.phase }, { on := 3, ground := Ground.phase }, { on := 4, ground := Ground.phase }, { on := 5, ground := Ground.phase }, { on := 6, ground := Ground.phase }, { on := 7, ground := Ground.phase }, { on := 8, ground := Ground.phase }, { on := 9, ground := Ground.phase }, { on := 10, ground := Ground.phase }, { on := 11, ground := Ground.phase }, { on := 12, ground := Ground.phase }, { on := 13, ground := Ground.phase }, { on := 14, ground := Ground.phase }, { on := 15, ground := Ground.phase }, { on := 16, ground := Ground.phase }, { on := 17, ground := Ground.phase }, { on := 18, ground := Ground.phase }, { on := 19, ground := Ground.phase }, { on := 20, ground := Ground.phase }, { on := 21, ground := Ground.phase }, { on := 22, ground := Ground.phase }, { on := 23, ground := Ground.phase }, { on := 24, ground := Ground.phase }, { on := 25, ground := Ground.phase }, { on := 26, ground := Ground.phase }, { on := 27, ground := Ground.phase }, { on := 28, ground := Ground.phase }, { on := 29, ground := Ground.phase }, { on := 30, ground := Ground.phase }, { on := 31, ground := Ground.phase }, { on := 32, ground := Ground.phase }, { on := 33, ground := Ground.phase }, { on := 34, ground := Ground.phase }, { on := 35, ground := Ground.phase }, { on := 36, ground := Ground.phase }, { on := 37, ground := Ground.phase }, { on := 38, ground := Ground.phase }, { on := 39, ground := Ground.phase }, { on := 40, ground := Ground.phase }], guard := none }) (v := ?voxa41) rfl (by kernel_rfl) (by kernel_rfl) (by kernel_rfl) (fun _ _ _ h => h) (Or.inl ⟨by rfl, ?yoxa41⟩) hS ?roxa41
    case yoxa41 => (intro w hS; go_simp; try with_reducible rfl)
    refine wpAnyH_done (by kernel_rfl) ?_ _
    have HR6 := Lib.hid hS
    clear hS W1 W1b E1 e0 hx
    go_upto_region 7 with fail
    have W2 := HI.out.2.2.2.2.1
    have W2b := HI.out.2.2.2.2.2
    refine wp_region_held_drew (S := KB w [(p7, qcells c), (p5, qcells b), (p3, qcells a)]) (by kernel_rfl) HR6.out.drew (fun hS => ?_)
    clear HR6
    refine wpAnyH_take (i := 0) (oi := { dst := some 64, op := Op.move (Operand.tmp 7), type := 4, pos := "law.go:91", after := #[], guard := none }) (v := ?voxb0) rfl (by kernel_rfl) (by kernel_rfl) (by kernel_rfl) (fun _ _ _ h => h) (Or.inl ⟨by rfl, ?yoxb0⟩) hS ?roxb0
    case yoxb0 => (intro w hS; go_simp; try with_reducible rfl)
    go_simp
    refine wpAnyH_take (i := 1) (oi := { dst := some 65, op := Op.move (Operand.tmp 64), type := 4, pos := "law.go:91", after := #[{ on := 0, ground := Ground.data }], guard := none }) (v := ?voxb1) rfl (by kernel_rfl) (by kernel_rfl) (by kernel_rfl) (fun _ _ _ h => h) (Or.inl ⟨by rfl, ?yoxb1⟩) hS ?roxb1
    case yoxb1 => (intro w hS; go_simp; try with_reducible rfl)
    go_simp
    refine wpAnyH_take (i := 2) (oi := { dst := some 66, op := Op.move (Operand.tmp 12), type := 4, pos := "law.go:91", after := #[{ on := 1, ground := Ground.guard }], guard := some (1, true) }) (v := ?voxb2) rfl (by kernel_rfl) (by kernel_rfl) (by kernel_rfl) (fun _ _ _ h => h) (Or.inl ⟨by rfl, ?yoxb2⟩) hS ?roxb2
    case yoxb2 => (intro w hS; go_simp; try with_reducible rfl)
    go_simp
    refine wpAnyH_take (i := 3) (oi := { dst := some 67, op := Op.pick (Operand.tmp 65) (Operand.tmp 66) (Operand.const (Value.bool false)), type := 4, pos := "law.go:91", after := #[{ on := 1, ground := Ground.data }, { on := 2, ground := Ground.data }], guard := none }) (v := ?voxb3) rfl (by kernel_rfl) (by kernel_rfl) (by kernel_rfl) (fun _ _ _ h => h) (Or.inl ⟨by rfl, ?yoxb3⟩) hS ?roxb3
    case yoxb3 => (intro w hS; go_simp; try with_reducible rfl)
    go_simp
    refine wpAnyH_take (i := 4) (oi := { dst := some 68, op := Op.move (Operand.tmp 67), type := 4, pos := "law.go:91", after := #[{ on := 3, ground := Ground.data }, { on := 1, ground := Ground.chain }], guard := none }) (v := ?voxb4) rfl (by kernel_rfl) (by kernel_rfl) (by kernel_rfl) (fun _ _ _ h => h) (Or.inl ⟨by rfl, ?yoxb4⟩) hS ?roxb4
    case yoxb4 => (intro w hS; go_simp; try with_reducible rfl)
    go_simp
    refine wpAnyH_take (i := 5) (oi := { dst := some 69, op := Op.load 26 (Operand.tmp 8), type := 26, pos := "law.go:91", after := #[{ on := 4, ground := Ground.guard }], guard := some (4, true) }) (v := .agg (qcells a)) rfl (by kernel_rfl) (by kernel_rfl) (by kernel_rfl) (fun _ _ _ h => h) (Or.inl ⟨by rfl, ?yoxb5⟩) hS ?roxb5
    case yoxb5 => exact fun w' hS => exec_load_row w' 26 (.tmp 8) rfl p3 (by first | rfl | (simp [Act.eval])) 26 (qcells a) (0, 0) _ (hS.row (by simp)) Tryz.underlying26 rfl info26.out
    refine wpAnyH_take (i := 6) (oi := { dst := some 70, op := Op.load 26 (Operand.tmp 10), type := 26, pos := "law.go:91", after := #[{ on := 4, ground := Ground.guard }], guard := some (4, true) }) (v := .agg (qcells c)) rfl (by kernel_rfl) (by kernel_rfl) (by kernel_rfl) (fun _ _ _ h => h) (Or.inl ⟨by rfl, ?yoxb6⟩) hS ?roxb6
    case yoxb6 => exact fun w' hS => exec_load_row w' 26 (.tmp 10) rfl p7 (by first | rfl | (simp [Act.eval])) 26 (qcells c) (0, 0) _ (hS.row (by simp)) Tryz.underlying26 rfl info26.out
    refine wpAnyH_take (i := 8) (oi := { dst := some 72, op := Op.load 26 (Operand.tmp 9), type := 26, pos := "law.go:91", after := #[{ on := 4, ground := Ground.guard }], guard := some (4, true) }) (v := .agg (qcells b)) rfl (by kernel_rfl) (by kernel_rfl) (by kernel_rfl) (fun _ _ _ h => h) (Or.inl ⟨by rfl, ?yoxb8⟩) hS ?roxb8
    case yoxb8 => exact fun w' hS => exec_load_row w' 26 (.tmp 9) rfl p5 (by first | rfl | (simp [Act.eval])) 26 (qcells b) (0, 0) _ (hS.row (by simp)) Tryz.underlying26 rfl info26.out
    refine wpAnyH_take (i := 9) (oi := { dst := some 73, op := Op.load 26 (Operand.tmp 10), type := 26, pos := "law.go:91", after := #[{ on := 4, ground := Ground.guard }], guard := some (4, true) }) (v := .agg (qcells c)) rfl (by kernel_rfl) (by kernel_rfl) (by kernel_rfl) (fun _ _ _ h => h) (Or.inl ⟨by rfl, ?yoxb9⟩) hS ?roxb9
    case yoxb9 => exact fun w' hS => exec_load_row w' 26 (.tmp 10) rfl p7 (by first | rfl | (simp [Act.eval])) 26 (qcells c) (0, 0) _ (hS.row (by simp)) Tryz.underlying26 rfl info26.out
    refine wpAnyH_take (i := 12) (oi := { dst := some 76, op := Op.move (Operand.tmp 11), type := 3, pos := "law.go:91", after := #[{ on := 4, ground := Ground.guard }], guard := some (4, true) }) (v := ?voxb12) rfl (by kernel_rfl) (by kernel_rfl) (by kernel_rfl) (fun _ _ _ h => h) (Or.inl ⟨by rfl, ?yoxb12⟩) hS ?roxb12
    case yoxb12 => (intro w hS; go_simp; try with_reducible rfl)
    refine wpAnyH_take (i := 13) (oi := { dst := some 77, op := Op.load 26 (Operand.tmp 10), type := 26, pos := "law.go:91", after := #[{ on := 4, ground := Ground.guard }], guard := some (4, true) }) (v := .agg (qcells c)) rfl (by kernel_rfl) (by kernel_rfl) (by kernel_rfl) (fun _ _ _ h => h) (Or.inl ⟨by rfl, ?yoxb13⟩) hS ?roxb13
    case yoxb13 => exact fun w' hS => exec_load_row w' 26 (.tmp 10) rfl p7 (by first | rfl | (simp [Act.eval])) 26 (qcells c) (0, 0) _ (hS.row (by simp)) Tryz.underlying26 rfl info26.out
    go_simp
    refine wpAnyH_ready (rs := [7]) (by kernel_rfl) (by simp) ?_
    refine AllReadyH.cons (o := { dst := some 71, op := Op.call { callee := Callee.value (Operand.func 18), args := #[Operand.tmp 69, Operand.tmp 70], argTypes := #[26, 26] }, type := 26, pos := "law.go:91", after := #[{ on := 5, ground := Ground.data }, { on := 6, ground := Ground.data }, { on := 4, ground := Ground.chain }, { on := 4, ground := Ground.guard }], guard := some (4, true) }) rfl (fun K hK => ?_) AllReadyH.nil
    go_simp
    go_at_call 18
    refine (H7.out.1 _ hS.t).mono ?_
    rintro e w' ⟨rfl, b⟩
    have hS2 := hS.next b
    clear b hS
    try go_simp
    refine hK.out _ _ hS2 (fun hS => ?_)
    clear hK K hS2
    refine wpAnyH_ready (rs := [10]) (by kernel_rfl) (by simp) ?_
    refine AllReadyH.cons (o := { dst := some 74, op := Op.call { callee := Callee.value (Operand.func 18), args := #[Operand.tmp 72, Operand.tmp 73], argTypes := #[26, 26] }, type := 26, pos := "law.go:91", after := #[{ on := 8, ground := Ground.data }, { on := 9, ground := Ground.data }, { on := 7, ground := Ground.chain }, { on := 4, ground := Ground.guard }], guard := some (4, true) }) rfl (fun K hK => ?_) AllReadyH.nil
    go_simp
    go_at_call 18
    refine (H7.out.2.1 _ hS.t).mono ?_
    rintro e w' ⟨rfl, b⟩
    have hS2 := hS.next b
    clear b hS
    try go_simp
    refine hK.out _ _ hS2 (fun hS => ?_)
    clear hK K hS2
    refine wpAnyH_ready (rs := [11]) (by kernel_rfl) (by simp) ?_
    refine AllReadyH.cons (o := { dst := some 75, op := Op.call { callee := Callee.value (Operand.func 20), args := #[Operand.tmp 71, Operand.tmp 74], argTypes := #[26, 26] }, type := 3, pos := "law.go:91", after := #[{ on := 7, ground := Ground.data }, { on := 10, ground := Ground.data }, { on := 10, ground := Ground.chain }, { on := 4, ground := Ground.guard }], guard := some (4, true) }) rfl (fun K hK => ?_) AllReadyH.nil
    go_simp
    go_at_call 20
    refine (H7.out.2.2.1 _ hS.t).mono ?_
    rintro e w' ⟨rfl, b⟩
    have hS2 := hS.next b
    clear b hS
    try go_simp
    refine hK.out _ _ hS2 (fun hS => ?_)
    clear hK K hS2
    refine wpAnyH_ready (rs := [14]) (by kernel_rfl) (by simp) ?_
    refine AllReadyH.cons (o := { dst := some 78, op := Op.call { callee := Callee.value (Operand.func 22), args := #[Operand.tmp 77], argTypes := #[26] }, type := 3, pos := "law.go:91", after := #[{ on := 13, ground := Ground.data }, { on := 11, ground := Ground.chain }, { on := 4, ground := Ground.guard }], guard := some (4, true) }) rfl (fun K hK => ?_) AllReadyH.nil
    go_simp
    go_at_call 22
    refine (H7.out.2.2.2.1 _ hS.t).mono ?_
    rintro e w' ⟨rfl, b⟩
    have hS2 := hS.next b
    clear b hS
    try go_simp
    refine hK.out _ _ hS2 (fun hS => ?_)
    clear hK K hS2
    refine wpAnyH_take (i := 15) (oi := { dst := some 79, op := Op.binOp BinOp.mul 3 (Operand.tmp 76) (Operand.tmp 78) 3, type := 3, pos := "law.go:91", after := #[{ on := 12, ground := Ground.data }, { on := 14, ground := Ground.data }, { on := 4, ground := Ground.guard }], guard := some (4, true) }) (v := ?voxb15) rfl (by kernel_rfl) (by kernel_rfl) (by kernel_rfl) (fun _ _ _ h => h) (Or.inl ⟨by rfl, ?yoxb15⟩) hS ?roxb15
    case yoxb15 => (intro w hS; go_simp; try with_reducible rfl)
    go_simp
    refine wpAnyH_take (i := 16) (oi := { dst := some 80, op := Op.binOp BinOp.eql 3 (Operand.tmp 75) (Operand.tmp 79) 3, type := 4, pos := "law.go:91", after := #[{ on := 11, ground := Ground.data }, { on := 15, ground := Ground.data }, { on := 4, ground := Ground.guard }], guard := some (4, true) }) (v := ?voxb16) rfl (by kernel_rfl) (by kernel_rfl) (by kernel_rfl) (fun _ _ _ h => h) (Or.inl ⟨by rfl, ?yoxb16⟩) hS ?roxb16
    case yoxb16 => (intro w hS; go_simp; try with_reducible rfl)
    go_simp
    refine wpAnyH_take (i := 17) (oi := { dst := some 81, op := Op.pick (Operand.tmp 68) (Operand.tmp 80) (Operand.const (Value.bool false)), type := 4, pos := "law.go:91", after := #[{ on := 4, ground := Ground.data }, { on := 16, ground := Ground.data }], guard := none }) (v := ?voxb17) rfl (by kernel_rfl) (by kernel_rfl) (by kernel_rfl) (fun _ _ _ h => h) (Or.inl ⟨by rfl, ?yoxb17⟩) hS ?roxb17
    case yoxb17 => (intro w hS; go_simp; try with_reducible rfl)
    go_simp
    refine wpAnyH_take (i := 18) (oi := { dst := some 82, op := Op.move (Operand.tmp 81), type := 4, pos := "law.go:91", after := #[{ on := 17, ground := Ground.data }, { on := 14, ground := Ground.chain }], guard := none }) (v := ?voxb18) rfl (by kernel_rfl) (by kernel_rfl) (by kernel_rfl) (fun _ _ _ h => h) (Or.inl ⟨by rfl, ?yoxb18⟩) hS ?roxb18
    case yoxb18 => (intro w hS; go_simp; try with_reducible rfl)
    go_simp
    refine wpAnyH_take (i := 19) (oi := { dst := some 83, op := Op.load 26 (Operand.tmp 8), type := 26, pos := "law.go:91", after := #[{ on := 18, ground := Ground.guard }], guard := some (18, true) }) (v := .agg (qcells a)) rfl (by kernel_rfl) (by kernel_rfl) (by kernel_rfl) (fun _ _ _ h => h) (Or.inl ⟨by rfl, ?yoxb19⟩) hS ?roxb19
    case yoxb19 => exact fun w' hS => exec_load_row w' 26 (.tmp 8) rfl p3 (by first | rfl | (simp [Act.eval])) 26 (qcells a) (0, 0) _ (hS.row (by simp)) Tryz.underlying26 rfl info26.out
    refine wpAnyH_take (i := 20) (oi := { dst := some 84, op := Op.load 26 (Operand.tmp 9), type := 26, pos := "law.go:91", after := #[{ on := 18, ground := Ground.guard }], guard := some (18, true) }) (v := .agg (qcells b)) rfl (by kernel_rfl) (by kernel_rfl) (by kernel_rfl) (fun _ _ _ h => h) (Or.inl ⟨by rfl, ?yoxb20⟩) hS ?roxb20
    case yoxb20 => exact fun w' hS => exec_load_row w' 26 (.tmp 9) rfl p5 (by first | rfl | (simp [Act.eval])) 26 (qcells b) (0, 0) _ (hS.row (by simp)) Tryz.underlying26 rfl info26.out
    refine wpAnyH_take (i := 23) (oi := { dst := some 87, op := Op.move (Operand.tmp 11), type := 3, pos := "law.go:91", after := #[{ on := 18, ground := Ground.guard }], guard := some (18, true) }) (v := ?voxb23) rfl (by kernel_rfl) (by kernel_rfl) (by kernel_rfl) (fun _ _ _ h => h) (Or.inl ⟨by rfl, ?yoxb23⟩) hS ?roxb23
    case yoxb23 => (intro w hS; go_simp; try with_reducible rfl)
    go_simp
    refine wpAnyH_ready (rs := [21]) (by kernel_rfl) (by simp) ?_
    refine AllReadyH.cons (o := { dst := some 85, op := Op.call { callee := Callee.value (Operand.func 16), args := #[Operand.tmp 83, Operand.tmp 84], argTypes := #[26, 26] }, type := 26, pos := "law.go:91", after := #[{ on := 19, ground := Ground.data }, { on := 20, ground := Ground.data }, { on := 18, ground := Ground.chain }, { on := 18, ground := Ground.guard }], guard := some (18, true) }) rfl (fun K hK => ?_) AllReadyH.nil
    go_simp
    go_at_call 16
    refine (H7.out.2.2.2.2.1 _ hS.t).mono ?_
    rintro e w' ⟨rfl, b⟩
    have hS2 := hS.next b
    clear b hS
    try go_simp
    refine hK.out _ _ hS2 (fun hS => ?_)
    clear hK K hS2
    refine wpAnyH_ready (rs := [22]) (by kernel_rfl) (by simp) ?_
    refine AllReadyH.cons (o := { dst := some 86, op := Op.call { callee := Callee.value (Operand.func 22), args := #[Operand.tmp 85], argTypes := #[26] }, type := 3, pos := "law.go:91", after := #[{ on := 21, ground := Ground.data }, { on := 21, ground := Ground.chain }, { on := 18, ground := Ground.guard }], guard := some (18, true) }) rfl (fun K hK => ?_) AllReadyH.nil
    go_simp
    go_at_call 22
    refine (H7.out.2.2.2.2.2.1 _ hS.t).mono ?_
    rintro e w' ⟨rfl, b⟩
    have hS2 := hS.next b
    clear b hS
    try go_simp
    refine hK.out _ _ hS2 (fun hS => ?_)
    clear hK K hS2
    refine wpAnyH_take (i := 24) (oi := { dst := some 88, op := Op.binOp BinOp.eql 3 (Operand.tmp 86) (Operand.tmp 87) 3, type := 4, pos := "law.go:91", after := #[{ on := 22, ground := Ground.data }, { on := 23, ground := Ground.data }, { on := 18, ground := Ground.guard }], guard := some (18, true) }) (v := ?voxb24) rfl (by kernel_rfl) (by kernel_rfl) (by kernel_rfl) (fun _ _ _ h => h) (Or.inl ⟨by rfl, ?yoxb24⟩) hS ?roxb24
    case yoxb24 => (intro w hS; go_simp; try with_reducible rfl)
    go_simp
    refine wpAnyH_take (i := 25) (oi := { dst := some 89, op := Op.pick (Operand.tmp 82) (Operand.tmp 88) (Operand.const (Value.bool false)), type := 4, pos := "law.go:91", after := #[{ on := 18, ground := Ground.data }, { on := 24, ground := Ground.data }], guard := none }) (v := ?voxb25) rfl (by kernel_rfl) (by kernel_rfl) (by kernel_rfl) (fun _ _ _ h => h) (Or.inl ⟨by rfl, ?yoxb25⟩) hS ?roxb25
    case yoxb25 => (intro w hS; go_simp; try with_reducible rfl)
    go_simp
    refine wpAnyH_take (i := 26) (oi := { dst := some 90, op := Op.move (Operand.tmp 89), type := 4, pos := "law.go:91", after := #[{ on := 25, ground := Ground.data }, { on := 22, ground := Ground.chain }], guard := none }) (v := ?voxb26) rfl (by kernel_rfl) (by kernel_rfl) (by kernel_rfl) (fun _ _ _ h => h) (Or.inl ⟨by rfl, ?yoxb26⟩) hS ?roxb26
    case yoxb26 => (intro w hS; go_simp; try with_reducible rfl)
    go_simp
    refine wpAnyH_take (i := 27) (oi := { dst := some 91, op := Op.load 26 (Operand.tmp 8), type := 26, pos := "law.go:91", after := #[{ on := 26, ground := Ground.guard }], guard := some (26, true) }) (v := .agg (qcells a)) rfl (by kernel_rfl) (by kernel_rfl) (by kernel_rfl) (fun _ _ _ h => h) (Or.inl ⟨by rfl, ?yoxb27⟩) hS ?roxb27
    case yoxb27 => exact fun w' hS => exec_load_row w' 26 (.tmp 8) rfl p3 (by first | rfl | (simp [Act.eval])) 26 (qcells a) (0, 0) _ (hS.row (by simp)) Tryz.underlying26 rfl info26.out
    refine wpAnyH_take (i := 29) (oi := { dst := some 93, op := Op.load 26 (Operand.tmp 8), type := 26, pos := "law.go:91", after := #[{ on := 26, ground := Ground.guard }], guard := some (26, true) }) (v := .agg (qcells a)) rfl (by kernel_rfl) (by kernel_rfl) (by kernel_rfl) (fun _ _ _ h => h) (Or.inl ⟨by rfl, ?yoxb29⟩) hS ?roxb29
    case yoxb29 => exact fun w' hS => exec_load_row w' 26 (.tmp 8) rfl p3 (by first | rfl | (simp [Act.eval])) 26 (qcells a) (0, 0) _ (hS.row (by simp)) Tryz.underlying26 rfl info26.out
    go_simp
    refine wpAnyH_ready (rs := [28]) (by kernel_rfl) (by simp) ?_
    refine AllReadyH.cons (o := { dst := some 92, op := Op.call { callee := Callee.value (Operand.func 22), args := #[Operand.tmp 91], argTypes := #[26] }, type := 3, pos := "law.go:91", after := #[{ on := 27, ground := Ground.data }, { on := 26, ground := Ground.chain }, { on := 26, ground := Ground.guard }], guard := some (26, true) }) rfl (fun K hK => ?_) AllReadyH.nil
    go_simp
    go_at_call 22
    refine (H7.out.2.2.2.2.2.2.1 _ hS.t).mono ?_
    rintro e w' ⟨rfl, b⟩
    have hS2 := hS.next b
    clear b hS
    try go_simp
    refine hK.out _ _ hS2 (fun hS => ?_)
    clear hK K hS2
    refine wpAnyH_ready (rs := [30]) (by kernel_rfl) (by simp) ?_
    refine AllReadyH.cons (o := { dst := some 94, op := Op.call { callee := Callee.value (Operand.func 36), args := #[Operand.const (Value.int IntKind.i64 0)], argTypes := #[3] }, type := 26, pos := "law.go:91", after := #[{ on := 28, ground := Ground.chain }, { on := 26, ground := Ground.guard }], guard := some (26, true) }) rfl (fun K hK => ?_) AllReadyH.nil
    go_simp
    go_at_call 36
    refine (H7.out.2.2.2.2.2.2.2.1 _).mono ?_
    rintro e w' ⟨rfl, b⟩
    have hS2 := hS.next b
    clear b hS
    try go_simp
    refine hK.out _ _ hS2 (fun hS => ?_)
    clear hK K hS2
    refine wpAnyH_ready (rs := [31]) (by kernel_rfl) (by simp) ?_
    refine AllReadyH.cons (o := { dst := some 95, op := Op.call { callee := Callee.value (Operand.func 20), args := #[Operand.tmp 93, Operand.tmp 94], argTypes := #[26, 26] }, type := 3, pos := "law.go:91", after := #[{ on := 29, ground := Ground.data }, { on := 30, ground := Ground.data }, { on := 30, ground := Ground.chain }, { on := 26, ground := Ground.guard }], guard := some (26, true) }) rfl (fun K hK => ?_) AllReadyH.nil
    go_simp
    go_at_call 20
    refine (H7.out.2.2.2.2.2.2.2.2 _ hS.t).mono ?_
    rintro e w' ⟨rfl, b⟩
    have hS2 := hS.next b
    clear b hS
    try go_simp
    refine hK.out _ _ hS2 (fun hS => ?_)
    clear hK K hS2
    refine wpAnyH_take (i := 32) (oi := { dst := some 96, op := Op.binOp BinOp.eql 3 (Operand.tmp 92) (Operand.tmp 95) 3, type := 4, pos := "law.go:91", after := #[{ on := 28, ground := Ground.data }, { on := 31, ground := Ground.data }, { on := 26, ground := Ground.guard }], guard := some (26, true) }) (v := ?voxb32) rfl (by kernel_rfl) (by kernel_rfl) (by kernel_rfl) (fun _ _ _ h => h) (Or.inl ⟨by rfl, ?yoxb32⟩) hS ?roxb32
    case yoxb32 => (intro w hS; go_simp; try with_reducible rfl)
    go_simp
    refine wpAnyH_take (i := 33) (oi := { dst := some 97, op := Op.pick (Operand.tmp 90) (Operand.tmp 96) (Operand.const (Value.bool false)), type := 4, pos := "law.go:91", after := #[{ on := 26, ground := Ground.data }, { on := 32, ground := Ground.data }], guard := none }) (v := ?voxb33) rfl (by kernel_rfl) (by kernel_rfl) (by kernel_rfl) (fun _ _ _ h => h) (Or.inl ⟨by rfl, ?yoxb33⟩) hS ?roxb33
    case yoxb33 => (intro w hS; go_simp; try with_reducible rfl)
    go_simp
    refine wpAnyH_take (i := 34) (oi := { dst := some 6, op := Op.assign (Operand.tmp 97), type := 4, pos := "law.go:91", after := #[{ on := 33, ground := Ground.data }, { on := 31, ground := Ground.chain }, { on := 0, ground := Ground.phase }, { on := 1, ground := Ground.phase }, { on := 2, ground := Ground.phase }, { on := 3, ground := Ground.phase }, { on := 4, ground := Ground.phase }, { on := 5, ground := Ground.phase }, { on := 6, ground := Ground.phase }, { on := 7, ground := Ground.phase }, { on := 8, ground := Ground.phase }, { on := 9, ground := Ground.phase }, { on := 10, ground := Ground.phase }, { on := 11, ground := Ground.phase }, { on := 12, ground := Ground.phase }, { on := 13, ground := Ground.phase }, { on := 14, ground := Ground.phase }, { on := 15, ground := Ground.phase }, { on := 16, ground := Ground.phase }, { on := 17, ground := Ground.phase }, { on := 18, ground := Ground.phase }, { on := 19, ground := Ground.phase }, { on := 20, ground := Ground.phase }, { on := 21, ground := Ground.phase }, { on := 22, ground := Ground.phase }, { on := 23, ground := Ground.phase }, { on := 24, ground := Ground.phase }, { on := 25, ground := Ground.phase }, { on := 26, ground := Ground.phase }, { on := 27, ground := Ground.phase }, { on := 28, ground := Ground.phase }, { on := 29, ground := Ground.phase }, { on := 30, ground := Ground.phase }, { on := 31, ground := Ground.phase }, { on := 32, ground := Ground.phase }, { on := 33, ground := Ground.phase }], guard := none }) (v := ?voxb34) rfl (by kernel_rfl) (by kernel_rfl) (by kernel_rfl) (fun _ _ _ h => h) (Or.inl ⟨by rfl, ?yoxb34⟩) hS ?roxb34
    case yoxb34 => (intro w hS; go_simp; try with_reducible rfl)
    refine wpAnyH_done (by kernel_rfl) ?_ _
    go_wp2
    go_ret
    exact ⟨rfl, hS.b⟩
  · by_cases hy : yy < 0
    · have HX := Lib.hid (And.intro (decide_eq_false hx) (decide_eq_true hy))
      clear hx hy
      have hx := HX.out.1
      have hy := HX.out.2
      have W1 := HI.out.1
      have W1b := HI.out.2.1
      have E1 := HI.out.2.2.1
      have e0 := HI.out.2.2.2.1
      refine wp_region_held_drew (S := KB w [(p7, qcells c), (p5, qcells b), (p3, qcells a)]) (by kernel_rfl) HS8.out.drew (fun hS => ?_)
      clear HS8
      refine wpAnyH_take (i := 0) (oi := { dst := some 23, op := Op.move (Operand.tmp 11), type := 3, pos := "law.go:90", after := #[], guard := none }) (v := ?voya0) rfl (by kernel_rfl) (by kernel_rfl) (by kernel_rfl) (fun _ _ _ h => h) (Or.inl ⟨by rfl, ?yoya0⟩) hS ?roya0
      case yoya0 => (intro w hS; go_simp; try with_reducible rfl)
      refine wpAnyH_take (i := 1) (oi := { dst := some 24, op := Op.load 26 (Operand.tmp 9), type := 26, pos := "law.go:90", after := #[], guard := none }) (v := .agg (qcells b)) rfl (by kernel_rfl) (by kernel_rfl) (by kernel_rfl) (fun _ _ _ h => h) (Or.inl ⟨by rfl, ?yoya1⟩) hS ?roya1
      case yoya1 => exact fun w' hS => exec_load_row w' 26 (.tmp 9) rfl p5 (by first | rfl | (simp [Act.eval])) 26 (qcells b) (0, 0) _ (hS.row (by simp)) Tryz.underlying26 rfl info26.out
      refine wpAnyH_take (i := 2) (oi := { dst := some 25, op := Op.load 26 (Operand.tmp 8), type := 26, pos := "law.go:90", after := #[], guard := none }) (v := .agg (qcells a)) rfl (by kernel_rfl) (by kernel_rfl) (by kernel_rfl) (fun _ _ _ h => h) (Or.inl ⟨by rfl, ?yoya2⟩) hS ?roya2
      case yoya2 => exact fun w' hS => exec_load_row w' 26 (.tmp 8) rfl p3 (by first | rfl | (simp [Act.eval])) 26 (qcells a) (0, 0) _ (hS.row (by simp)) Tryz.underlying26 rfl info26.out
      go_simp
      refine wpAnyH_ready (rs := [3]) (by kernel_rfl) (by simp) ?_
      refine AllReadyH.cons (o := { dst := some 26, op := Op.call { callee := Callee.value (Operand.func 20), args := #[Operand.tmp 24, Operand.tmp 25], argTypes := #[26, 26] }, type := 3, pos := "law.go:90", after := #[{ on := 1, ground := Ground.data }, { on := 2, ground := Ground.data }], guard := none }) rfl (fun K hK => ?_) AllReadyH.nil
      go_simp
      go_at_call 20
      refine (H6.out.1 _ hS.t).mono ?_
      rintro e w' ⟨rfl, b⟩
      have hS2 := hS.next b
      clear b hS
      try go_simp
      refine hK.out _ _ hS2 (fun hS => ?_)
      clear hK K hS2
      refine wpAnyH_take (i := 4) (oi := { dst := some 27, op := Op.unOp UnOp.neg 3 (Operand.tmp 26), type := 3, pos := "law.go:90", after := #[{ on := 3, ground := Ground.data }], guard := none }) (v := ?voya4) rfl (by kernel_rfl) (by kernel_rfl) (by kernel_rfl) (fun _ _ _ h => h) (Or.inl ⟨by rfl, ?yoya4⟩) hS ?roya4
      case yoya4 => (intro w hS; go_simp; try with_reducible rfl)
      go_simp
      refine wpAnyH_take (i := 5) (oi := { dst := some 28, op := Op.binOp BinOp.eql 3 (Operand.tmp 23) (Operand.tmp 27) 3, type := 4, pos := "law.go:90", after := #[{ on := 0, ground := Ground.data }, { on := 4, ground := Ground.data }], guard := none }) (v := ?voya5) rfl (by kernel_rfl) (by kernel_rfl) (by kernel_rfl) (fun _ _ _ h => h) (Or.inl ⟨by rfl, ?yoya5⟩) hS ?roya5
      case yoya5 => (intro w hS; go_simp; try with_reducible rfl)
      go_simp
      refine wpAnyH_take (i := 6) (oi := { dst := some 29, op := Op.move (Operand.tmp 28), type := 4, pos := "law.go:90", after := #[{ on := 5, ground := Ground.data }, { on := 3, ground := Ground.chain }], guard := none }) (v := ?voya6) rfl (by kernel_rfl) (by kernel_rfl) (by kernel_rfl) (fun _ _ _ h => h) (Or.inl ⟨by rfl, ?yoya6⟩) hS ?roya6
      case yoya6 => (intro w hS; go_simp; try with_reducible rfl)
      go_simp
      refine wpAnyH_take (i := 7) (oi := { dst := some 30, op := Op.move (Operand.tmp 11), type := 3, pos := "law.go:90", after := #[{ on := 6, ground := Ground.guard }], guard := some (6, true) }) (v := ?voya7) rfl (by kernel_rfl) (by kernel_rfl) (by kernel_rfl) (fun _ _ _ h => h) (Or.inl ⟨by rfl, ?yoya7⟩) hS ?roya7
      case yoya7 => (intro w hS; go_simp; try with_reducible rfl)
      refine wpAnyH_take (i := 9) (oi := { dst := some 32, op := Op.load 26 (Operand.tmp 8), type := 26, pos := "law.go:90", after := #[{ on := 6, ground := Ground.guard }], guard := some (6, true) }) (v := .agg (qcells a)) rfl (by kernel_rfl) (by kernel_rfl) (by kernel_rfl) (fun _ _ _ h => h) (Or.inl ⟨by rfl, ?yoya9⟩) hS ?roya9
      case yoya9 => exact fun w' hS => exec_load_row w' 26 (.tmp 8) rfl p3 (by first | rfl | (simp [Act.eval])) 26 (qcells a) (0, 0) _ (hS.row (by simp)) Tryz.underlying26 rfl info26.out
      refine wpAnyH_take (i := 10) (oi := { dst := some 33, op := Op.load 26 (Operand.tmp 9), type := 26, pos := "law.go:90", after := #[{ on := 6, ground := Ground.guard }], guard := some (6, true) }) (v := .agg (qcells b)) rfl (by kernel_rfl) (by kernel_rfl) (by kernel_rfl) (fun _ _ _ h => h) (Or.inl ⟨by rfl, ?yoya10⟩) hS ?roya10
      case yoya10 => exact fun w' hS => exec_load_row w' 26 (.tmp 9) rfl p5 (by first | rfl | (simp [Act.eval])) 26 (qcells b) (0, 0) _ (hS.row (by simp)) Tryz.underlying26 rfl info26.out
      go_simp
      refine wpAnyH_take (i := 8) (oi := { dst := some 31, op := Op.binOp BinOp.eql 3 (Operand.tmp 30) (Operand.const (Value.int IntKind.i64 0)) 3, type := 4, pos := "law.go:90", after := #[{ on := 7, ground := Ground.data }, { on := 6, ground := Ground.guard }], guard := some (6, true) }) (v := ?voya8) rfl (by kernel_rfl) (by kernel_rfl) (by kernel_rfl) (fun _ _ _ h => h) (Or.inl ⟨by rfl, ?yoya8⟩) hS ?roya8
      case yoya8 => (intro w hS; go_simp; try with_reducible rfl)
      refine wpAnyH_take (i := 11) (oi := { dst := some 34, op := Op.binOp BinOp.eql 26 (Operand.tmp 32) (Operand.tmp 33) 26, type := 4, pos := "law.go:90", after := #[{ on := 9, ground := Ground.data }, { on := 10, ground := Ground.data }, { on := 6, ground := Ground.guard }], guard := some (6, true) }) (v := ?voya11) rfl (by kernel_rfl) (by kernel_rfl) (by kernel_rfl) (fun _ _ _ h => h) (Or.inl ⟨by rfl, ?yoya11⟩) hS ?roya11
      case yoya11 => (intro w hS; go_simp; try with_reducible rfl)
      go_simp
      refine wpAnyH_take (i := 12) (oi := { dst := some 35, op := Op.binOp BinOp.eql 4 (Operand.tmp 31) (Operand.tmp 34) 4, type := 4, pos := "law.go:90", after := #[{ on := 8, ground := Ground.data }, { on := 11, ground := Ground.data }, { on := 6, ground := Ground.guard }], guard := some (6, true) }) (v := ?voya12) rfl (by kernel_rfl) (by kernel_rfl) (by kernel_rfl) (fun _ _ _ h => h) (Or.inl ⟨by rfl, ?yoya12⟩) hS ?roya12
      case yoya12 => (intro w hS; go_simp; try with_reducible rfl)
      go_simp
      refine wpAnyH_take (i := 13) (oi := { dst := some 36, op := Op.pick (Operand.tmp 29) (Operand.tmp 35) (Operand.const (Value.bool false)), type := 4, pos := "law.go:90", after := #[{ on := 6, ground := Ground.data }, { on := 12, ground := Ground.data }], guard := none }) (v := ?voya13) rfl (by kernel_rfl) (by kernel_rfl) (by kernel_rfl) (fun _ _ _ h => h) (Or.inl ⟨by rfl, ?yoya13⟩) hS ?roya13
      case yoya13 => (intro w hS; go_simp; try with_reducible rfl)
      go_simp
      refine wpAnyH_take (i := 14) (oi := { dst := some 37, op := Op.move (Operand.tmp 36), type := 4, pos := "law.go:90", after := #[{ on := 13, ground := Ground.data }, { on := 6, ground := Ground.chain }], guard := none }) (v := ?voya14) rfl (by kernel_rfl) (by kernel_rfl) (by kernel_rfl) (fun _ _ _ h => h) (Or.inl ⟨by rfl, ?yoya14⟩) hS ?roya14
      case yoya14 => (intro w hS; go_simp; try with_reducible rfl)
      go_simp
      refine wpAnyH_take (i := 15) (oi := { dst := some 38, op := Op.move (Operand.tmp 11), type := 3, pos := "law.go:90", after := #[{ on := 14, ground := Ground.guard }], guard := some (14, true) }) (v := ?voya15) rfl (by kernel_rfl) (by kernel_rfl) (by kernel_rfl) (fun _ _ _ h => h) (Or.inl ⟨by rfl, ?yoya15⟩) hS ?roya15
      case yoya15 => (intro w hS; go_simp; try with_reducible rfl)
      go_simp
      refine wpAnyH_take (i := 16) (oi := { dst := some 39, op := Op.binOp BinOp.lss 3 (Operand.tmp 38) (Operand.const (Value.int IntKind.i64 0)) 3, type := 4, pos := "law.go:90", after := #[{ on := 15, ground := Ground.data }, { on := 14, ground := Ground.guard }], guard := some (14, true) }) (v := ?voya16) rfl (by kernel_rfl) (by kernel_rfl) (by kernel_rfl) (fun _ _ _ h => h) (Or.inl ⟨by rfl, ?yoya16⟩) hS ?roya16
      case yoya16 => (intro w hS; go_simp; try with_reducible rfl)
      go_simp
      refine wpAnyH_take (i := 17) (oi := { dst := some 40, op := Op.move (Operand.tmp 39), type := 4, pos := "law.go:90", after := #[{ on := 16, ground := Ground.data }, { on := 14, ground := Ground.chain }, { on := 14, ground := Ground.guard }], guard := some (14, true) }) (v := ?voya17) rfl (by kernel_rfl) (by kernel_rfl) (by kernel_rfl) (fun _ _ _ h => h) (Or.inl ⟨by rfl, ?yoya17⟩) hS ?roya17
      case yoya17 => (intro w hS; go_simp; try with_reducible rfl)
      go_simp
      refine wpAnyH_take (i := 18) (oi := { dst := some 41, op := Op.load 26 (Operand.tmp 9), type := 26, pos := "law.go:90", after := #[{ on := 17, ground := Ground.guard }], guard := some (17, false) }) (v := .agg (qcells b)) rfl (by kernel_rfl) (by kernel_rfl) (by kernel_rfl) (fun _ _ _ h => h) (Or.inl ⟨by rfl, ?yoya18⟩) hS ?roya18
      case yoya18 => exact fun w' hS => exec_load_row w' 26 (.tmp 9) rfl p5 (by first | rfl | (simp [Act.eval])) 26 (qcells b) (0, 0) _ (hS.row (by simp)) Tryz.underlying26 rfl info26.out
      refine wpAnyH_take (i := 19) (oi := { dst := some 42, op := Op.load 26 (Operand.tmp 10), type := 26, pos := "law.go:90", after := #[{ on := 17, ground := Ground.guard }], guard := some (17, false) }) (v := .agg (qcells c)) rfl (by kernel_rfl) (by kernel_rfl) (by kernel_rfl) (fun _ _ _ h => h) (Or.inl ⟨by rfl, ?yoya19⟩) hS ?roya19
      case yoya19 => exact fun w' hS => exec_load_row w' 26 (.tmp 10) rfl p7 (by first | rfl | (simp [Act.eval])) 26 (qcells c) (0, 0) _ (hS.row (by simp)) Tryz.underlying26 rfl info26.out
      go_simp
      refine wpAnyH_ready (rs := [20]) (by kernel_rfl) (by simp) ?_
      refine AllReadyH.cons (o := { dst := some 43, op := Op.call { callee := Callee.value (Operand.func 20), args := #[Operand.tmp 41, Operand.tmp 42], argTypes := #[26, 26] }, type := 3, pos := "law.go:90", after := #[{ on := 18, ground := Ground.data }, { on := 19, ground := Ground.data }, { on := 17, ground := Ground.chain }, { on := 17, ground := Ground.guard }], guard := some (17, false) }) rfl (fun K hK => ?_) AllReadyH.nil
      go_simp
      go_at_call 20
      refine (H6.out.2.1 _ hS.t).mono ?_
      rintro e w' ⟨rfl, b⟩
      have hS2 := hS.next b
      clear b hS
      try go_simp
      refine hK.out _ _ hS2 (fun hS => ?_)
      clear hK K hS2
      refine wpAnyH_take (i := 21) (oi := { dst := some 44, op := Op.binOp BinOp.lss 3 (Operand.tmp 43) (Operand.const (Value.int IntKind.i64 0)) 3, type := 4, pos := "law.go:90", after := #[{ on := 20, ground := Ground.data }, { on := 17, ground := Ground.guard }], guard := some (17, false) }) (v := ?voya21) rfl (by kernel_rfl) (by kernel_rfl) (by kernel_rfl) (fun _ _ _ h => h) (Or.inl ⟨by rfl, ?yoya21⟩) hS ?roya21
      case yoya21 => (intro w hS; go_simp; try with_reducible rfl)
      go_simp
      refine wpAnyH_take (i := 22) (oi := { dst := some 45, op := Op.pick (Operand.tmp 40) (Operand.const (Value.bool true)) (Operand.tmp 44), type := 4, pos := "law.go:90", after := #[{ on := 17, ground := Ground.data }, { on := 21, ground := Ground.data }, { on := 14, ground := Ground.guard }], guard := some (14, true) }) (v := ?voya22) rfl (by kernel_rfl) (by kernel_rfl) (by kernel_rfl) (fun _ _ _ h => h) (Or.inl ⟨by rfl, ?yoya22⟩) hS ?roya22
      case yoya22 => (intro w hS; go_simp; try with_reducible rfl)
      go_simp
      refine wpAnyH_take (i := 23) (oi := { dst := some 46, op := Op.move (Operand.tmp 45), type := 4, pos := "law.go:90", after := #[{ on := 22, ground := Ground.data }, { on := 20, ground := Ground.chain }, { on := 14, ground := Ground.guard }], guard := some (14, true) }) (v := ?voya23) rfl (by kernel_rfl) (by kernel_rfl) (by kernel_rfl) (fun _ _ _ h => h) (Or.inl ⟨by rfl, ?yoya23⟩) hS ?roya23
      case yoya23 => (intro w hS; go_simp; try with_reducible rfl)
      go_simp
      refine wpAnyH_take (i := 24) (oi := { dst := some 47, op := Op.load 26 (Operand.tmp 8), type := 26, pos := "law.go:90", after := #[{ on := 23, ground := Ground.guard }], guard := some (23, false) }) (v := undef) rfl (by kernel_rfl) (by kernel_rfl) (by kernel_rfl) (fun _ _ _ h => h) (Or.inr ⟨by rfl, rfl⟩) hS ?roya24
      refine wpAnyH_take (i := 25) (oi := { dst := some 48, op := Op.load 26 (Operand.tmp 10), type := 26, pos := "law.go:90", after := #[{ on := 23, ground := Ground.guard }], guard := some (23, false) }) (v := undef) rfl (by kernel_rfl) (by kernel_rfl) (by kernel_rfl) (fun _ _ _ h => h) (Or.inr ⟨by rfl, rfl⟩) hS ?roya25
      go_simp
      refine wpAnyH_take (i := 26) (oi := { dst := some 49, op := Op.call { callee := Callee.value (Operand.func 20), args := #[Operand.tmp 47, Operand.tmp 48], argTypes := #[26, 26] }, type := 3, pos := "law.go:90", after := #[{ on := 24, ground := Ground.data }, { on := 25, ground := Ground.data }, { on := 23, ground := Ground.chain }, { on := 23, ground := Ground.guard }], guard := some (23, false) }) (v := undef) rfl (by kernel_rfl) (by kernel_rfl) (by kernel_rfl) (fun _ _ _ h => h) (Or.inr ⟨by rfl, rfl⟩) hS ?roya26
      go_simp
      refine wpAnyH_take (i := 27) (oi := { dst := some 50, op := Op.binOp BinOp.geq 3 (Operand.tmp 49) (Operand.const (Value.int IntKind.i64 0)) 3, type := 4, pos := "law.go:90", after := #[{ on := 26, ground := Ground.data }, { on := 23, ground := Ground.guard }], guard := some (23, false) }) (v := undef) rfl (by kernel_rfl) (by kernel_rfl) (by kernel_rfl) (fun _ _ _ h => h) (Or.inr ⟨by rfl, rfl⟩) hS ?roya27
      go_simp
      refine wpAnyH_take (i := 28) (oi := { dst := some 51, op := Op.pick (Operand.tmp 46) (Operand.const (Value.bool true)) (Operand.tmp 50), type := 4, pos := "law.go:90", after := #[{ on := 23, ground := Ground.data }, { on := 27, ground := Ground.data }, { on := 14, ground := Ground.guard }], guard := some (14, true) }) (v := ?voya28) rfl (by kernel_rfl) (by kernel_rfl) (by kernel_rfl) (fun _ _ _ h => h) (Or.inl ⟨by rfl, ?yoya28⟩) hS ?roya28
      case yoya28 => (intro w hS; go_simp; try with_reducible rfl)
      go_simp
      refine wpAnyH_take (i := 29) (oi := { dst := some 52, op := Op.pick (Operand.tmp 37) (Operand.tmp 51) (Operand.const (Value.bool false)), type := 4, pos := "law.go:90", after := #[{ on := 14, ground := Ground.data }, { on := 28, ground := Ground.data }], guard := none }) (v := ?voya29) rfl (by kernel_rfl) (by kernel_rfl) (by kernel_rfl) (fun _ _ _ h => h) (Or.inl ⟨by rfl, ?yoya29⟩) hS ?roya29
      case yoya29 => (intro w hS; go_simp; try with_reducible rfl)
      go_simp
      refine wpAnyH_take (i := 30) (oi := { dst := some 53, op := Op.move (Operand.tmp 52), type := 4, pos := "law.go:90", after := #[{ on := 29, ground := Ground.data }, { on := 26, ground := Ground.chain }], guard := none }) (v := ?voya30) rfl (by kernel_rfl) (by kernel_rfl) (by kernel_rfl) (fun _ _ _ h => h) (Or.inl ⟨by rfl, ?yoya30⟩) hS ?roya30
      case yoya30 => (intro w hS; go_simp; try with_reducible rfl)
      go_simp
      refine wpAnyH_take (i := 31) (oi := { dst := some 54, op := Op.load 26 (Operand.tmp 8), type := 26, pos := "law.go:90", after := #[{ on := 30, ground := Ground.guard }], guard := some (30, true) }) (v := .agg (qcells a)) rfl (by kernel_rfl) (by kernel_rfl) (by kernel_rfl) (fun _ _ _ h => h) (Or.inl ⟨by rfl, ?yoya31⟩) hS ?roya31
      case yoya31 => exact fun w' hS => exec_load_row w' 26 (.tmp 8) rfl p3 (by first | rfl | (simp [Act.eval])) 26 (qcells a) (0, 0) _ (hS.row (by simp)) Tryz.underlying26 rfl info26.out
      refine wpAnyH_take (i := 32) (oi := { dst := some 55, op := Op.load 26 (Operand.tmp 10), type := 26, pos := "law.go:90", after := #[{ on := 30, ground := Ground.guard }], guard := some (30, true) }) (v := .agg (qcells c)) rfl (by kernel_rfl) (by kernel_rfl) (by kernel_rfl) (fun _ _ _ h => h) (Or.inl ⟨by rfl, ?yoya32⟩) hS ?roya32
      case yoya32 => exact fun w' hS => exec_load_row w' 26 (.tmp 10) rfl p7 (by first | rfl | (simp [Act.eval])) 26 (qcells c) (0, 0) _ (hS.row (by simp)) Tryz.underlying26 rfl info26.out
      refine wpAnyH_take (i := 34) (oi := { dst := some 57, op := Op.load 26 (Operand.tmp 9), type := 26, pos := "law.go:90", after := #[{ on := 30, ground := Ground.guard }], guard := some (30, true) }) (v := .agg (qcells b)) rfl (by kernel_rfl) (by kernel_rfl) (by kernel_rfl) (fun _ _ _ h => h) (Or.inl ⟨by rfl, ?yoya34⟩) hS ?roya34
      case yoya34 => exact fun w' hS => exec_load_row w' 26 (.tmp 9) rfl p5 (by first | rfl | (simp [Act.eval])) 26 (qcells b) (0, 0) _ (hS.row (by simp)) Tryz.underlying26 rfl info26.out
      refine wpAnyH_take (i := 35) (oi := { dst := some 58, op := Op.load 26 (Operand.tmp 10), type := 26, pos := "law.go:90", after := #[{ on := 30, ground := Ground.guard }], guard := some (30, true) }) (v := .agg (qcells c)) rfl (by kernel_rfl) (by kernel_rfl) (by kernel_rfl) (fun _ _ _ h => h) (Or.inl ⟨by rfl, ?yoya35⟩) hS ?roya35
      case yoya35 => exact fun w' hS => exec_load_row w' 26 (.tmp 10) rfl p7 (by first | rfl | (simp [Act.eval])) 26 (qcells c) (0, 0) _ (hS.row (by simp)) Tryz.underlying26 rfl info26.out
      refine wpAnyH_take (i := 38) (oi := { dst := some 61, op := Op.move (Operand.tmp 11), type := 3, pos := "law.go:90", after := #[{ on := 30, ground := Ground.guard }], guard := some (30, true) }) (v := ?voya38) rfl (by kernel_rfl) (by kernel_rfl) (by kernel_rfl) (fun _ _ _ h => h) (Or.inl ⟨by rfl, ?yoya38⟩) hS ?roya38
      case yoya38 => (intro w hS; go_simp; try with_reducible rfl)
      go_simp
      refine wpAnyH_ready (rs := [33]) (by kernel_rfl) (by simp) ?_
      refine AllReadyH.cons (o := { dst := some 56, op := Op.call { callee := Callee.value (Operand.func 14), args := #[Operand.tmp 54, Operand.tmp 55], argTypes := #[26, 26] }, type := 26, pos := "law.go:90", after := #[{ on := 31, ground := Ground.data }, { on := 32, ground := Ground.data }, { on := 30, ground := Ground.chain }, { on := 30, ground := Ground.guard }], guard := some (30, true) }) rfl (fun K hK => ?_) AllReadyH.nil
      go_simp
      go_at_call 14
      refine (H6.out.2.2.2.1 _ hS.t).mono ?_
      rintro e w' ⟨rfl, b⟩
      have hS2 := hS.next b
      clear b hS
      try go_simp
      refine hK.out _ _ hS2 (fun hS => ?_)
      clear hK K hS2
      refine wpAnyH_ready (rs := [36]) (by kernel_rfl) (by simp) ?_
      refine AllReadyH.cons (o := { dst := some 59, op := Op.call { callee := Callee.value (Operand.func 14), args := #[Operand.tmp 57, Operand.tmp 58], argTypes := #[26, 26] }, type := 26, pos := "law.go:90", after := #[{ on := 34, ground := Ground.data }, { on := 35, ground := Ground.data }, { on := 33, ground := Ground.chain }, { on := 30, ground := Ground.guard }], guard := some (30, true) }) rfl (fun K hK => ?_) AllReadyH.nil
      go_simp
      go_at_call 14
      refine (H6.out.2.2.2.2.1 _ hS.t).mono ?_
      rintro e w' ⟨rfl, b⟩
      have hS2 := hS.next b
      clear b hS
      try go_simp
      refine hK.out _ _ hS2 (fun hS => ?_)
      clear hK K hS2
      refine wpAnyH_ready (rs := [37]) (by kernel_rfl) (by simp) ?_
      refine AllReadyH.cons (o := { dst := some 60, op := Op.call { callee := Callee.value (Operand.func 20), args := #[Operand.tmp 56, Operand.tmp 59], argTypes := #[26, 26] }, type := 3, pos := "law.go:90", after := #[{ on := 33, ground := Ground.data }, { on := 36, ground := Ground.data }, { on := 36, ground := Ground.chain }, { on := 30, ground := Ground.guard }], guard := some (30, true) }) rfl (fun K hK => ?_) AllReadyH.nil
      go_simp
      go_at_call 20
      refine (H6.out.2.2.2.2.2 _ hS.t).mono ?_
      rintro e w' ⟨rfl, b⟩
      have hS2 := hS.next b
      clear b hS
      try go_simp
      refine hK.out _ _ hS2 (fun hS => ?_)
      clear hK K hS2
      refine wpAnyH_take (i := 39) (oi := { dst := some 62, op := Op.binOp BinOp.eql 3 (Operand.tmp 60) (Operand.tmp 61) 3, type := 4, pos := "law.go:90", after := #[{ on := 37, ground := Ground.data }, { on := 38, ground := Ground.data }, { on := 30, ground := Ground.guard }], guard := some (30, true) }) (v := ?voya39) rfl (by kernel_rfl) (by kernel_rfl) (by kernel_rfl) (fun _ _ _ h => h) (Or.inl ⟨by rfl, ?yoya39⟩) hS ?roya39
      case yoya39 => (intro w hS; go_simp; try with_reducible rfl)
      go_simp
      refine wpAnyH_take (i := 40) (oi := { dst := some 63, op := Op.pick (Operand.tmp 53) (Operand.tmp 62) (Operand.const (Value.bool false)), type := 4, pos := "law.go:90", after := #[{ on := 30, ground := Ground.data }, { on := 39, ground := Ground.data }], guard := none }) (v := ?voya40) rfl (by kernel_rfl) (by kernel_rfl) (by kernel_rfl) (fun _ _ _ h => h) (Or.inl ⟨by rfl, ?yoya40⟩) hS ?roya40
      case yoya40 => (intro w hS; go_simp; try with_reducible rfl)
      go_simp
      refine wpAnyH_take (i := 41) (oi := { dst := some 12, op := Op.assign (Operand.tmp 63), type := 4, pos := "law.go:90", after := #[{ on := 40, ground := Ground.data }, { on := 37, ground := Ground.chain }, { on := 0, ground := Ground.phase }, { on := 1, ground := Ground.phase }, { on := 2, ground := Ground.phase }, { on := 3, ground := Ground.phase }, { on := 4, ground := Ground.phase }, { on := 5, ground := Ground.phase }, { on := 6, ground := Ground.phase }, { on := 7, ground := Ground.phase }, { on := 8, ground := Ground.phase }, { on := 9, ground := Ground.phase }, { on := 10, ground := Ground.phase }, { on := 11, ground := Ground.phase }, { on := 12, ground := Ground.phase }, { on := 13, ground := Ground.phase }, { on := 14, ground := Ground.phase }, { on := 15, ground := Ground.phase }, { on := 16, ground := Ground.phase }, { on := 17, ground := Ground.phase }, { on := 18, ground := Ground.phase }, { on := 19, ground := Ground.phase }, { on := 20, ground := Ground.phase }, { on := 21, ground := Ground.phase }, { on := 22, ground := Ground.phase }, { on := 23, ground := Ground.phase }, { on := 24, ground := Ground.phase }, { on := 25, ground := Ground.phase }, { on := 26, ground := Ground.phase }, { on := 27, ground := Ground.phase }, { on := 28, ground := Ground.phase }, { on := 29, ground := Ground.phase }, { on := 30, ground := Ground.phase }, { on := 31, ground := Ground.phase }, { on := 32, ground := Ground.phase }, { on := 33, ground := Ground.phase }, { on := 34, ground := Ground.phase }, { on := 35, ground := Ground.phase }, { on := 36, ground := Ground.phase }, { on := 37, ground := Ground.phase }, { on := 38, ground := Ground.phase }, { on := 39, ground := Ground.phase }, { on := 40, ground := Ground.phase }], guard := none }) (v := ?voya41) rfl (by kernel_rfl) (by kernel_rfl) (by kernel_rfl) (fun _ _ _ h => h) (Or.inl ⟨by rfl, ?yoya41⟩) hS ?roya41
      case yoya41 => (intro w hS; go_simp; try with_reducible rfl)
      refine wpAnyH_done (by kernel_rfl) ?_ _
      have HR6 := Lib.hid hS
      clear hS W1 W1b E1 e0 hx hy
      go_upto_region 7 with fail
      have W2 := HI.out.2.2.2.2.1
      have W2b := HI.out.2.2.2.2.2
      refine wp_region_held_drew (S := KB w [(p7, qcells c), (p5, qcells b), (p3, qcells a)]) (by kernel_rfl) HR6.out.drew (fun hS => ?_)
      clear HR6
      refine wpAnyH_take (i := 0) (oi := { dst := some 64, op := Op.move (Operand.tmp 7), type := 4, pos := "law.go:91", after := #[], guard := none }) (v := ?voyb0) rfl (by kernel_rfl) (by kernel_rfl) (by kernel_rfl) (fun _ _ _ h => h) (Or.inl ⟨by rfl, ?yoyb0⟩) hS ?royb0
      case yoyb0 => (intro w hS; go_simp; try with_reducible rfl)
      go_simp
      refine wpAnyH_take (i := 1) (oi := { dst := some 65, op := Op.move (Operand.tmp 64), type := 4, pos := "law.go:91", after := #[{ on := 0, ground := Ground.data }], guard := none }) (v := ?voyb1) rfl (by kernel_rfl) (by kernel_rfl) (by kernel_rfl) (fun _ _ _ h => h) (Or.inl ⟨by rfl, ?yoyb1⟩) hS ?royb1
      case yoyb1 => (intro w hS; go_simp; try with_reducible rfl)
      go_simp
      refine wpAnyH_take (i := 2) (oi := { dst := some 66, op := Op.move (Operand.tmp 12), type := 4, pos := "law.go:91", after := #[{ on := 1, ground := Ground.guard }], guard := some (1, true) }) (v := ?voyb2) rfl (by kernel_rfl) (by kernel_rfl) (by kernel_rfl) (fun _ _ _ h => h) (Or.inl ⟨by rfl, ?yoyb2⟩) hS ?royb2
      case yoyb2 => (intro w hS; go_simp; try with_reducible rfl)
      go_simp
      refine wpAnyH_take (i := 3) (oi := { dst := some 67, op := Op.pick (Operand.tmp 65) (Operand.tmp 66) (Operand.const (Value.bool false)), type := 4, pos := "law.go:91", after := #[{ on := 1, ground := Ground.data }, { on := 2, ground := Ground.data }], guard := none }) (v := ?voyb3) rfl (by kernel_rfl) (by kernel_rfl) (by kernel_rfl) (fun _ _ _ h => h) (Or.inl ⟨by rfl, ?yoyb3⟩) hS ?royb3
      case yoyb3 => (intro w hS; go_simp; try with_reducible rfl)
      go_simp
      refine wpAnyH_take (i := 4) (oi := { dst := some 68, op := Op.move (Operand.tmp 67), type := 4, pos := "law.go:91", after := #[{ on := 3, ground := Ground.data }, { on := 1, ground := Ground.chain }], guard := none }) (v := ?voyb4) rfl (by kernel_rfl) (by kernel_rfl) (by kernel_rfl) (fun _ _ _ h => h) (Or.inl ⟨by rfl, ?yoyb4⟩) hS ?royb4
      case yoyb4 => (intro w hS; go_simp; try with_reducible rfl)
      go_simp
      refine wpAnyH_take (i := 5) (oi := { dst := some 69, op := Op.load 26 (Operand.tmp 8), type := 26, pos := "law.go:91", after := #[{ on := 4, ground := Ground.guard }], guard := some (4, true) }) (v := .agg (qcells a)) rfl (by kernel_rfl) (by kernel_rfl) (by kernel_rfl) (fun _ _ _ h => h) (Or.inl ⟨by rfl, ?yoyb5⟩) hS ?royb5
      case yoyb5 => exact fun w' hS => exec_load_row w' 26 (.tmp 8) rfl p3 (by first | rfl | (simp [Act.eval])) 26 (qcells a) (0, 0) _ (hS.row (by simp)) Tryz.underlying26 rfl info26.out
      refine wpAnyH_take (i := 6) (oi := { dst := some 70, op := Op.load 26 (Operand.tmp 10), type := 26, pos := "law.go:91", after := #[{ on := 4, ground := Ground.guard }], guard := some (4, true) }) (v := .agg (qcells c)) rfl (by kernel_rfl) (by kernel_rfl) (by kernel_rfl) (fun _ _ _ h => h) (Or.inl ⟨by rfl, ?yoyb6⟩) hS ?royb6
      case yoyb6 => exact fun w' hS => exec_load_row w' 26 (.tmp 10) rfl p7 (by first | rfl | (simp [Act.eval])) 26 (qcells c) (0, 0) _ (hS.row (by simp)) Tryz.underlying26 rfl info26.out
      refine wpAnyH_take (i := 8) (oi := { dst := some 72, op := Op.load 26 (Operand.tmp 9), type := 26, pos := "law.go:91", after := #[{ on := 4, ground := Ground.guard }], guard := some (4, true) }) (v := .agg (qcells b)) rfl (by kernel_rfl) (by kernel_rfl) (by kernel_rfl) (fun _ _ _ h => h) (Or.inl ⟨by rfl, ?yoyb8⟩) hS ?royb8
      case yoyb8 => exact fun w' hS => exec_load_row w' 26 (.tmp 9) rfl p5 (by first | rfl | (simp [Act.eval])) 26 (qcells b) (0, 0) _ (hS.row (by simp)) Tryz.underlying26 rfl info26.out
      refine wpAnyH_take (i := 9) (oi := { dst := some 73, op := Op.load 26 (Operand.tmp 10), type := 26, pos := "law.go:91", after := #[{ on := 4, ground := Ground.guard }], guard := some (4, true) }) (v := .agg (qcells c)) rfl (by kernel_rfl) (by kernel_rfl) (by kernel_rfl) (fun _ _ _ h => h) (Or.inl ⟨by rfl, ?yoyb9⟩) hS ?royb9
      case yoyb9 => exact fun w' hS => exec_load_row w' 26 (.tmp 10) rfl p7 (by first | rfl | (simp [Act.eval])) 26 (qcells c) (0, 0) _ (hS.row (by simp)) Tryz.underlying26 rfl info26.out
      refine wpAnyH_take (i := 12) (oi := { dst := some 76, op := Op.move (Operand.tmp 11), type := 3, pos := "law.go:91", after := #[{ on := 4, ground := Ground.guard }], guard := some (4, true) }) (v := ?voyb12) rfl (by kernel_rfl) (by kernel_rfl) (by kernel_rfl) (fun _ _ _ h => h) (Or.inl ⟨by rfl, ?yoyb12⟩) hS ?royb12
      case yoyb12 => (intro w hS; go_simp; try with_reducible rfl)
      refine wpAnyH_take (i := 13) (oi := { dst := some 77, op := Op.load 26 (Operand.tmp 10), type := 26, pos := "law.go:91", after := #[{ on := 4, ground := Ground.guard }], guard := some (4, true) }) (v := .agg (qcells c)) rfl (by kernel_rfl) (by kernel_rfl) (by kernel_rfl) (fun _ _ _ h => h) (Or.inl ⟨by rfl, ?yoyb13⟩) hS ?royb13
      case yoyb13 => exact fun w' hS => exec_load_row w' 26 (.tmp 10) rfl p7 (by first | rfl | (simp [Act.eval])) 26 (qcells c) (0, 0) _ (hS.row (by simp)) Tryz.underlying26 rfl info26.out
      go_simp
      refine wpAnyH_ready (rs := [7]) (by kernel_rfl) (by simp) ?_
      refine AllReadyH.cons (o := { dst := some 71, op := Op.call { callee := Callee.value (Operand.func 18), args := #[Operand.tmp 69, Operand.tmp 70], argTypes := #[26, 26] }, type := 26, pos := "law.go:91", after := #[{ on := 5, ground := Ground.data }, { on := 6, ground := Ground.data }, { on := 4, ground := Ground.chain }, { on := 4, ground := Ground.guard }], guard := some (4, true) }) rfl (fun K hK => ?_) AllReadyH.nil
      go_simp
      go_at_call 18
      refine (H7.out.1 _ hS.t).mono ?_
      rintro e w' ⟨rfl, b⟩
      have hS2 := hS.next b
      clear b hS
      try go_simp
      refine hK.out _ _ hS2 (fun hS => ?_)
      clear hK K hS2
      refine wpAnyH_ready (rs := [10]) (by kernel_rfl) (by simp) ?_
      refine AllReadyH.cons (o := { dst := some 74, op := Op.call { callee := Callee.value (Operand.func 18), args := #[Operand.tmp 72, Operand.tmp 73], argTypes := #[26, 26] }, type := 26, pos := "law.go:91", after := #[{ on := 8, ground := Ground.data }, { on := 9, ground := Ground.data }, { on := 7, ground := Ground.chain }, { on := 4, ground := Ground.guard }], guard := some (4, true) }) rfl (fun K hK => ?_) AllReadyH.nil
      go_simp
      go_at_call 18
      refine (H7.out.2.1 _ hS.t).mono ?_
      rintro e w' ⟨rfl, b⟩
      have hS2 := hS.next b
      clear b hS
      try go_simp
      refine hK.out _ _ hS2 (fun hS => ?_)
      clear hK K hS2
      refine wpAnyH_ready (rs := [11]) (by kernel_rfl) (by simp) ?_
      refine AllReadyH.cons (o := { dst := some 75, op := Op.call { callee := Callee.value (Operand.func 20), args := #[Operand.tmp 71, Operand.tmp 74], argTypes := #[26, 26] }, type := 3, pos := "law.go:91", after := #[{ on := 7, ground := Ground.data }, { on := 10, ground := Ground.data }, { on := 10, ground := Ground.chain }, { on := 4, ground := Ground.guard }], guard := some (4, true) }) rfl (fun K hK => ?_) AllReadyH.nil
      go_simp
      go_at_call 20
      refine (H7.out.2.2.1 _ hS.t).mono ?_
      rintro e w' ⟨rfl, b⟩
      have hS2 := hS.next b
      clear b hS
      try go_simp
      refine hK.out _ _ hS2 (fun hS => ?_)
      clear hK K hS2
      refine wpAnyH_ready (rs := [14]) (by kernel_rfl) (by simp) ?_
      refine AllReadyH.cons (o := { dst := some 78, op := Op.call { callee := Callee.value (Operand.func 22), args := #[Operand.tmp 77], argTypes := #[26] }, type := 3, pos := "law.go:91", after := #[{ on := 13, ground := Ground.data }, { on := 11, ground := Ground.chain }, { on := 4, ground := Ground.guard }], guard := some (4, true) }) rfl (fun K hK => ?_) AllReadyH.nil
      go_simp
      go_at_call 22
      refine (H7.out.2.2.2.1 _ hS.t).mono ?_
      rintro e w' ⟨rfl, b⟩
      have hS2 := hS.next b
      clear b hS
      try go_simp
      refine hK.out _ _ hS2 (fun hS => ?_)
      clear hK K hS2
      refine wpAnyH_take (i := 15) (oi := { dst := some 79, op := Op.binOp BinOp.mul 3 (Operand.tmp 76) (Operand.tmp 78) 3, type := 3, pos := "law.go:91", after := #[{ on := 12, ground := Ground.data }, { on := 14, ground := Ground.data }, { on := 4, ground := Ground.guard }], guard := some (4, true) }) (v := ?voyb15) rfl (by kernel_rfl) (by kernel_rfl) (by kernel_rfl) (fun _ _ _ h => h) (Or.inl ⟨by rfl, ?yoyb15⟩) hS ?royb15
      case yoyb15 => (intro w hS; go_simp; try with_reducible rfl)
      go_simp
      refine wpAnyH_take (i := 16) (oi := { dst := some 80, op := Op.binOp BinOp.eql 3 (Operand.tmp 75) (Operand.tmp 79) 3, type := 4, pos := "law.go:91", after := #[{ on := 11, ground := Ground.data }, { on := 15, ground := Ground.data }, { on := 4, ground := Ground.guard }], guard := some (4, true) }) (v := ?voyb16) rfl (by kernel_rfl) (by kernel_rfl) (by kernel_rfl) (fun _ _ _ h => h) (Or.inl ⟨by rfl, ?yoyb16⟩) hS ?royb16
      case yoyb16 => (intro w hS; go_simp; try with_reducible rfl)
      go_simp
      refine wpAnyH_take (i := 17) (oi := { dst := some 81, op := Op.pick (Operand.tmp 68) (Operand.tmp 80) (Operand.const (Value.bool false)), type := 4, pos := "law.go:91", after := #[{ on := 4, ground := Ground.data }, { on := 16, ground := Ground.data }], guard := none }) (v := ?voyb17) rfl (by kernel_rfl) (by kernel_rfl) (by kernel_rfl) (fun _ _ _ h => h) (Or.inl ⟨by rfl, ?yoyb17⟩) hS ?royb17
      case yoyb17 => (intro w hS; go_simp; try with_reducible rfl)
      go_simp
      refine wpAnyH_take (i := 18) (oi := { dst := some 82, op := Op.move (Operand.tmp 81), type := 4, pos := "law.go:91", after := #[{ on := 17, ground := Ground.data }, { on := 14, ground := Ground.chain }], guard := none }) (v := ?voyb18) rfl (by kernel_rfl) (by kernel_rfl) (by kernel_rfl) (fun _ _ _ h => h) (Or.inl ⟨by rfl, ?yoyb18⟩) hS ?royb18
      case yoyb18 => (intro w hS; go_simp; try with_reducible rfl)
      go_simp
      refine wpAnyH_take (i := 19) (oi := { dst := some 83, op := Op.load 26 (Operand.tmp 8), type := 26, pos := "law.go:91", after := #[{ on := 18, ground := Ground.guard }], guard := some (18, true) }) (v := .agg (qcells a)) rfl (by kernel_rfl) (by kernel_rfl) (by kernel_rfl) (fun _ _ _ h => h) (Or.inl ⟨by rfl, ?yoyb19⟩) hS ?royb19
      case yoyb19 => exact fun w' hS => exec_load_row w' 26 (.tmp 8) rfl p3 (by first | rfl | (simp [Act.eval])) 26 (qcells a) (0, 0) _ (hS.row (by simp)) Tryz.underlying26 rfl info26.out
      refine wpAnyH_take (i := 20) (oi := { dst := some 84, op := Op.load 26 (Operand.tmp 9), type := 26, pos := "law.go:91", after := #[{ on := 18, ground := Ground.guard }], guard := some (18, true) }) (v := .agg (qcells b)) rfl (by kernel_rfl) (by kernel_rfl) (by kernel_rfl) (fun _ _ _ h => h) (Or.inl ⟨by rfl, ?yoyb20⟩) hS ?royb20
      case yoyb20 => exact fun w' hS => exec_load_row w' 26 (.tmp 9) rfl p5 (by first | rfl | (simp [Act.eval])) 26 (qcells b) (0, 0) _ (hS.row (by simp)) Tryz.underlying26 rfl info26.out
      refine wpAnyH_take (i := 23) (oi := { dst := some 87, op := Op.move (Operand.tmp 11), type := 3, pos := "law.go:91", after := #[{ on := 18, ground := Ground.guard }], guard := some (18, true) }) (v := ?voyb23) rfl (by kernel_rfl) (by kernel_rfl) (by kernel_rfl) (fun _ _ _ h => h) (Or.inl ⟨by rfl, ?yoyb23⟩) hS ?royb23
      case yoyb23 => (intro w hS; go_simp; try with_reducible rfl)
      go_simp
      refine wpAnyH_ready (rs := [21]) (by kernel_rfl) (by simp) ?_
      refine AllReadyH.cons (o := { dst := some 85, op := Op.call { callee := Callee.value (Operand.func 16), args := #[Operand.tmp 83, Operand.tmp 84], argTypes := #[26, 26] }, type := 26, pos := "law.go:91", after := #[{ on := 19, ground := Ground.data }, { on := 20, ground := Ground.data }, { on := 18, ground := Ground.chain }, { on := 18, ground := Ground.guard }], guard := some (18, true) }) rfl (fun K hK => ?_) AllReadyH.nil
      go_simp
      go_at_call 16
      refine (H7.out.2.2.2.2.1 _ hS.t).mono ?_
      rintro e w' ⟨rfl, b⟩
      have hS2 := hS.next b
      clear b hS
      try go_simp
      refine hK.out _ _ hS2 (fun hS => ?_)
      clear hK K hS2
      refine wpAnyH_ready (rs := [22]) (by kernel_rfl) (by simp) ?_
      refine AllReadyH.cons (o := { dst := some 86, op := Op.call { callee := Callee.value (Operand.func 22), args := #[Operand.tmp 85], argTypes := #[26] }, type := 3, pos := "law.go:91", after := #[{ on := 21, ground := Ground.data }, { on := 21, ground := Ground.chain }, { on := 18, ground := Ground.guard }], guard := some (18, true) }) rfl (fun K hK => ?_) AllReadyH.nil
      go_simp
      go_at_call 22
      refine (H7.out.2.2.2.2.2.1 _ hS.t).mono ?_
      rintro e w' ⟨rfl, b⟩
      have hS2 := hS.next b
      clear b hS
      try go_simp
      refine hK.out _ _ hS2 (fun hS => ?_)
      clear hK K hS2
      refine wpAnyH_take (i := 24) (oi := { dst := some 88, op := Op.binOp BinOp.eql 3 (Operand.tmp 86) (Operand.tmp 87) 3, type := 4, pos := "law.go:91", after := #[{ on := 22, ground := Ground.data }, { on := 23, ground := Ground.data }, { on := 18, ground := Ground.guard }], guard := some (18, true) }) (v := ?voyb24) rfl (by kernel_rfl) (by kernel_rfl) (by kernel_rfl) (fun _ _ _ h => h) (Or.inl ⟨by rfl, ?yoyb24⟩) hS ?royb24
      case yoyb24 => (intro w hS; go_simp; try with_reducible rfl)
      go_simp
      refine wpAnyH_take (i := 25) (oi := { dst := some 89, op := Op.pick (Operand.tmp 82) (Operand.tmp 88) (Operand.const (Value.bool false)), type := 4, pos := "law.go:91", after := #[{ on := 18, ground := Ground.data }, { on := 24, ground := Ground.data }], guard := none }) (v := ?voyb25) rfl (by kernel_rfl) (by kernel_rfl) (by kernel_rfl) (fun _ _ _ h => h) (Or.inl ⟨by rfl, ?yoyb25⟩) hS ?royb25
      case yoyb25 => (intro w hS; go_simp; try with_reducible rfl)
      go_simp
      refine wpAnyH_take (i := 26) (oi := { dst := some 90, op := Op.move (Operand.tmp 89), type := 4, pos := "law.go:91", after := #[{ on := 25, ground := Ground.data }, { on := 22, ground := Ground.chain }], guard := none }) (v := ?voyb26) rfl (by kernel_rfl) (by kernel_rfl) (by kernel_rfl) (fun _ _ _ h => h) (Or.inl ⟨by rfl, ?yoyb26⟩) hS ?royb26
      case yoyb26 => (intro w hS; go_simp; try with_reducible rfl)
      go_simp
      refine wpAnyH_take (i := 27) (oi := { dst := some 91, op := Op.load 26 (Operand.tmp 8), type := 26, pos := "law.go:91", after := #[{ on := 26, ground := Ground.guard }], guard := some (26, true) }) (v := .agg (qcells a)) rfl (by kernel_rfl) (by kernel_rfl) (by kernel_rfl) (fun _ _ _ h => h) (Or.inl ⟨by rfl, ?yoyb27⟩) hS ?royb27
      case yoyb27 => exact fun w' hS => exec_load_row w' 26 (.tmp 8) rfl p3 (by first | rfl | (simp [Act.eval])) 26 (qcells a) (0, 0) _ (hS.row (by simp)) Tryz.underlying26 rfl info26.out
      refine wpAnyH_take (i := 29) (oi := { dst := some 93, op := Op.load 26 (Operand.tmp 8), type := 26, pos := "law.go:91", after := #[{ on := 26, ground := Ground.guard }], guard := some (26, true) }) (v := .agg (qcells a)) rfl (by kernel_rfl) (by kernel_rfl) (by kernel_rfl) (fun _ _ _ h => h) (Or.inl ⟨by rfl, ?yoyb29⟩) hS ?royb29
      case yoyb29 => exact fun w' hS => exec_load_row w' 26 (.tmp 8) rfl p3 (by first | rfl | (simp [Act.eval])) 26 (qcells a) (0, 0) _ (hS.row (by simp)) Tryz.underlying26 rfl info26.out
      go_simp
      refine wpAnyH_ready (rs := [28]) (by kernel_rfl) (by simp) ?_
      refine AllReadyH.cons (o := { dst := some 92, op := Op.call { callee := Callee.value (Operand.func 22), args := #[Operand.tmp 91], argTypes := #[26] }, type := 3, pos := "law.go:91", after := #[{ on := 27, ground := Ground.data }, { on := 26, ground := Ground.chain }, { on := 26, ground := Ground.guard }], guard := some (26, true) }) rfl (fun K hK => ?_) AllReadyH.nil
      go_simp
      go_at_call 22
      refine (H7.out.2.2.2.2.2.2.1 _ hS.t).mono ?_
      rintro e w' ⟨rfl, b⟩
      have hS2 := hS.next b
      clear b hS
      try go_simp
      refine hK.out _ _ hS2 (fun hS => ?_)
      clear hK K hS2
      refine wpAnyH_ready (rs := [30]) (by kernel_rfl) (by simp) ?_
      refine AllReadyH.cons (o := { dst := some 94, op := Op.call { callee := Callee.value (Operand.func 36), args := #[Operand.const (Value.int IntKind.i64 0)], argTypes := #[3] }, type := 26, pos := "law.go:91", after := #[{ on := 28, ground := Ground.chain }, { on := 26, ground := Ground.guard }], guard := some (26, true) }) rfl (fun K hK => ?_) AllReadyH.nil
      go_simp
      go_at_call 36
      refine (H7.out.2.2.2.2.2.2.2.1 _).mono ?_
      rintro e w' ⟨rfl, b⟩
      have hS2 := hS.next b
      clear b hS
      try go_simp
      refine hK.out _ _ hS2 (fun hS => ?_)
      clear hK K hS2
      refine wpAnyH_ready (rs := [31]) (by kernel_rfl) (by simp) ?_
      refine AllReadyH.cons (o := { dst := some 95, op := Op.call { callee := Callee.value (Operand.func 20), args := #[Operand.tmp 93, Operand.tmp 94], argTypes := #[26, 26] }, type := 3, pos := "law.go:91", after := #[{ on := 29, ground := Ground.data }, { on := 30, ground := Ground.data }, { on := 30, ground := Ground.chain }, { on := 26, ground := Ground.guard }], guard := some (26, true) }) rfl (fun K hK => ?_) AllReadyH.nil
      go_simp
      go_at_call 20
      refine (H7.out.2.2.2.2.2.2.2.2 _ hS.t).mono ?_
      rintro e w' ⟨rfl, b⟩
      have hS2 := hS.next b
      clear b hS
      try go_simp
      refine hK.out _ _ hS2 (fun hS => ?_)
      clear hK K hS2
      refine wpAnyH_take (i := 32) (oi := { dst := some 96, op := Op.binOp BinOp.eql 3 (Operand.tmp 92) (Operand.tmp 95) 3, type := 4, pos := "law.go:91", after := #[{ on := 28, ground := Ground.data }, { on := 31, ground := Ground.data }, { on := 26, ground := Ground.guard }], guard := some (26, true) }) (v := ?voyb32) rfl (by kernel_rfl) (by kernel_rfl) (by kernel_rfl) (fun _ _ _ h => h) (Or.inl ⟨by rfl, ?yoyb32⟩) hS ?royb32
      case yoyb32 => (intro w hS; go_simp; try with_reducible rfl)
      go_simp
      refine wpAnyH_take (i := 33) (oi := { dst := some 97, op := Op.pick (Operand.tmp 90) (Operand.tmp 96) (Operand.const (Value.bool false)), type := 4, pos := "law.go:91", after := #[{ on := 26, ground := Ground.data }, { on := 32, ground := Ground.data }], guard := none }) (v := ?voyb33) rfl (by kernel_rfl) (by kernel_rfl) (by kernel_rfl) (fun _ _ _ h => h) (Or.inl ⟨by rfl, ?yoyb33⟩) hS ?royb33
      case yoyb33 => (intro w hS; go_simp; try with_reducible rfl)
      go_simp
      refine wpAnyH_take (i := 34) (oi := { dst := some 6, op := Op.assign (Operand.tmp 97), type := 4, pos := "law.go:91", after := #[{ on := 33, ground := Ground.data }, { on := 31, ground := Ground.chain }, { on := 0, ground := Ground.phase }, { on := 1, ground := Ground.phase }, { on := 2, ground := Ground.phase }, { on := 3, ground := Ground.phase }, { on := 4, ground := Ground.phase }, { on := 5, ground := Ground.phase }, { on := 6, ground := Ground.phase }, { on := 7, ground := Ground.phase }, { on := 8, ground := Ground.phase }, { on := 9, ground := Ground.phase }, { on := 10, ground := Ground.phase }, { on := 11, ground := Ground.phase }, { on := 12, ground := Ground.phase }, { on := 13, ground := Ground.phase }, { on := 14, ground := Ground.phase }, { on := 15, ground := Ground.phase }, { on := 16, ground := Ground.phase }, { on := 17, ground := Ground.phase }, { on := 18, ground := Ground.phase }, { on := 19, ground := Ground.phase }, { on := 20, ground := Ground.phase }, { on := 21, ground := Ground.phase }, { on := 22, ground := Ground.phase }, { on := 23, ground := Ground.phase }, { on := 24, ground := Ground.phase }, { on := 25, ground := Ground.phase }, { on := 26, ground := Ground.phase }, { on := 27, ground := Ground.phase }, { on := 28, ground := Ground.phase }, { on := 29, ground := Ground.phase }, { on := 30, ground := Ground.phase }, { on := 31, ground := Ground.phase }, { on := 32, ground := Ground.phase }, { on := 33, ground := Ground.phase }], guard := none }) (v := ?voyb34) rfl (by kernel_rfl) (by kernel_rfl) (by kernel_rfl) (fun _ _ _ h => h) (Or.inl ⟨by rfl, ?yoyb34⟩) hS ?royb34
      case yoyb34 => (intro w hS; go_simp; try with_reducible rfl)
      refine wpAnyH_done (by kernel_rfl) ?_ _
      go_wp2
      go_ret
      exact ⟨rfl, hS.b⟩
    · have HX := Lib.hid (And.intro (decide_eq_false hx) (And.intro (decide_eq_false hy) (decide_eq_true (HTR.out (by omega) (by omega)))))
      clear hx hy
      have hx := HX.out.1
      have hy := HX.out.2.1
      have hv := HX.out.2.2
      have W1 := HI.out.1
      have W1b := HI.out.2.1
      have E1 := HI.out.2.2.1
      have e0 := HI.out.2.2.2.1
      refine wp_region_held_drew (S := KB w [(p7, qcells c), (p5, qcells b), (p3, qcells a)]) (by kernel_rfl) HS8.out.drew (fun hS => ?_)
      clear HS8
      refine wpAnyH_take (i := 0) (oi := { dst := some 23, op := Op.move (Operand.tmp 11), type := 3, pos := "law.go:90", after := #[], guard := none }) (v := ?voza0) rfl (by kernel_rfl) (by kernel_rfl) (by kernel_rfl) (fun _ _ _ h => h) (Or.inl ⟨by rfl, ?yoza0⟩) hS ?roza0
      case yoza0 => (intro w hS; go_simp; try with_reducible rfl)
      refine wpAnyH_take (i := 1) (oi := { dst := some 24, op := Op.load 26 (Operand.tmp 9), type := 26, pos := "law.go:90", after := #[], guard := none }) (v := .agg (qcells b)) rfl (by kernel_rfl) (by kernel_rfl) (by kernel_rfl) (fun _ _ _ h => h) (Or.inl ⟨by rfl, ?yoza1⟩) hS ?roza1
      case yoza1 => exact fun w' hS => exec_load_row w' 26 (.tmp 9) rfl p5 (by first | rfl | (simp [Act.eval])) 26 (qcells b) (0, 0) _ (hS.row (by simp)) Tryz.underlying26 rfl info26.out
      refine wpAnyH_take (i := 2) (oi := { dst := some 25, op := Op.load 26 (Operand.tmp 8), type := 26, pos := "law.go:90", after := #[], guard := none }) (v := .agg (qcells a)) rfl (by kernel_rfl) (by kernel_rfl) (by kernel_rfl) (fun _ _ _ h => h) (Or.inl ⟨by rfl, ?yoza2⟩) hS ?roza2
      case yoza2 => exact fun w' hS => exec_load_row w' 26 (.tmp 8) rfl p3 (by first | rfl | (simp [Act.eval])) 26 (qcells a) (0, 0) _ (hS.row (by simp)) Tryz.underlying26 rfl info26.out
      go_simp
      refine wpAnyH_ready (rs := [3]) (by kernel_rfl) (by simp) ?_
      refine AllReadyH.cons (o := { dst := some 26, op := Op.call { callee := Callee.value (Operand.func 20), args := #[Operand.tmp 24, Operand.tmp 25], argTypes := #[26, 26] }, type := 3, pos := "law.go:90", after := #[{ on := 1, ground := Ground.data }, { on := 2, ground := Ground.data }], guard := none }) rfl (fun K hK => ?_) AllReadyH.nil
      go_simp
      go_at_call 20
      refine (H6.out.1 _ hS.t).mono ?_
      rintro e w' ⟨rfl, b⟩
      have hS2 := hS.next b
      clear b hS
      try go_simp
      refine hK.out _ _ hS2 (fun hS => ?_)
      clear hK K hS2
      refine wpAnyH_take (i := 4) (oi := { dst := some 27, op := Op.unOp UnOp.neg 3 (Operand.tmp 26), type := 3, pos := "law.go:90", after := #[{ on := 3, ground := Ground.data }], guard := none }) (v := ?voza4) rfl (by kernel_rfl) (by kernel_rfl) (by kernel_rfl) (fun _ _ _ h => h) (Or.inl ⟨by rfl, ?yoza4⟩) hS ?roza4
      case yoza4 => (intro w hS; go_simp; try with_reducible rfl)
      go_simp
      refine wpAnyH_take (i := 5) (oi := { dst := some 28, op := Op.binOp BinOp.eql 3 (Operand.tmp 23) (Operand.tmp 27) 3, type := 4, pos := "law.go:90", after := #[{ on := 0, ground := Ground.data }, { on := 4, ground := Ground.data }], guard := none }) (v := ?voza5) rfl (by kernel_rfl) (by kernel_rfl) (by kernel_rfl) (fun _ _ _ h => h) (Or.inl ⟨by rfl, ?yoza5⟩) hS ?roza5
      case yoza5 => (intro w hS; go_simp; try with_reducible rfl)
      go_simp
      refine wpAnyH_take (i := 6) (oi := { dst := some 29, op := Op.move (Operand.tmp 28), type := 4, pos := "law.go:90", after := #[{ on := 5, ground := Ground.data }, { on := 3, ground := Ground.chain }], guard := none }) (v := ?voza6) rfl (by kernel_rfl) (by kernel_rfl) (by kernel_rfl) (fun _ _ _ h => h) (Or.inl ⟨by rfl, ?yoza6⟩) hS ?roza6
      case yoza6 => (intro w hS; go_simp; try with_reducible rfl)
      go_simp
      refine wpAnyH_take (i := 7) (oi := { dst := some 30, op := Op.move (Operand.tmp 11), type := 3, pos := "law.go:90", after := #[{ on := 6, ground := Ground.guard }], guard := some (6, true) }) (v := ?voza7) rfl (by kernel_rfl) (by kernel_rfl) (by kernel_rfl) (fun _ _ _ h => h) (Or.inl ⟨by rfl, ?yoza7⟩) hS ?roza7
      case yoza7 => (intro w hS; go_simp; try with_reducible rfl)
      refine wpAnyH_take (i := 9) (oi := { dst := some 32, op := Op.load 26 (Operand.tmp 8), type := 26, pos := "law.go:90", after := #[{ on := 6, ground := Ground.guard }], guard := some (6, true) }) (v := .agg (qcells a)) rfl (by kernel_rfl) (by kernel_rfl) (by kernel_rfl) (fun _ _ _ h => h) (Or.inl ⟨by rfl, ?yoza9⟩) hS ?roza9
      case yoza9 => exact fun w' hS => exec_load_row w' 26 (.tmp 8) rfl p3 (by first | rfl | (simp [Act.eval])) 26 (qcells a) (0, 0) _ (hS.row (by simp)) Tryz.underlying26 rfl info26.out
      refine wpAnyH_take (i := 10) (oi := { dst := some 33, op := Op.load 26 (Operand.tmp 9), type := 26, pos := "law.go:90", after := #[{ on := 6, ground := Ground.guard }], guard := some (6, true) }) (v := .agg (qcells b)) rfl (by kernel_rfl) (by kernel_rfl) (by kernel_rfl) (fun _ _ _ h => h) (Or.inl ⟨by rfl, ?yoza10⟩) hS ?roza10
      case yoza10 => exact fun w' hS => exec_load_row w' 26 (.tmp 9) rfl p5 (by first | rfl | (simp [Act.eval])) 26 (qcells b) (0, 0) _ (hS.row (by simp)) Tryz.underlying26 rfl info26.out
      go_simp
      refine wpAnyH_take (i := 8) (oi := { dst := some 31, op := Op.binOp BinOp.eql 3 (Operand.tmp 30) (Operand.const (Value.int IntKind.i64 0)) 3, type := 4, pos := "law.go:90", after := #[{ on := 7, ground := Ground.data }, { on := 6, ground := Ground.guard }], guard := some (6, true) }) (v := ?voza8) rfl (by kernel_rfl) (by kernel_rfl) (by kernel_rfl) (fun _ _ _ h => h) (Or.inl ⟨by rfl, ?yoza8⟩) hS ?roza8
      case yoza8 => (intro w hS; go_simp; try with_reducible rfl)
      refine wpAnyH_take (i := 11) (oi := { dst := some 34, op := Op.binOp BinOp.eql 26 (Operand.tmp 32) (Operand.tmp 33) 26, type := 4, pos := "law.go:90", after := #[{ on := 9, ground := Ground.data }, { on := 10, ground := Ground.data }, { on := 6, ground := Ground.guard }], guard := some (6, true) }) (v := ?voza11) rfl (by kernel_rfl) (by kernel_rfl) (by kernel_rfl) (fun _ _ _ h => h) (Or.inl ⟨by rfl, ?yoza11⟩) hS ?roza11
      case yoza11 => (intro w hS; go_simp; try with_reducible rfl)
      go_simp
      refine wpAnyH_take (i := 12) (oi := { dst := some 35, op := Op.binOp BinOp.eql 4 (Operand.tmp 31) (Operand.tmp 34) 4, type := 4, pos := "law.go:90", after := #[{ on := 8, ground := Ground.data }, { on := 11, ground := Ground.data }, { on := 6, ground := Ground.guard }], guard := some (6, true) }) (v := ?voza12) rfl (by kernel_rfl) (by kernel_rfl) (by kernel_rfl) (fun _ _ _ h => h) (Or.inl ⟨by rfl, ?yoza12⟩) hS ?roza12
      case yoza12 => (intro w hS; go_simp; try with_reducible rfl)
      go_simp
      refine wpAnyH_take (i := 13) (oi := { dst := some 36, op := Op.pick (Operand.tmp 29) (Operand.tmp 35) (Operand.const (Value.bool false)), type := 4, pos := "law.go:90", after := #[{ on := 6, ground := Ground.data }, { on := 12, ground := Ground.data }], guard := none }) (v := ?voza13) rfl (by kernel_rfl) (by kernel_rfl) (by kernel_rfl) (fun _ _ _ h => h) (Or.inl ⟨by rfl, ?yoza13⟩) hS ?roza13
      case yoza13 => (intro w hS; go_simp; try with_reducible rfl)
      go_simp
      refine wpAnyH_take (i := 14) (oi := { dst := some 37, op := Op.move (Operand.tmp 36), type := 4, pos := "law.go:90", after := #[{ on := 13, ground := Ground.data }, { on := 6, ground := Ground.chain }], guard := none }) (v := ?voza14) rfl (by kernel_rfl) (by kernel_rfl) (by kernel_rfl) (fun _ _ _ h => h) (Or.inl ⟨by rfl, ?yoza14⟩) hS ?roza14
      case yoza14 => (intro w hS; go_simp; try with_reducible rfl)
      go_simp
      refine wpAnyH_take (i := 15) (oi := { dst := some 38, op := Op.move (Operand.tmp 11), type := 3, pos := "law.go:90", after := #[{ on := 14, ground := Ground.guard }], guard := some (14, true) }) (v := ?voza15) rfl (by kernel_rfl) (by kernel_rfl) (by kernel_rfl) (fun _ _ _ h => h) (Or.inl ⟨by rfl, ?yoza15⟩) hS ?roza15
      case yoza15 => (intro w hS; go_simp; try with_reducible rfl)
      go_simp
      refine wpAnyH_take (i := 16) (oi := { dst := some 39, op := Op.binOp BinOp.lss 3 (Operand.tmp 38) (Operand.const (Value.int IntKind.i64 0)) 3, type := 4, pos := "law.go:90", after := #[{ on := 15, ground := Ground.data }, { on := 14, ground := Ground.guard }], guard := some (14, true) }) (v := ?voza16) rfl (by kernel_rfl) (by kernel_rfl) (by kernel_rfl) (fun _ _ _ h => h) (Or.inl ⟨by rfl, ?yoza16⟩) hS ?roza16
      case yoza16 => (intro w hS; go_simp; try with_reducible rfl)
      go_simp
      refine wpAnyH_take (i := 17) (oi := { dst := some 40, op := Op.move (Operand.tmp 39), type := 4, pos := "law.go:90", after := #[{ on := 16, ground := Ground.data }, { on := 14, ground := Ground.chain }, { on := 14, ground := Ground.guard }], guard := some (14, true) }) (v := ?voza17) rfl (by kernel_rfl) (by kernel_rfl) (by kernel_rfl) (fun _ _ _ h => h) (Or.inl ⟨by rfl, ?yoza17⟩) hS ?roza17
      case yoza17 => (intro w hS; go_simp; try with_reducible rfl)
      go_simp
      refine wpAnyH_take (i := 18) (oi := { dst := some 41, op := Op.load 26 (Operand.tmp 9), type := 26, pos := "law.go:90", after := #[{ on := 17, ground := Ground.guard }], guard := some (17, false) }) (v := .agg (qcells b)) rfl (by kernel_rfl) (by kernel_rfl) (by kernel_rfl) (fun _ _ _ h => h) (Or.inl ⟨by rfl, ?yoza18⟩) hS ?roza18
      case yoza18 => exact fun w' hS => exec_load_row w' 26 (.tmp 9) rfl p5 (by first | rfl | (simp [Act.eval])) 26 (qcells b) (0, 0) _ (hS.row (by simp)) Tryz.underlying26 rfl info26.out
      refine wpAnyH_take (i := 19) (oi := { dst := some 42, op := Op.load 26 (Operand.tmp 10), type := 26, pos := "law.go:90", after := #[{ on := 17, ground := Ground.guard }], guard := some (17, false) }) (v := .agg (qcells c)) rfl (by kernel_rfl) (by kernel_rfl) (by kernel_rfl) (fun _ _ _ h => h) (Or.inl ⟨by rfl, ?yoza19⟩) hS ?roza19
      case yoza19 => exact fun w' hS => exec_load_row w' 26 (.tmp 10) rfl p7 (by first | rfl | (simp [Act.eval])) 26 (qcells c) (0, 0) _ (hS.row (by simp)) Tryz.underlying26 rfl info26.out
      go_simp
      refine wpAnyH_ready (rs := [20]) (by kernel_rfl) (by simp) ?_
      refine AllReadyH.cons (o := { dst := some 43, op := Op.call { callee := Callee.value (Operand.func 20), args := #[Operand.tmp 41, Operand.tmp 42], argTypes := #[26, 26] }, type := 3, pos := "law.go:90", after := #[{ on := 18, ground := Ground.data }, { on := 19, ground := Ground.data }, { on := 17, ground := Ground.chain }, { on := 17, ground := Ground.guard }], guard := some (17, false) }) rfl (fun K hK => ?_) AllReadyH.nil
      go_simp
      go_at_call 20
      refine (H6.out.2.1 _ hS.t).mono ?_
      rintro e w' ⟨rfl, b⟩
      have hS2 := hS.next b
      clear b hS
      try go_simp
      refine hK.out _ _ hS2 (fun hS => ?_)
      clear hK K hS2
      refine wpAnyH_take (i := 21) (oi := { dst := some 44, op := Op.binOp BinOp.lss 3 (Operand.tmp 43) (Operand.const (Value.int IntKind.i64 0)) 3, type := 4, pos := "law.go:90", after := #[{ on := 20, ground := Ground.data }, { on := 17, ground := Ground.guard }], guard := some (17, false) }) (v := ?voza21) rfl (by kernel_rfl) (by kernel_rfl) (by kernel_rfl) (fun _ _ _ h => h) (Or.inl ⟨by rfl, ?yoza21⟩) hS ?roza21
      case yoza21 => (intro w hS; go_simp; try with_reducible rfl)
      go_simp
      refine wpAnyH_take (i := 22) (oi := { dst := some 45, op := Op.pick (Operand.tmp 40) (Operand.const (Value.bool true)) (Operand.tmp 44), type := 4, pos := "law.go:90", after := #[{ on := 17, ground := Ground.data }, { on := 21, ground := Ground.data }, { on := 14, ground := Ground.guard }], guard := some (14, true) }) (v := ?voza22) rfl (by kernel_rfl) (by kernel_rfl) (by kernel_rfl) (fun _ _ _ h => h) (Or.inl ⟨by rfl, ?yoza22⟩) hS ?roza22
      case yoza22 => (intro w hS; go_simp; try with_reducible rfl)
      go_simp
      refine wpAnyH_take (i := 23) (oi := { dst := some 46, op := Op.move (Operand.tmp 45), type := 4, pos := "law.go:90", after := #[{ on := 22, ground := Ground.data }, { on := 20, ground := Ground.chain }, { on := 14, ground := Ground.guard }], guard := some (14, true) }) (v := ?voza23) rfl (by kernel_rfl) (by kernel_rfl) (by kernel_rfl) (fun _ _ _ h => h) (Or.inl ⟨by rfl, ?yoza23⟩) hS ?roza23
      case yoza23 => (intro w hS; go_simp; try with_reducible rfl)
      go_simp
      refine wpAnyH_take (i := 24) (oi := { dst := some 47, op := Op.load 26 (Operand.tmp 8), type := 26, pos := "law.go:90", after := #[{ on := 23, ground := Ground.guard }], guard := some (23, false) }) (v := .agg (qcells a)) rfl (by kernel_rfl) (by kernel_rfl) (by kernel_rfl) (fun _ _ _ h => h) (Or.inl ⟨by rfl, ?yoza24⟩) hS ?roza24
      case yoza24 => exact fun w' hS => exec_load_row w' 26 (.tmp 8) rfl p3 (by first | rfl | (simp [Act.eval])) 26 (qcells a) (0, 0) _ (hS.row (by simp)) Tryz.underlying26 rfl info26.out
      refine wpAnyH_take (i := 25) (oi := { dst := some 48, op := Op.load 26 (Operand.tmp 10), type := 26, pos := "law.go:90", after := #[{ on := 23, ground := Ground.guard }], guard := some (23, false) }) (v := .agg (qcells c)) rfl (by kernel_rfl) (by kernel_rfl) (by kernel_rfl) (fun _ _ _ h => h) (Or.inl ⟨by rfl, ?yoza25⟩) hS ?roza25
      case yoza25 => exact fun w' hS => exec_load_row w' 26 (.tmp 10) rfl p7 (by first | rfl | (simp [Act.eval])) 26 (qcells c) (0, 0) _ (hS.row (by simp)) Tryz.underlying26 rfl info26.out
      go_simp
      refine wpAnyH_ready (rs := [26]) (by kernel_rfl) (by simp) ?_
      refine AllReadyH.cons (o := { dst := some 49, op := Op.call { callee := Callee.value (Operand.func 20), args := #[Operand.tmp 47, Operand.tmp 48], argTypes := #[26, 26] }, type := 3, pos := "law.go:90", after := #[{ on := 24, ground := Ground.data }, { on := 25, ground := Ground.data }, { on := 23, ground := Ground.chain }, { on := 23, ground := Ground.guard }], guard := some (23, false) }) rfl (fun K hK => ?_) AllReadyH.nil
      go_simp
      go_at_call 20
      refine (H6.out.2.2.1 _ hS.t).mono ?_
      rintro e w' ⟨rfl, b⟩
      have hS2 := hS.next b
      clear b hS
      try go_simp
      refine hK.out _ _ hS2 (fun hS => ?_)
      clear hK K hS2
      refine wpAnyH_take (i := 27) (oi := { dst := some 50, op := Op.binOp BinOp.geq 3 (Operand.tmp 49) (Operand.const (Value.int IntKind.i64 0)) 3, type := 4, pos := "law.go:90", after := #[{ on := 26, ground := Ground.data }, { on := 23, ground := Ground.guard }], guard := some (23, false) }) (v := ?voza27) rfl (by kernel_rfl) (by kernel_rfl) (by kernel_rfl) (fun _ _ _ h => h) (Or.inl ⟨by rfl, ?yoza27⟩) hS ?roza27
      case yoza27 => (intro w hS; go_simp; try with_reducible rfl)
      go_simp
      refine wpAnyH_take (i := 28) (oi := { dst := some 51, op := Op.pick (Operand.tmp 46) (Operand.const (Value.bool true)) (Operand.tmp 50), type := 4, pos := "law.go:90", after := #[{ on := 23, ground := Ground.data }, { on := 27, ground := Ground.data }, { on := 14, ground := Ground.guard }], guard := some (14, true) }) (v := ?voza28) rfl (by kernel_rfl) (by kernel_rfl) (by kernel_rfl) (fun _ _ _ h => h) (Or.inl ⟨by rfl, ?yoza28⟩) hS ?roza28
      case yoza28 => (intro w hS; go_simp; try with_reducible rfl)
      go_simp
      refine wpAnyH_take (i := 29) (oi := { dst := some 52, op := Op.pick (Operand.tmp 37) (Operand.tmp 51) (Operand.const (Value.bool false)), type := 4, pos := "law.go:90", after := #[{ on := 14, ground := Ground.data }, { on := 28, ground := Ground.data }], guard := none }) (v := ?voza29) rfl (by kernel_rfl) (by kernel_rfl) (by kernel_rfl) (fun _ _ _ h => h) (Or.inl ⟨by rfl, ?yoza29⟩) hS ?roza29
      case yoza29 => (intro w hS; go_simp; try with_reducible rfl)
      go_simp
      refine wpAnyH_take (i := 30) (oi := { dst := some 53, op := Op.move (Operand.tmp 52), type := 4, pos := "law.go:90", after := #[{ on := 29, ground := Ground.data }, { on := 26, ground := Ground.chain }], guard := none }) (v := ?voza30) rfl (by kernel_rfl) (by kernel_rfl) (by kernel_rfl) (fun _ _ _ h => h) (Or.inl ⟨by rfl, ?yoza30⟩) hS ?roza30
      case yoza30 => (intro w hS; go_simp; try with_reducible rfl)
      go_simp
      refine wpAnyH_take (i := 31) (oi := { dst := some 54, op := Op.load 26 (Operand.tmp 8), type := 26, pos := "law.go:90", after := #[{ on := 30, ground := Ground.guard }], guard := some (30, true) }) (v := .agg (qcells a)) rfl (by kernel_rfl) (by kernel_rfl) (by kernel_rfl) (fun _ _ _ h => h) (Or.inl ⟨by rfl, ?yoza31⟩) hS ?roza31
      case yoza31 => exact fun w' hS => exec_load_row w' 26 (.tmp 8) rfl p3 (by first | rfl | (simp [Act.eval])) 26 (qcells a) (0, 0) _ (hS.row (by simp)) Tryz.underlying26 rfl info26.out
      refine wpAnyH_take (i := 32) (oi := { dst := some 55, op := Op.load 26 (Operand.tmp 10), type := 26, pos := "law.go:90", after := #[{ on := 30, ground := Ground.guard }], guard := some (30, true) }) (v := .agg (qcells c)) rfl (by kernel_rfl) (by kernel_rfl) (by kernel_rfl) (fun _ _ _ h => h) (Or.inl ⟨by rfl, ?yoza32⟩) hS ?roza32
      case yoza32 => exact fun w' hS => exec_load_row w' 26 (.tmp 10) rfl p7 (by first | rfl | (simp [Act.eval])) 26 (qcells c) (0, 0) _ (hS.row (by simp)) Tryz.underlying26 rfl info26.out
      refine wpAnyH_take (i := 34) (oi := { dst := some 57, op := Op.load 26 (Operand.tmp 9), type := 26, pos := "law.go:90", after := #[{ on := 30, ground := Ground.guard }], guard := some (30, true) }) (v := .agg (qcells b)) rfl (by kernel_rfl) (by kernel_rfl) (by kernel_rfl) (fun _ _ _ h => h) (Or.inl ⟨by rfl, ?yoza34⟩) hS ?roza34
      case yoza34 => exact fun w' hS => exec_load_row w' 26 (.tmp 9) rfl p5 (by first | rfl | (simp [Act.eval])) 26 (qcells b) (0, 0) _ (hS.row (by simp)) Tryz.underlying26 rfl info26.out
      refine wpAnyH_take (i := 35) (oi := { dst := some 58, op := Op.load 26 (Operand.tmp 10), type := 26, pos := "law.go:90", after := #[{ on := 30, ground := Ground.guard }], guard := some (30, true) }) (v := .agg (qcells c)) rfl (by kernel_rfl) (by kernel_rfl) (by kernel_rfl) (fun _ _ _ h => h) (Or.inl ⟨by rfl, ?yoza35⟩) hS ?roza35
      case yoza35 => exact fun w' hS => exec_load_row w' 26 (.tmp 10) rfl p7 (by first | rfl | (simp [Act.eval])) 26 (qcells c) (0, 0) _ (hS.row (by simp)) Tryz.underlying26 rfl info26.out
      refine wpAnyH_take (i := 38) (oi := { dst := some 61, op := Op.move (Operand.tmp 11), type := 3, pos := "law.go:90", after := #[{ on := 30, ground := Ground.guard }], guard := some (30, true) }) (v := ?voza38) rfl (by kernel_rfl) (by kernel_rfl) (by kernel_rfl) (fun _ _ _ h => h) (Or.inl ⟨by rfl, ?yoza38⟩) hS ?roza38
      case yoza38 => (intro w hS; go_simp; try with_reducible rfl)
      go_simp
      refine wpAnyH_ready (rs := [33]) (by kernel_rfl) (by simp) ?_
      refine AllReadyH.cons (o := { dst := some 56, op := Op.call { callee := Callee.value (Operand.func 14), args := #[Operand.tmp 54, Operand.tmp 55], argTypes := #[26, 26] }, type := 26, pos := "law.go:90", after := #[{ on := 31, ground := Ground.data }, { on := 32, ground := Ground.data }, { on := 30, ground := Ground.chain }, { on := 30, ground := Ground.guard }], guard := some (30, true) }) rfl (fun K hK => ?_) AllReadyH.nil
      go_simp
      go_at_call 14
      refine (H6.out.2.2.2.1 _ hS.t).mono ?_
      rintro e w' ⟨rfl, b⟩
      have hS2 := hS.next b
      clear b hS
      try go_simp
      refine hK.out _ _ hS2 (fun hS => ?_)
      clear hK K hS2
      refine wpAnyH_ready (rs := [36]) (by kernel_rfl) (by simp) ?_
      refine AllReadyH.cons (o := { dst := some 59, op := Op.call { callee := Callee.value (Operand.func 14), args := #[Operand.tmp 57, Operand.tmp 58], argTypes := #[26, 26] }, type := 26, pos := "law.go:90", after := #[{ on := 34, ground := Ground.data }, { on := 35, ground := Ground.data }, { on := 33, ground := Ground.chain }, { on := 30, ground := Ground.guard }], guard := some (30, true) }) rfl (fun K hK => ?_) AllReadyH.nil
      go_simp
      go_at_call 14
      refine (H6.out.2.2.2.2.1 _ hS.t).mono ?_
      rintro e w' ⟨rfl, b⟩
      have hS2 := hS.next b
      clear b hS
      try go_simp
      refine hK.out _ _ hS2 (fun hS => ?_)
      clear hK K hS2
      refine wpAnyH_ready (rs := [37]) (by kernel_rfl) (by simp) ?_
      refine AllReadyH.cons (o := { dst := some 60, op := Op.call { callee := Callee.value (Operand.func 20), args := #[Operand.tmp 56, Operand.tmp 59], argTypes := #[26, 26] }, type := 3, pos := "law.go:90", after := #[{ on := 33, ground := Ground.data }, { on := 36, ground := Ground.data }, { on := 36, ground := Ground.chain }, { on := 30, ground := Ground.guard }], guard := some (30, true) }) rfl (fun K hK => ?_) AllReadyH.nil
      go_simp
      go_at_call 20
      refine (H6.out.2.2.2.2.2 _ hS.t).mono ?_
      rintro e w' ⟨rfl, b⟩
      have hS2 := hS.next b
      clear b hS
      try go_simp
      refine hK.out _ _ hS2 (fun hS => ?_)
      clear hK K hS2
      refine wpAnyH_take (i := 39) (oi := { dst := some 62, op := Op.binOp BinOp.eql 3 (Operand.tmp 60) (Operand.tmp 61) 3, type := 4, pos := "law.go:90", after := #[{ on := 37, ground := Ground.data }, { on := 38, ground := Ground.data }, { on := 30, ground := Ground.guard }], guard := some (30, true) }) (v := ?voza39) rfl (by kernel_rfl) (by kernel_rfl) (by kernel_rfl) (fun _ _ _ h => h) (Or.inl ⟨by rfl, ?yoza39⟩) hS ?roza39
      case yoza39 => (intro w hS; go_simp; try with_reducible rfl)
      go_simp
      refine wpAnyH_take (i := 40) (oi := { dst := some 63, op := Op.pick (Operand.tmp 53) (Operand.tmp 62) (Operand.const (Value.bool false)), type := 4, pos := "law.go:90", after := #[{ on := 30, ground := Ground.data }, { on := 39, ground := Ground.data }], guard := none }) (v := ?voza40) rfl (by kernel_rfl) (by kernel_rfl) (by kernel_rfl) (fun _ _ _ h => h) (Or.inl ⟨by rfl, ?yoza40⟩) hS ?roza40
      case yoza40 => (intro w hS; go_simp; try with_reducible rfl)
      go_simp
      refine wpAnyH_take (i := 41) (oi := { dst := some 12, op := Op.assign (Operand.tmp 63), type := 4, pos := "law.go:90", after := #[{ on := 40, ground := Ground.data }, { on := 37, ground := Ground.chain }, { on := 0, ground := Ground.phase }, { on := 1, ground := Ground.phase }, { on := 2, ground := Ground.phase }, { on := 3, ground := Ground.phase }, { on := 4, ground := Ground.phase }, { on := 5, ground := Ground.phase }, { on := 6, ground := Ground.phase }, { on := 7, ground := Ground.phase }, { on := 8, ground := Ground.phase }, { on := 9, ground := Ground.phase }, { on := 10, ground := Ground.phase }, { on := 11, ground := Ground.phase }, { on := 12, ground := Ground.phase }, { on := 13, ground := Ground.phase }, { on := 14, ground := Ground.phase }, { on := 15, ground := Ground.phase }, { on := 16, ground := Ground.phase }, { on := 17, ground := Ground.phase }, { on := 18, ground := Ground.phase }, { on := 19, ground := Ground.phase }, { on := 20, ground := Ground.phase }, { on := 21, ground := Ground.phase }, { on := 22, ground := Ground.phase }, { on := 23, ground := Ground.phase }, { on := 24, ground := Ground.phase }, { on := 25, ground := Ground.phase }, { on := 26, ground := Ground.phase }, { on := 27, ground := Ground.phase }, { on := 28, ground := Ground.phase }, { on := 29, ground := Ground.phase }, { on := 30, ground := Ground.phase }, { on := 31, ground := Ground.phase }, { on := 32, ground := Ground.phase }, { on := 33, ground := Ground.phase }, { on := 34, ground := Ground.phase }, { on := 35, ground := Ground.phase }, { on := 36, ground := Ground.phase }, { on := 37, ground := Ground.phase }, { on := 38, ground := Ground.phase }, { on := 39, ground := Ground.phase }, { on := 40, ground := Ground.phase }], guard := none }) (v := ?voza41) rfl (by kernel_rfl) (by kernel_rfl) (by kernel_rfl) (fun _ _ _ h => h) (Or.inl ⟨by rfl, ?yoza41⟩) hS ?roza41
      case yoza41 => (intro w hS; go_simp; try with_reducible rfl)
      refine wpAnyH_done (by kernel_rfl) ?_ _
      have HR6 := Lib.hid hS
      clear hS W1 W1b E1 e0 hx hy hv
      go_upto_region 7 with fail
      have W2 := HI.out.2.2.2.2.1
      have W2b := HI.out.2.2.2.2.2
      refine wp_region_held_drew (S := KB w [(p7, qcells c), (p5, qcells b), (p3, qcells a)]) (by kernel_rfl) HR6.out.drew (fun hS => ?_)
      clear HR6
      refine wpAnyH_take (i := 0) (oi := { dst := some 64, op := Op.move (Operand.tmp 7), type := 4, pos := "law.go:91", after := #[], guard := none }) (v := ?vozb0) rfl (by kernel_rfl) (by kernel_rfl) (by kernel_rfl) (fun _ _ _ h => h) (Or.inl ⟨by rfl, ?yozb0⟩) hS ?rozb0
      case yozb0 => (intro w hS; go_simp; try with_reducible rfl)
      go_simp
      refine wpAnyH_take (i := 1) (oi := { dst := some 65, op := Op.move (Operand.tmp 64), type := 4, pos := "law.go:91", after := #[{ on := 0, ground := Ground.data }], guard := none }) (v := ?vozb1) rfl (by kernel_rfl) (by kernel_rfl) (by kernel_rfl) (fun _ _ _ h => h) (Or.inl ⟨by rfl, ?yozb1⟩) hS ?rozb1
      case yozb1 => (intro w hS; go_simp; try with_reducible rfl)
      go_simp
      refine wpAnyH_take (i := 2) (oi := { dst := some 66, op := Op.move (Operand.tmp 12), type := 4, pos := "law.go:91", after := #[{ on := 1, ground := Ground.guard }], guard := some (1, true) }) (v := ?vozb2) rfl (by kernel_rfl) (by kernel_rfl) (by kernel_rfl) (fun _ _ _ h => h) (Or.inl ⟨by rfl, ?yozb2⟩) hS ?rozb2
      case yozb2 => (intro w hS; go_simp; try with_reducible rfl)
      go_simp
      refine wpAnyH_take (i := 3) (oi := { dst := some 67, op := Op.pick (Operand.tmp 65) (Operand.tmp 66) (Operand.const (Value.bool false)), type := 4, pos := "law.go:91", after := #[{ on := 1, ground := Ground.data }, { on := 2, ground := Ground.data }], guard := none }) (v := ?vozb3) rfl (by kernel_rfl) (by kernel_rfl) (by kernel_rfl) (fun _ _ _ h => h) (Or.inl ⟨by rfl, ?yozb3⟩) hS ?rozb3
      case yozb3 => (intro w hS; go_simp; try with_reducible rfl)
      go_simp
      refine wpAnyH_take (i := 4) (oi := { dst := some 68, op := Op.move (Operand.tmp 67), type := 4, pos := "law.go:91", after := #[{ on := 3, ground := Ground.data }, { on := 1, ground := Ground.chain }], guard := none }) (v := ?vozb4) rfl (by kernel_rfl) (by kernel_rfl) (by kernel_rfl) (fun _ _ _ h => h) (Or.inl ⟨by rfl, ?yozb4⟩) hS ?rozb4
      case yozb4 => (intro w hS; go_simp; try with_reducible rfl)
      go_simp
      refine wpAnyH_take (i := 5) (oi := { dst := some 69, op := Op.load 26 (Operand.tmp 8), type := 26, pos := "law.go:91", after := #[{ on := 4, ground := Ground.guard }], guard := some (4, true) }) (v := .agg (qcells a)) rfl (by kernel_rfl) (by kernel_rfl) (by kernel_rfl) (fun _ _ _ h => h) (Or.inl ⟨by rfl, ?yozb5⟩) hS ?rozb5
      case yozb5 => exact fun w' hS => exec_load_row w' 26 (.tmp 8) rfl p3 (by first | rfl | (simp [Act.eval])) 26 (qcells a) (0, 0) _ (hS.row (by simp)) Tryz.underlying26 rfl info26.out
      refine wpAnyH_take (i := 6) (oi := { dst := some 70, op := Op.load 26 (Operand.tmp 10), type := 26, pos := "law.go:91", after := #[{ on := 4, ground := Ground.guard }], guard := some (4, true) }) (v := .agg (qcells c)) rfl (by kernel_rfl) (by kernel_rfl) (by kernel_rfl) (fun _ _ _ h => h) (Or.inl ⟨by rfl, ?yozb6⟩) hS ?rozb6
      case yozb6 => exact fun w' hS => exec_load_row w' 26 (.tmp 10) rfl p7 (by first | rfl | (simp [Act.eval])) 26 (qcells c) (0, 0) _ (hS.row (by simp)) Tryz.underlying26 rfl info26.out
      refine wpAnyH_take (i := 8) (oi := { dst := some 72, op := Op.load 26 (Operand.tmp 9), type := 26, pos := "law.go:91", after := #[{ on := 4, ground := Ground.guard }], guard := some (4, true) }) (v := .agg (qcells b)) rfl (by kernel_rfl) (by kernel_rfl) (by kernel_rfl) (fun _ _ _ h => h) (Or.inl ⟨by rfl, ?yozb8⟩) hS ?rozb8
      case yozb8 => exact fun w' hS => exec_load_row w' 26 (.tmp 9) rfl p5 (by first | rfl | (simp [Act.eval])) 26 (qcells b) (0, 0) _ (hS.row (by simp)) Tryz.underlying26 rfl info26.out
      refine wpAnyH_take (i := 9) (oi := { dst := some 73, op := Op.load 26 (Operand.tmp 10), type := 26, pos := "law.go:91", after := #[{ on := 4, ground := Ground.guard }], guard := some (4, true) }) (v := .agg (qcells c)) rfl (by kernel_rfl) (by kernel_rfl) (by kernel_rfl) (fun _ _ _ h => h) (Or.inl ⟨by rfl, ?yozb9⟩) hS ?rozb9
      case yozb9 => exact fun w' hS => exec_load_row w' 26 (.tmp 10) rfl p7 (by first | rfl | (simp [Act.eval])) 26 (qcells c) (0, 0) _ (hS.row (by simp)) Tryz.underlying26 rfl info26.out
      refine wpAnyH_take (i := 12) (oi := { dst := some 76, op := Op.move (Operand.tmp 11), type := 3, pos := "law.go:91", after := #[{ on := 4, ground := Ground.guard }], guard := some (4, true) }) (v := ?vozb12) rfl (by kernel_rfl) (by kernel_rfl) (by kernel_rfl) (fun _ _ _ h => h) (Or.inl ⟨by rfl, ?yozb12⟩) hS ?rozb12
      case yozb12 => (intro w hS; go_simp; try with_reducible rfl)
      refine wpAnyH_take (i := 13) (oi := { dst := some 77, op := Op.load 26 (Operand.tmp 10), type := 26, pos := "law.go:91", after := #[{ on := 4, ground := Ground.guard }], guard := some (4, true) }) (v := .agg (qcells c)) rfl (by kernel_rfl) (by kernel_rfl) (by kernel_rfl) (fun _ _ _ h => h) (Or.inl ⟨by rfl, ?yozb13⟩) hS ?rozb13
      case yozb13 => exact fun w' hS => exec_load_row w' 26 (.tmp 10) rfl p7 (by first | rfl | (simp [Act.eval])) 26 (qcells c) (0, 0) _ (hS.row (by simp)) Tryz.underlying26 rfl info26.out
      go_simp
      refine wpAnyH_ready (rs := [7]) (by kernel_rfl) (by simp) ?_
      refine AllReadyH.cons (o := { dst := some 71, op := Op.call { callee := Callee.value (Operand.func 18), args := #[Operand.tmp 69, Operand.tmp 70], argTypes := #[26, 26] }, type := 26, pos := "law.go:91", after := #[{ on := 5, ground := Ground.data }, { on := 6, ground := Ground.data }, { on := 4, ground := Ground.chain }, { on := 4, ground := Ground.guard }], guard := some (4, true) }) rfl (fun K hK => ?_) AllReadyH.nil
      go_simp
      go_at_call 18
      refine (H7.out.1 _ hS.t).mono ?_
      rintro e w' ⟨rfl, b⟩
      have hS2 := hS.next b
      clear b hS
      try go_simp
      refine hK.out _ _ hS2 (fun hS => ?_)
      clear hK K hS2
      refine wpAnyH_ready (rs := [10]) (by kernel_rfl) (by simp) ?_
      refine AllReadyH.cons (o := { dst := some 74, op := Op.call { callee := Callee.value (Operand.func 18), args := #[Operand.tmp 72, Operand.tmp 73], argTypes := #[26, 26] }, type := 26, pos := "law.go:91", after := #[{ on := 8, ground := Ground.data }, { on := 9, ground := Ground.data }, { on := 7, ground := Ground.chain }, { on := 4, ground := Ground.guard }], guard := some (4, true) }) rfl (fun K hK => ?_) AllReadyH.nil
      go_simp
      go_at_call 18
      refine (H7.out.2.1 _ hS.t).mono ?_
      rintro e w' ⟨rfl, b⟩
      have hS2 := hS.next b
      clear b hS
      try go_simp
      refine hK.out _ _ hS2 (fun hS => ?_)
      clear hK K hS2
      refine wpAnyH_ready (rs := [11]) (by kernel_rfl) (by simp) ?_
      refine AllReadyH.cons (o := { dst := some 75, op := Op.call { callee := Callee.value (Operand.func 20), args := #[Operand.tmp 71, Operand.tmp 74], argTypes := #[26, 26] }, type := 3, pos := "law.go:91", after := #[{ on := 7, ground := Ground.data }, { on := 10, ground := Ground.data }, { on := 10, ground := Ground.chain }, { on := 4, ground := Ground.guard }], guard := some (4, true) }) rfl (fun K hK => ?_) AllReadyH.nil
      go_simp
      go_at_call 20
      refine (H7.out.2.2.1 _ hS.t).mono ?_
      rintro e w' ⟨rfl, b⟩
      have hS2 := hS.next b
      clear b hS
      try go_simp
      refine hK.out _ _ hS2 (fun hS => ?_)
      clear hK K hS2
      refine wpAnyH_ready (rs := [14]) (by kernel_rfl) (by simp) ?_
      refine AllReadyH.cons (o := { dst := some 78, op := Op.call { callee := Callee.value (Operand.func 22), args := #[Operand.tmp 77], argTypes := #[26] }, type := 3, pos := "law.go:91", after := #[{ on := 13, ground := Ground.data }, { on := 11, ground := Ground.chain }, { on := 4, ground := Ground.guard }], guard := some (4, true) }) rfl (fun K hK => ?_) AllReadyH.nil
      go_simp
      go_at_call 22
      refine (H7.out.2.2.2.1 _ hS.t).mono ?_
      rintro e w' ⟨rfl, b⟩
      have hS2 := hS.next b
      clear b hS
      try go_simp
      refine hK.out _ _ hS2 (fun hS => ?_)
      clear hK K hS2
      refine wpAnyH_take (i := 15) (oi := { dst := some 79, op := Op.binOp BinOp.mul 3 (Operand.tmp 76) (Operand.tmp 78) 3, type := 3, pos := "law.go:91", after := #[{ on := 12, ground := Ground.data }, { on := 14, ground := Ground.data }, { on := 4, ground := Ground.guard }], guard := some (4, true) }) (v := ?vozb15) rfl (by kernel_rfl) (by kernel_rfl) (by kernel_rfl) (fun _ _ _ h => h) (Or.inl ⟨by rfl, ?yozb15⟩) hS ?rozb15
      case yozb15 => (intro w hS; go_simp; try with_reducible rfl)
      go_simp
      refine wpAnyH_take (i := 16) (oi := { dst := some 80, op := Op.binOp BinOp.eql 3 (Operand.tmp 75) (Operand.tmp 79) 3, type := 4, pos := "law.go:91", after := #[{ on := 11, ground := Ground.data }, { on := 15, ground := Ground.data }, { on := 4, ground := Ground.guard }], guard := some (4, true) }) (v := ?vozb16) rfl (by kernel_rfl) (by kernel_rfl) (by kernel_rfl) (fun _ _ _ h => h) (Or.inl ⟨by rfl, ?yozb16⟩) hS ?rozb16
      case yozb16 => (intro w hS; go_simp; try with_reducible rfl)
      go_simp
      refine wpAnyH_take (i := 17) (oi := { dst := some 81, op := Op.pick (Operand.tmp 68) (Operand.tmp 80) (Operand.const (Value.bool false)), type := 4, pos := "law.go:91", after := #[{ on := 4, ground := Ground.data }, { on := 16, ground := Ground.data }], guard := none }) (v := ?vozb17) rfl (by kernel_rfl) (by kernel_rfl) (by kernel_rfl) (fun _ _ _ h => h) (Or.inl ⟨by rfl, ?yozb17⟩) hS ?rozb17
      case yozb17 => (intro w hS; go_simp; try with_reducible rfl)
      go_simp
      refine wpAnyH_take (i := 18) (oi := { dst := some 82, op := Op.move (Operand.tmp 81), type := 4, pos := "law.go:91", after := #[{ on := 17, ground := Ground.data }, { on := 14, ground := Ground.chain }], guard := none }) (v := ?vozb18) rfl (by kernel_rfl) (by kernel_rfl) (by kernel_rfl) (fun _ _ _ h => h) (Or.inl ⟨by rfl, ?yozb18⟩) hS ?rozb18
      case yozb18 => (intro w hS; go_simp; try with_reducible rfl)
      go_simp
      refine wpAnyH_take (i := 19) (oi := { dst := some 83, op := Op.load 26 (Operand.tmp 8), type := 26, pos := "law.go:91", after := #[{ on := 18, ground := Ground.guard }], guard := some (18, true) }) (v := .agg (qcells a)) rfl (by kernel_rfl) (by kernel_rfl) (by kernel_rfl) (fun _ _ _ h => h) (Or.inl ⟨by rfl, ?yozb19⟩) hS ?rozb19
      case yozb19 => exact fun w' hS => exec_load_row w' 26 (.tmp 8) rfl p3 (by first | rfl | (simp [Act.eval])) 26 (qcells a) (0, 0) _ (hS.row (by simp)) Tryz.underlying26 rfl info26.out
      refine wpAnyH_take (i := 20) (oi := { dst := some 84, op := Op.load 26 (Operand.tmp 9), type := 26, pos := "law.go:91", after := #[{ on := 18, ground := Ground.guard }], guard := some (18, true) }) (v := .agg (qcells b)) rfl (by kernel_rfl) (by kernel_rfl) (by kernel_rfl) (fun _ _ _ h => h) (Or.inl ⟨by rfl, ?yozb20⟩) hS ?rozb20
      case yozb20 => exact fun w' hS => exec_load_row w' 26 (.tmp 9) rfl p5 (by first | rfl | (simp [Act.eval])) 26 (qcells b) (0, 0) _ (hS.row (by simp)) Tryz.underlying26 rfl info26.out
      refine wpAnyH_take (i := 23) (oi := { dst := some 87, op := Op.move (Operand.tmp 11), type := 3, pos := "law.go:91", after := #[{ on := 18, ground := Ground.guard }], guard := some (18, true) }) (v := ?vozb23) rfl (by kernel_rfl) (by kernel_rfl) (by kernel_rfl) (fun _ _ _ h => h) (Or.inl ⟨by rfl, ?yozb23⟩) hS ?rozb23
      case yozb23 => (intro w hS; go_simp; try with_reducible rfl)
      go_simp
      refine wpAnyH_ready (rs := [21]) (by kernel_rfl) (by simp) ?_
      refine AllReadyH.cons (o := { dst := some 85, op := Op.call { callee := Callee.value (Operand.func 16), args := #[Operand.tmp 83, Operand.tmp 84], argTypes := #[26, 26] }, type := 26, pos := "law.go:91", after := #[{ on := 19, ground := Ground.data }, { on := 20, ground := Ground.data }, { on := 18, ground := Ground.chain }, { on := 18, ground := Ground.guard }], guard := some (18, true) }) rfl (fun K hK => ?_) AllReadyH.nil
      go_simp
      go_at_call 16
      refine (H7.out.2.2.2.2.1 _ hS.t).mono ?_
      rintro e w' ⟨rfl, b⟩
      have hS2 := hS.next b
      clear b hS
      try go_simp
      refine hK.out _ _ hS2 (fun hS => ?_)
      clear hK K hS2
      refine wpAnyH_ready (rs := [22]) (by kernel_rfl) (by simp) ?_
      refine AllReadyH.cons (o := { dst := some 86, op := Op.call { callee := Callee.value (Operand.func 22), args := #[Operand.tmp 85], argTypes := #[26] }, type := 3, pos := "law.go:91", after := #[{ on := 21, ground := Ground.data }, { on := 21, ground := Ground.chain }, { on := 18, ground := Ground.guard }], guard := some (18, true) }) rfl (fun K hK => ?_) AllReadyH.nil
      go_simp
      go_at_call 22
      refine (H7.out.2.2.2.2.2.1 _ hS.t).mono ?_
      rintro e w' ⟨rfl, b⟩
      have hS2 := hS.next b
      clear b hS
      try go_simp
      refine hK.out _ _ hS2 (fun hS => ?_)
      clear hK K hS2
      refine wpAnyH_take (i := 24) (oi := { dst := some 88, op := Op.binOp BinOp.eql 3 (Operand.tmp 86) (Operand.tmp 87) 3, type := 4, pos := "law.go:91", after := #[{ on := 22, ground := Ground.data }, { on := 23, ground := Ground.data }, { on := 18, ground := Ground.guard }], guard := some (18, true) }) (v := ?vozb24) rfl (by kernel_rfl) (by kernel_rfl) (by kernel_rfl) (fun _ _ _ h => h) (Or.inl ⟨by rfl, ?yozb24⟩) hS ?rozb24
      case yozb24 => (intro w hS; go_simp; try with_reducible rfl)
      go_simp
      refine wpAnyH_take (i := 25) (oi := { dst := some 89, op := Op.pick (Operand.tmp 82) (Operand.tmp 88) (Operand.const (Value.bool false)), type := 4, pos := "law.go:91", after := #[{ on := 18, ground := Ground.data }, { on := 24, ground := Ground.data }], guard := none }) (v := ?vozb25) rfl (by kernel_rfl) (by kernel_rfl) (by kernel_rfl) (fun _ _ _ h => h) (Or.inl ⟨by rfl, ?yozb25⟩) hS ?rozb25
      case yozb25 => (intro w hS; go_simp; try with_reducible rfl)
      go_simp
      refine wpAnyH_take (i := 26) (oi := { dst := some 90, op := Op.move (Operand.tmp 89), type := 4, pos := "law.go:91", after := #[{ on := 25, ground := Ground.data }, { on := 22, ground := Ground.chain }], guard := none }) (v := ?vozb26) rfl (by kernel_rfl) (by kernel_rfl) (by kernel_rfl) (fun _ _ _ h => h) (Or.inl ⟨by rfl, ?yozb26⟩) hS ?rozb26
      case yozb26 => (intro w hS; go_simp; try with_reducible rfl)
      go_simp
      refine wpAnyH_take (i := 27) (oi := { dst := some 91, op := Op.load 26 (Operand.tmp 8), type := 26, pos := "law.go:91", after := #[{ on := 26, ground := Ground.guard }], guard := some (26, true) }) (v := .agg (qcells a)) rfl (by kernel_rfl) (by kernel_rfl) (by kernel_rfl) (fun _ _ _ h => h) (Or.inl ⟨by rfl, ?yozb27⟩) hS ?rozb27
      case yozb27 => exact fun w' hS => exec_load_row w' 26 (.tmp 8) rfl p3 (by first | rfl | (simp [Act.eval])) 26 (qcells a) (0, 0) _ (hS.row (by simp)) Tryz.underlying26 rfl info26.out
      refine wpAnyH_take (i := 29) (oi := { dst := some 93, op := Op.load 26 (Operand.tmp 8), type := 26, pos := "law.go:91", after := #[{ on := 26, ground := Ground.guard }], guard := some (26, true) }) (v := .agg (qcells a)) rfl (by kernel_rfl) (by kernel_rfl) (by kernel_rfl) (fun _ _ _ h => h) (Or.inl ⟨by rfl, ?yozb29⟩) hS ?rozb29
      case yozb29 => exact fun w' hS => exec_load_row w' 26 (.tmp 8) rfl p3 (by first | rfl | (simp [Act.eval])) 26 (qcells a) (0, 0) _ (hS.row (by simp)) Tryz.underlying26 rfl info26.out
      go_simp
      refine wpAnyH_ready (rs := [28]) (by kernel_rfl) (by simp) ?_
      refine AllReadyH.cons (o := { dst := some 92, op := Op.call { callee := Callee.value (Operand.func 22), args := #[Operand.tmp 91], argTypes := #[26] }, type := 3, pos := "law.go:91", after := #[{ on := 27, ground := Ground.data }, { on := 26, ground := Ground.chain }, { on := 26, ground := Ground.guard }], guard := some (26, true) }) rfl (fun K hK => ?_) AllReadyH.nil
      go_simp
      go_at_call 22
      refine (H7.out.2.2.2.2.2.2.1 _ hS.t).mono ?_
      rintro e w' ⟨rfl, b⟩
      have hS2 := hS.next b
      clear b hS
      try go_simp
      refine hK.out _ _ hS2 (fun hS => ?_)
      clear hK K hS2
      refine wpAnyH_ready (rs := [30]) (by kernel_rfl) (by simp) ?_
      refine AllReadyH.cons (o := { dst := some 94, op := Op.call { callee := Callee.value (Operand.func 36), args := #[Operand.const (Value.int IntKind.i64 0)], argTypes := #[3] }, type := 26, pos := "law.go:91", after := #[{ on := 28, ground := Ground.chain }, { on := 26, ground := Ground.guard }], guard := some (26, true) }) rfl (fun K hK => ?_) AllReadyH.nil
      go_simp
      go_at_call 36
      refine (H7.out.2.2.2.2.2.2.2.1 _).mono ?_
      rintro e w' ⟨rfl, b⟩
      have hS2 := hS.next b
      clear b hS
      try go_simp
      refine hK.out _ _ hS2 (fun hS => ?_)
      clear hK K hS2
      refine wpAnyH_ready (rs := [31]) (by kernel_rfl) (by simp) ?_
      refine AllReadyH.cons (o := { dst := some 95, op := Op.call { callee := Callee.value (Operand.func 20), args := #[Operand.tmp 93, Operand.tmp 94], argTypes := #[26, 26] }, type := 3, pos := "law.go:91", after := #[{ on := 29, ground := Ground.data }, { on := 30, ground := Ground.data }, { on := 30, ground := Ground.chain }, { on := 26, ground := Ground.guard }], guard := some (26, true) }) rfl (fun K hK => ?_) AllReadyH.nil
      go_simp
      go_at_call 20
      refine (H7.out.2.2.2.2.2.2.2.2 _ hS.t).mono ?_
      rintro e w' ⟨rfl, b⟩
      have hS2 := hS.next b
      clear b hS
      try go_simp
      refine hK.out _ _ hS2 (fun hS => ?_)
      clear hK K hS2
      refine wpAnyH_take (i := 32) (oi := { dst := some 96, op := Op.binOp BinOp.eql 3 (Operand.tmp 92) (Operand.tmp 95) 3, type := 4, pos := "law.go:91", after := #[{ on := 28, ground := Ground.data }, { on := 31, ground := Ground.data }, { on := 26, ground := Ground.guard }], guard := some (26, true) }) (v := ?vozb32) rfl (by kernel_rfl) (by kernel_rfl) (by kernel_rfl) (fun _ _ _ h => h) (Or.inl ⟨by rfl, ?yozb32⟩) hS ?rozb32
      case yozb32 => (intro w hS; go_simp; try with_reducible rfl)
      go_simp
      refine wpAnyH_take (i := 33) (oi := { dst := some 97, op := Op.pick (Operand.tmp 90) (Operand.tmp 96) (Operand.const (Value.bool false)), type := 4, pos := "law.go:91", after := #[{ on := 26, ground := Ground.data }, { on := 32, ground := Ground.data }], guard := none }) (v := ?vozb33) rfl (by kernel_rfl) (by kernel_rfl) (by kernel_rfl) (fun _ _ _ h => h) (Or.inl ⟨by rfl, ?yozb33⟩) hS ?rozb33
      case yozb33 => (intro w hS; go_simp; try with_reducible rfl)
      go_simp
      refine wpAnyH_take (i := 34) (oi := { dst := some 6, op := Op.assign (Operand.tmp 97), type := 4, pos := "law.go:91", after := #[{ on := 33, ground := Ground.data }, { on := 31, ground := Ground.chain }, { on := 0, ground := Ground.phase }, { on := 1, ground := Ground.phase }, { on := 2, ground := Ground.phase }, { on := 3, ground := Ground.phase }, { on := 4, ground := Ground.phase }, { on := 5, ground := Ground.phase }, { on := 6, ground := Ground.phase }, { on := 7, ground := Ground.phase }, { on := 8, ground := Ground.phase }, { on := 9, ground := Ground.phase }, { on := 10, ground := Ground.phase }, { on := 11, ground := Ground.phase }, { on := 12, ground := Ground.phase }, { on := 13, ground := Ground.phase }, { on := 14, ground := Ground.phase }, { on := 15, ground := Ground.phase }, { on := 16, ground := Ground.phase }, { on := 17, ground := Ground.phase }, { on := 18, ground := Ground.phase }, { on := 19, ground := Ground.phase }, { on := 20, ground := Ground.phase }, { on := 21, ground := Ground.phase }, { on := 22, ground := Ground.phase }, { on := 23, ground := Ground.phase }, { on := 24, ground := Ground.phase }, { on := 25, ground := Ground.phase }, { on := 26, ground := Ground.phase }, { on := 27, ground := Ground.phase }, { on := 28, ground := Ground.phase }, { on := 29, ground := Ground.phase }, { on := 30, ground := Ground.phase }, { on := 31, ground := Ground.phase }, { on := 32, ground := Ground.phase }, { on := 33, ground := Ground.phase }], guard := none }) (v := ?vozb34) rfl (by kernel_rfl) (by kernel_rfl) (by kernel_rfl) (fun _ _ _ h => h) (Or.inl ⟨by rfl, ?yozb34⟩) hS ?rozb34
      case yozb34 => (intro w hS; go_simp; try with_reducible rfl)
      refine wpAnyH_done (by kernel_rfl) ?_ _
      go_wp2
      go_ret
      exact ⟨rfl, hS.b⟩
end Go.Proofs.YteccbedmpjeamaaGreatDoor
