/-
  The walk of the law RatioField.
-/
import Derived.Test.YteccbedmpjeamaaGreatDoorQLaw
namespace Go.Proofs.YteccbedmpjeamaaGreatDoor
open Go.RowKit NM QM
set_option maxRecDepth 200000 in
set_option maxHeartbeats 64000000 in
theorem field_walk (w : World) (x0 y0 z0 x1 y1 z1 x2 y2 z2 : Int) (hT : Tp w)
    (hx0 : -9223372036854775808 ≤ x0 ∧ x0 ≤ 9223372036854775807)
    (hy0 : -9223372036854775808 ≤ y0 ∧ y0 ≤ 9223372036854775807)
    (hz0 : -9223372036854775808 ≤ z0 ∧ z0 ≤ 9223372036854775807)
    (hx1 : -9223372036854775808 ≤ x1 ∧ x1 ≤ 9223372036854775807)
    (hy1 : -9223372036854775808 ≤ y1 ∧ y1 ≤ 9223372036854775807)
    (hz1 : -9223372036854775808 ≤ z1 ∧ z1 ≤ 9223372036854775807)
    (hx2 : -9223372036854775808 ≤ x2 ∧ x2 ≤ 9223372036854775807)
    (hy2 : -9223372036854775808 ≤ y2 ∧ y2 ≤ 9223372036854775807)
    (hz2 : -9223372036854775808 ≤ z2 ∧ z2 ≤ 9223372036854775807)
    : Calls Tryz.prog 6 #[.agg #[.int .i64 x0, .int .i64 y0, .int .i64 z0], .agg #[.int .i64 x1, .int .i64 y1, .int .i64 z1], .agg #[.int .i64 x2, .int .i64 y2, .int .i64 z2]] w fun e w' => e = .returned (.bool true) ∧ Below w.heap.size w w' := by
  have HOf := Lib.hid (And.intro (fun W => aOf W 0 0 (by decide +kernel) (by decide)) (fun W => aOf W 1 1 (by decide +kernel) (by decide)))
  obtain ⟨W, hW⟩ : ∃ W, ((w.alloc (.cells #[.int .i64 x0, .int .i64 y0, .int .i64 z0] 22)).alloc (.cells #[.int .i64 x1, .int .i64 y1, .int .i64 z1] 22)).alloc (.cells #[.int .i64 x2, .int .i64 y2, .int .i64 z2] 22) = W := ⟨_, rfl⟩
  have hbW : Below w.heap.size w W := by rw [← hW]; exact (((Below.refl _ w).alloc (Nat.le_refl _) _).alloc (by simp) _).alloc (by simp; omega) _
  have ha0 : AR W w.heap.size x0 y0 z0 := by
    rw [← hW]; exact ((ar_alloc w x0 y0 z0 _).next ((Below.refl _ _).alloc (Nat.le_refl _) _)).next ((Below.refl _ _).alloc (Nat.le_refl _) _)
  have ha1 : AR W (w.heap.size + 1) x1 y1 z1 := by
    have h := (ar_alloc (w.alloc (.cells #[.int .i64 x0, .int .i64 y0, .int .i64 z0] 22)) x1 y1 z1 22).next ((Below.refl _ _).alloc (Nat.le_refl _) (.cells #[.int .i64 x2, .int .i64 y2, .int .i64 z2] 22))
    rw [← hW]; simpa using h
  have ha2 : AR W (w.heap.size + 2) x2 y2 z2 := by
    have h := ar_alloc ((w.alloc (.cells #[.int .i64 x0, .int .i64 y0, .int .i64 z0] 22)).alloc (.cells #[.int .i64 x1, .int .i64 y1, .int .i64 z1] 22)) x2 y2 z2 22
    rw [← hW]; simpa using h
  have HS0 : Hid (KB w [] W) := Lib.hid ⟨fun x hx => (by cases hx), hbW, hT.below hbW⟩
  have HA0 := Lib.hid (And.intro ha0 (And.intro ha1 ha2))
  have HWe := Lib.hid hW
  clear hW hbW ha0 ha1 ha2 hT
  go_enter Tryz.func6, Tryz.ntmps6
  go_upto_region 1 with fail
  change Code.wp _ _ _ _ (((w.alloc (.cells #[.int .i64 x0, .int .i64 y0, .int .i64 z0] 22)).alloc (.cells #[.int .i64 x1, .int .i64 y1, .int .i64 z1] 22)).alloc (.cells #[.int .i64 x2, .int .i64 y2, .int .i64 z2] 22))
  rw [HWe.out]
  clear HWe
  go_wp2_with fail
  refine (sanity_any _ HS0.out.t).mono ?_
  rintro e u1 ⟨rfl, b⟩
  have HS1 := Lib.hid (HS0.out.next b)
  have HA1 := Lib.hid (And.intro (HA0.out.1.next b) (And.intro (HA0.out.2.1.next b) (HA0.out.2.2.next b)))
  clear b
  have cc := HA1.out.1
  have d0 := cc.2.1
  have d1 := cc.2.2.1
  have d2 := cc.2.2.2
  clear cc
  go_wp2_with fail
  refine (made_q _ x0 y0 z0 hx0 hy0 hz0).mono ?_
  rintro e u2 ⟨a, sa, rfl, b⟩
  have HS2 := Lib.hid (HS1.out.next b)
  have HB0 := Lib.hid (And.intro (HA1.out.1.next b) (And.intro (HA1.out.2.1.next b) (HA1.out.2.2.next b)))
  clear d0 d1 d2
  clear b
  unfold QV
  go_upto_region 3 with (refine wpList_store_row rfl 26 (.tmp 8) (.tmp 20) rfl u2.heap.size (qcells a) rfl rfl 26 zrow (heap_alloc_new _ _) info26.out rfl (qone _) ?_)
  change Code.wp _ _ _ _ ((u2.alloc (.cells zrow 26)).setRow u2.heap.size (qcells a))
  rw [World.setRow_alloc_new u2 zrow (qcells a) 26]
  have hx := HS2.out.push (qcells a)
  have hbx := Lib.hid ((Below.refl u2.heap.size u2).alloc (Nat.le_refl _) (.cells (qcells a) 26))
  generalize u2.alloc (.cells (qcells a) 26) = u3 at *
  obtain ⟨p3, hp⟩ : ∃ p, u2.heap.size = p := ⟨_, rfl⟩
  rw [hp] at hx ⊢
  have HA2 := Lib.hid (And.intro (HB0.out.1.next hbx.out) (And.intro (HB0.out.2.1.next hbx.out) (HB0.out.2.2.next hbx.out)))
  clear hp hbx
  have HS3 := Lib.hid hx
  clear hx
  have cc := HA2.out.2.1
  have d0 := cc.2.1
  have d1 := cc.2.2.1
  have d2 := cc.2.2.2
  clear cc
  go_wp2_with fail
  refine (made_q _ x1 y1 z1 hx1 hy1 hz1).mono ?_
  rintro e u4 ⟨b, sb, rfl, b⟩
  have HS4 := Lib.hid (HS3.out.next b)
  have HB1 := Lib.hid (And.intro (HA2.out.1.next b) (And.intro (HA2.out.2.1.next b) (HA2.out.2.2.next b)))
  clear d0 d1 d2
  clear b
  unfold QV
  go_upto_region 4 with (refine wpList_store_row rfl 26 (.tmp 9) (.tmp 22) rfl u4.heap.size (qcells b) rfl rfl 26 zrow (heap_alloc_new _ _) info26.out rfl (qone _) ?_)
  change Code.wp _ _ _ _ ((u4.alloc (.cells zrow 26)).setRow u4.heap.size (qcells b))
  rw [World.setRow_alloc_new u4 zrow (qcells b) 26]
  have hx := HS4.out.push (qcells b)
  have hbx := Lib.hid ((Below.refl u4.heap.size u4).alloc (Nat.le_refl _) (.cells (qcells b) 26))
  generalize u4.alloc (.cells (qcells b) 26) = u5 at *
  obtain ⟨p5, hp⟩ : ∃ p, u4.heap.size = p := ⟨_, rfl⟩
  rw [hp] at hx ⊢
  have HA3 := Lib.hid (And.intro (HB1.out.1.next hbx.out) (And.intro (HB1.out.2.1.next hbx.out) (HB1.out.2.2.next hbx.out)))
  clear hp hbx
  have HS5 := Lib.hid hx
  clear hx
  have cc := HA3.out.2.2
  have d0 := cc.2.1
  have d1 := cc.2.2.1
  have d2 := cc.2.2.2
  clear cc
  go_wp2_with fail
  refine (made_q _ x2 y2 z2 hx2 hy2 hz2).mono ?_
  rintro e u6 ⟨c, sc, rfl, b⟩
  have HS6 := Lib.hid (HS5.out.next b)
  have HB2 := Lib.hid (And.intro (HA3.out.1.next b) (And.intro (HA3.out.2.1.next b) (HA3.out.2.2.next b)))
  clear d0 d1 d2
  clear b
  unfold QV
  go_upto_region 5 with (refine wpList_store_row rfl 26 (.tmp 10) (.tmp 24) rfl u6.heap.size (qcells c) rfl rfl 26 zrow (heap_alloc_new _ _) info26.out rfl (qone _) ?_)
  change Code.wp _ _ _ _ ((u6.alloc (.cells zrow 26)).setRow u6.heap.size (qcells c))
  rw [World.setRow_alloc_new u6 zrow (qcells c) 26]
  have hx := HS6.out.push (qcells c)
  have hbx := Lib.hid ((Below.refl u6.heap.size u6).alloc (Nat.le_refl _) (.cells (qcells c) 26))
  generalize u6.alloc (.cells (qcells c) 26) = u7 at *
  obtain ⟨p7, hp⟩ : ∃ p, u6.heap.size = p := ⟨_, rfl⟩
  rw [hp] at hx ⊢
  have HA4 := Lib.hid (And.intro (HB2.out.1.next hbx.out) (And.intro (HB2.out.2.1.next hbx.out) (HB2.out.2.2.next hbx.out)))
  clear hp hbx
  have HS7 := Lib.hid hx
  clear hx
  clear HA0 HA1 HA2 HA3 HA4 HB0 HB1 HB2
  have s0 : SmQ 16 0 := SmQ_zero 16 (by decide)
  have s1 : SmQ 16 1 := by have := int_small 1 (by decide); exact (SmQ.mono (a := 1) (by simpa using this) (by decide))
  have m : ∀ {N : Nat} {q : Rat}, SmQ N q → N ≤ 100 → SmQ 100 q := fun h h2 => h.mono h2
  have ab := SmQ_add sa sb
  have bc := SmQ_add sb sc
  have pab := SmQ_mul sa sb
  have pbc := SmQ_mul sb sc
  have pac := SmQ_mul sa sc
  have na : SmQ 16 (-a) := ⟨by rw [Rat.neg_num, Int.natAbs_neg]; exact sa.1, by rw [Rat.neg_den]; exact sa.2⟩
  have nb : SmQ 16 (-b) := ⟨by rw [Rat.neg_num, Int.natAbs_neg]; exact sb.1, by rw [Rat.neg_den]; exact sb.2⟩
  have H7 := Lib.hid (And.intro (fun W (h : Tp W) => aAdd W a b 100 (m sa (by decide)) (m sb (by decide)) (by decide) (by decide) h) (And.intro (fun W (h : Tp W) => aAdd W b a 100 (m sb (by decide)) (m sa (by decide)) (by decide) (by decide) h)
    (And.intro (fun W (h : Tp W) => aMul W a b 100 (m sa (by decide)) (m sb (by decide)) (by decide) (by decide) h) (And.intro (fun W (h : Tp W) => aMul W b a 100 (m sb (by decide)) (m sa (by decide)) (by decide) (by decide) h)
    (And.intro (fun W (h : Tp W) => aAdd W a b 100 (m sa (by decide)) (m sb (by decide)) (by decide) (by decide) h) (And.intro (fun W (h : Tp W) => aAdd W (a + b) c 100 (m ab (by decide)) (m sc (by decide)) (by decide) (by decide) h)
    (And.intro (fun W (h : Tp W) => aAdd W b c 100 (m sb (by decide)) (m sc (by decide)) (by decide) (by decide) h) (And.intro (fun W (h : Tp W) => aAdd W a (b + c) 100 (m sa (by decide)) (m bc (by decide)) (by decide) (by decide) h)
    (And.intro (fun W (h : Tp W) => aMul W a b 100 (m sa (by decide)) (m sb (by decide)) (by decide) (by decide) h) (And.intro (fun W (h : Tp W) => aMul W (a * b) c 100 (m pab (by decide)) (m sc (by decide)) (by decide) (by decide) h)
    (And.intro (fun W (h : Tp W) => aMul W b c 100 (m sb (by decide)) (m sc (by decide)) (by decide) (by decide) h) (fun W (h : Tp W) => aMul W a (b * c) 100 (m sa (by decide)) (m pbc (by decide)) (by decide) (by decide) h))))))))))))
  have A0 := fun W (h : Tp W) => aAdd W a 0 100 (m sa (by decide)) (m s0 (by decide)) (by decide) (by decide) h
  rw [Rat.add_zero] at A0
  have A1 := fun W (h : Tp W) => aMul W a 1 100 (m sa (by decide)) (m s1 (by decide)) (by decide) (by decide) h
  rw [Rat.mul_one] at A1
  have A2 := fun W (h : Tp W) => aAdd W a (-a) 100 (m sa (by decide)) (m na (by decide)) (by decide) (by decide) h
  rw [Rat.add_neg_cancel] at A2
  have H8 := Lib.hid (And.intro (fun W (h : Tp W) => aAdd W b c 100 (m sb (by decide)) (m sc (by decide)) (by decide) (by decide) h) (And.intro (fun W (h : Tp W) => aMul W a (b + c) 100 (m sa (by decide)) (m bc (by decide)) (by decide) (by decide) h)
    (And.intro (fun W (h : Tp W) => aMul W a b 100 (m sa (by decide)) (m sb (by decide)) (by decide) (by decide) h) (And.intro (fun W (h : Tp W) => aMul W a c 100 (m sa (by decide)) (m sc (by decide)) (by decide) (by decide) h)
    (And.intro (fun W (h : Tp W) => aAdd W (a * b) (a * c) 100 (m pab (by decide)) (m pac (by decide)) (by decide) (by decide) h) (And.intro A0
    (And.intro A1 (And.intro (fun W (h : Tp W) => aNeg W a 100 (m sa (by decide)) (by decide) h)
    A2))))))))
  have HE := Lib.hid (And.intro (fun W => aEq W (a + b) (b + a) (Rat.add_comm a b)) (And.intro (fun W => aEq W (a * b) (b * a) (Rat.mul_comm a b)) (And.intro (fun W => aEq W (a + b + c) (a + (b + c)) (Rat.add_assoc a b c)) (And.intro (fun W => aEq W (a * b * c) (a * (b * c)) (Rat.mul_assoc a b c))
    (And.intro (fun W => aEq W (a * (b + c)) (a * b + a * c) (Rat.mul_add a b c)) (And.intro (fun W => aEq W a a rfl) (And.intro (fun W => aEq W a a rfl) (fun W => aEq W 0 0 rfl))))))))
  have H11 := Lib.hid (And.intro (fun W (h : Tp W) => aSub W a b 100 (m sa (by decide)) (m sb (by decide)) (by decide) (by decide) h) (And.intro (fun W (h : Tp W) => aNeg W b 100 (m sb (by decide)) (by decide) h)
    (And.intro (fun W (h : Tp W) => aAdd W a (-b) 100 (m sa (by decide)) (m nb (by decide)) (by decide) (by decide) h) (And.intro (fun W (h : Tp W) => aAdd W a b 100 (m sa (by decide)) (m sb (by decide)) (by decide) (by decide) h)
    (fun W (h : Tp W) => aAdd W (a + b) c 100 (m ab (by decide)) (m sc (by decide)) (by decide) (by decide) h)))))
  have HE2 := Lib.hid (And.intro (fun W => aEq W (a - b) (a + -b) (Rat.sub_eq_add_neg a b)) (fun W => aEq W (a + b + c) (a + b + c) rfl))
  have HSM := Lib.hid (And.intro (m sa (by decide)) (And.intro (m sb (by decide)) (m sc (by decide))))
  have HAB := Lib.hid (And.intro sa sb)
  clear A0 A1 A2 s0 s1 m ab bc pab pbc pac na nb sa sb sc
  go_wp2_with fail
  refine (HOf.out.1 _).mono ?_
  rintro e u8 ⟨rfl, b⟩
  have HS8 := Lib.hid (HS7.out.next b)
  clear b
  go_upto_region 6 with (refine wpList_store_row rfl 26 (.tmp 11) (.tmp 25) rfl u8.heap.size (qcells 0) rfl rfl 26 zrow (heap_alloc_new _ _) info26.out rfl (qone _) ?_)
  change Code.wp _ _ _ _ ((u8.alloc (.cells zrow 26)).setRow u8.heap.size (qcells 0))
  rw [World.setRow_alloc_new u8 zrow (qcells 0) 26]
  have hx := HS8.out.push (qcells 0)
  have hbx := Lib.hid ((Below.refl u8.heap.size u8).alloc (Nat.le_refl _) (.cells (qcells 0) 26))
  generalize u8.alloc (.cells (qcells 0) 26) = u9 at *
  obtain ⟨p9, hp⟩ : ∃ p, u8.heap.size = p := ⟨_, rfl⟩
  rw [hp] at hx ⊢
  clear hp hbx
  have HS9 := Lib.hid hx
  clear hx
  go_wp2_with fail
  refine (HOf.out.2 _).mono ?_
  rintro e u10 ⟨rfl, b⟩
  have HS10 := Lib.hid (HS9.out.next b)
  clear b
  go_upto_region 7 with (refine wpList_store_row rfl 26 (.tmp 12) (.tmp 26) rfl u10.heap.size (qcells 1) rfl rfl 26 zrow (heap_alloc_new _ _) info26.out rfl (qone _) ?_)
  change Code.wp _ _ _ _ ((u10.alloc (.cells zrow 26)).setRow u10.heap.size (qcells 1))
  rw [World.setRow_alloc_new u10 zrow (qcells 1) 26]
  have hx := HS10.out.push (qcells 1)
  have hbx := Lib.hid ((Below.refl u10.heap.size u10).alloc (Nat.le_refl _) (.cells (qcells 1) 26))
  generalize u10.alloc (.cells (qcells 1) 26) = u11 at *
  obtain ⟨p11, hp⟩ : ∃ p, u10.heap.size = p := ⟨_, rfl⟩
  rw [hp] at hx ⊢
  clear hp hbx
  have HS11 := Lib.hid hx
  clear hx
  go_upto_region 7 with fail
  have E1 := HE.out.1
  have E2 := HE.out.2.1
  have E3 := HE.out.2.2.1
  have E4 := HE.out.2.2.2.1
  refine wp_region_held_drew (S := KB w [(p11, qcells 1), (p9, qcells 0), (p7, qcells c), (p5, qcells b), (p3, qcells a)]) (by kernel_rfl) HS11.out.drew (fun hS => ?_)
  clear HS11
  refine wpAnyH_take (i := 0) (oi := { dst := some 27, op := Op.load 26 (Operand.tmp 8), type := 26, pos := "law.go:76", after := #[], guard := none }) (v := .agg (qcells a)) rfl (by kernel_rfl) (by kernel_rfl) (by kernel_rfl) (fun _ _ _ h => h) (Or.inl ⟨by rfl, ?yfa0⟩) hS ?rfa0
  case yfa0 => exact fun w' hS => exec_load_row w' 26 (.tmp 8) rfl p3 (by first | rfl | (simp [Act.eval])) 26 (qcells a) (0, 0) _ (hS.row (by simp)) Tryz.underlying26 rfl info26.out
  refine wpAnyH_take (i := 1) (oi := { dst := some 28, op := Op.load 26 (Operand.tmp 9), type := 26, pos := "law.go:76", after := #[], guard := none }) (v := .agg (qcells b)) rfl (by kernel_rfl) (by kernel_rfl) (by kernel_rfl) (fun _ _ _ h => h) (Or.inl ⟨by rfl, ?yfa1⟩) hS ?rfa1
  case yfa1 => exact fun w' hS => exec_load_row w' 26 (.tmp 9) rfl p5 (by first | rfl | (simp [Act.eval])) 26 (qcells b) (0, 0) _ (hS.row (by simp)) Tryz.underlying26 rfl info26.out
  refine wpAnyH_take (i := 3) (oi := { dst := some 30, op := Op.load 26 (Operand.tmp 9), type := 26, pos := "law.go:76", after := #[], guard := none }) (v := .agg (qcells b)) rfl (by kernel_rfl) (by kernel_rfl) (by kernel_rfl) (fun _ _ _ h => h) (Or.inl ⟨by rfl, ?yfa3⟩) hS ?rfa3
  case yfa3 => exact fun w' hS => exec_load_row w' 26 (.tmp 9) rfl p5 (by first | rfl | (simp [Act.eval])) 26 (qcells b) (0, 0) _ (hS.row (by simp)) Tryz.underlying26 rfl info26.out
  refine wpAnyH_take (i := 4) (oi := { dst := some 31, op := Op.load 26 (Operand.tmp 8), type := 26, pos := "law.go:76", after := #[], guard := none }) (v := .agg (qcells a)) rfl (by kernel_rfl) (by kernel_rfl) (by kernel_rfl) (fun _ _ _ h => h) (Or.inl ⟨by rfl, ?yfa4⟩) hS ?rfa4
  case yfa4 => exact fun w' hS => exec_load_row w' 26 (.tmp 8) rfl p3 (by first | rfl | (simp [Act.eval])) 26 (qcells a) (0, 0) _ (hS.row (by simp)) Tryz.underlying26 rfl info26.out
  go_simp
  refine wpAnyH_ready (rs := [2]) (by kernel_rfl) (by simp) ?_
  refine AllReadyH.cons (o := { dst := some 29, op := Op.call { callee := Callee.value (Operand.func 14), args := #[Operand.tmp 27, Operand.tmp 28], argTypes := #[26, 26] }, type := 26, pos := "law.go:76", after := #[{ on := 0, ground := Ground.data }, { on := 1, ground := Ground.data }], guard := none }) rfl (fun K hK => ?_) AllReadyH.nil
  go_simp
  go_at_call 14
  refine (H7.out.1 _ hS.t).mono ?_
  rintro e w' ⟨rfl, b⟩
  have hS2 := hS.next b
  clear b hS
  try go_simp
  refine hK.out _ _ hS2 (fun hS => ?_)
  clear hK K hS2
  refine wpAnyH_ready (rs := [5]) (by kernel_rfl) (by simp) ?_
  refine AllReadyH.cons (o := { dst := some 32, op := Op.call { callee := Callee.value (Operand.func 14), args := #[Operand.tmp 30, Operand.tmp 31], argTypes := #[26, 26] }, type := 26, pos := "law.go:76", after := #[{ on := 3, ground := Ground.data }, { on := 4, ground := Ground.data }, { on := 2, ground := Ground.chain }], guard := none }) rfl (fun K hK => ?_) AllReadyH.nil
  go_simp
  go_at_call 14
  refine (H7.out.2.1 _ hS.t).mono ?_
  rintro e w' ⟨rfl, b⟩
  have hS2 := hS.next b
  clear b hS
  try go_simp
  refine hK.out _ _ hS2 (fun hS => ?_)
  clear hK K hS2
  refine wpAnyH_take (i := 6) (oi := { dst := some 33, op := Op.binOp BinOp.eql 26 (Operand.tmp 29) (Operand.tmp 32) 26, type := 4, pos := "law.go:76", after := #[{ on := 2, ground := Ground.data }, { on := 5, ground := Ground.data }], guard := none }) (v := ?vfa6) rfl (by kernel_rfl) (by kernel_rfl) (by kernel_rfl) (fun _ _ _ h => h) (Or.inl ⟨by rfl, ?yfa6⟩) hS ?rfa6
  case yfa6 => (intro w hS; go_simp; try with_reducible rfl)
  go_simp
  refine wpAnyH_take (i := 7) (oi := { dst := some 34, op := Op.move (Operand.tmp 33), type := 4, pos := "law.go:76", after := #[{ on := 6, ground := Ground.data }, { on := 5, ground := Ground.chain }], guard := none }) (v := ?vfa7) rfl (by kernel_rfl) (by kernel_rfl) (by kernel_rfl) (fun _ _ _ h => h) (Or.inl ⟨by rfl, ?yfa7⟩) hS ?rfa7
  case yfa7 => (intro w hS; go_simp; try with_reducible rfl)
  go_simp
  refine wpAnyH_take (i := 8) (oi := { dst := some 35, op := Op.load 26 (Operand.tmp 8), type := 26, pos := "law.go:76", after := #[{ on := 7, ground := Ground.guard }], guard := some (7, true) }) (v := .agg (qcells a)) rfl (by kernel_rfl) (by kernel_rfl) (by kernel_rfl) (fun _ _ _ h => h) (Or.inl ⟨by rfl, ?yfa8⟩) hS ?rfa8
  case yfa8 => exact fun w' hS => exec_load_row w' 26 (.tmp 8) rfl p3 (by first | rfl | (simp [Act.eval])) 26 (qcells a) (0, 0) _ (hS.row (by simp)) Tryz.underlying26 rfl info26.out
  refine wpAnyH_take (i := 9) (oi := { dst := some 36, op := Op.load 26 (Operand.tmp 9), type := 26, pos := "law.go:76", after := #[{ on := 7, ground := Ground.guard }], guard := some (7, true) }) (v := .agg (qcells b)) rfl (by kernel_rfl) (by kernel_rfl) (by kernel_rfl) (fun _ _ _ h => h) (Or.inl ⟨by rfl, ?yfa9⟩) hS ?rfa9
  case yfa9 => exact fun w' hS => exec_load_row w' 26 (.tmp 9) rfl p5 (by first | rfl | (simp [Act.eval])) 26 (qcells b) (0, 0) _ (hS.row (by simp)) Tryz.underlying26 rfl info26.out
  refine wpAnyH_take (i := 11) (oi := { dst := some 38, op := Op.load 26 (Operand.tmp 9), type := 26, pos := "law.go:76", after := #[{ on := 7, ground := Ground.guard }], guard := some (7, true) }) (v := .agg (qcells b)) rfl (by kernel_rfl) (by kernel_rfl) (by kernel_rfl) (fun _ _ _ h => h) (Or.inl ⟨by rfl, ?yfa11⟩) hS ?rfa11
  case yfa11 => exact fun w' hS => exec_load_row w' 26 (.tmp 9) rfl p5 (by first | rfl | (simp [Act.eval])) 26 (qcells b) (0, 0) _ (hS.row (by simp)) Tryz.underlying26 rfl info26.out
  refine wpAnyH_take (i := 12) (oi := { dst := some 39, op := Op.load 26 (Operand.tmp 8), type := 26, pos := "law.go:76", after := #[{ on := 7, ground := Ground.guard }], guard := some (7, true) }) (v := .agg (qcells a)) rfl (by kernel_rfl) (by kernel_rfl) (by kernel_rfl) (fun _ _ _ h => h) (Or.inl ⟨by rfl, ?yfa12⟩) hS ?rfa12
  case yfa12 => exact fun w' hS => exec_load_row w' 26 (.tmp 8) rfl p3 (by first | rfl | (simp [Act.eval])) 26 (qcells a) (0, 0) _ (hS.row (by simp)) Tryz.underlying26 rfl info26.out
  go_simp
  refine wpAnyH_ready (rs := [10]) (by kernel_rfl) (by simp) ?_
  refine AllReadyH.cons (o := { dst := some 37, op := Op.call { callee := Callee.value (Operand.func 18), args := #[Operand.tmp 35, Operand.tmp 36], argTypes := #[26, 26] }, type := 26, pos := "law.go:76", after := #[{ on := 8, ground := Ground.data }, { on := 9, ground := Ground.data }, { on := 7, ground := Ground.chain }, { on := 7, ground := Ground.guard }], guard := some (7, true) }) rfl (fun K hK => ?_) AllReadyH.nil
  go_simp
  go_at_call 18
  refine (H7.out.2.2.1 _ hS.t).mono ?_
  rintro e w' ⟨rfl, b⟩
  have hS2 := hS.next b
  clear b hS
  try go_simp
  refine hK.out _ _ hS2 (fun hS => ?_)
  clear hK K hS2
  refine wpAnyH_ready (rs := [13]) (by kernel_rfl) (by simp) ?_
  refine AllReadyH.cons (o := { dst := some 40, op := Op.call { callee := Callee.value (Operand.func 18), args := #[Operand.tmp 38, Operand.tmp 39], argTypes := #[26, 26] }, type := 26, pos := "law.go:76", after := #[{ on := 11, ground := Ground.data }, { on := 12, ground := Ground.data }, { on := 10, ground := Ground.chain }, { on := 7, ground := Ground.guard }], guard := some (7, true) }) rfl (fun K hK => ?_) AllReadyH.nil
  go_simp
  go_at_call 18
  refine (H7.out.2.2.2.1 _ hS.t).mono ?_
  rintro e w' ⟨rfl, b⟩
  have hS2 := hS.next b
  clear b hS
  try go_simp
  refine hK.out _ _ hS2 (fun hS => ?_)
  clear hK K hS2
  refine wpAnyH_take (i := 14) (oi := { dst := some 41, op := Op.binOp BinOp.eql 26 (Operand.tmp 37) (Operand.tmp 40) 26, type := 4, pos := "law.go:76", after := #[{ on := 10, ground := Ground.data }, { on := 13, ground := Ground.data }, { on := 7, ground := Ground.guard }], guard := some (7, true) }) (v := ?vfa14) rfl (by kernel_rfl) (by kernel_rfl) (by kernel_rfl) (fun _ _ _ h => h) (Or.inl ⟨by rfl, ?yfa14⟩) hS ?rfa14
  case yfa14 => (intro w hS; go_simp; try with_reducible rfl)
  go_simp
  refine wpAnyH_take (i := 15) (oi := { dst := some 42, op := Op.pick (Operand.tmp 34) (Operand.tmp 41) (Operand.const (Value.bool false)), type := 4, pos := "law.go:76", after := #[{ on := 7, ground := Ground.data }, { on := 14, ground := Ground.data }], guard := none }) (v := ?vfa15) rfl (by kernel_rfl) (by kernel_rfl) (by kernel_rfl) (fun _ _ _ h => h) (Or.inl ⟨by rfl, ?yfa15⟩) hS ?rfa15
  case yfa15 => (intro w hS; go_simp; try with_reducible rfl)
  go_simp
  refine wpAnyH_take (i := 16) (oi := { dst := some 43, op := Op.move (Operand.tmp 42), type := 4, pos := "law.go:76", after := #[{ on := 15, ground := Ground.data }, { on := 13, ground := Ground.chain }], guard := none }) (v := ?vfa16) rfl (by kernel_rfl) (by kernel_rfl) (by kernel_rfl) (fun _ _ _ h => h) (Or.inl ⟨by rfl, ?yfa16⟩) hS ?rfa16
  case yfa16 => (intro w hS; go_simp; try with_reducible rfl)
  go_simp
  refine wpAnyH_take (i := 17) (oi := { dst := some 44, op := Op.load 26 (Operand.tmp 8), type := 26, pos := "law.go:76", after := #[{ on := 16, ground := Ground.guard }], guard := some (16, true) }) (v := .agg (qcells a)) rfl (by kernel_rfl) (by kernel_rfl) (by kernel_rfl) (fun _ _ _ h => h) (Or.inl ⟨by rfl, ?yfa17⟩) hS ?rfa17
  case yfa17 => exact fun w' hS => exec_load_row w' 26 (.tmp 8) rfl p3 (by first | rfl | (simp [Act.eval])) 26 (qcells a) (0, 0) _ (hS.row (by simp)) Tryz.underlying26 rfl info26.out
  refine wpAnyH_take (i := 18) (oi := { dst := some 45, op := Op.load 26 (Operand.tmp 9), type := 26, pos := "law.go:76", after := #[{ on := 16, ground := Ground.guard }], guard := some (16, true) }) (v := .agg (qcells b)) rfl (by kernel_rfl) (by kernel_rfl) (by kernel_rfl) (fun _ _ _ h => h) (Or.inl ⟨by rfl, ?yfa18⟩) hS ?rfa18
  case yfa18 => exact fun w' hS => exec_load_row w' 26 (.tmp 9) rfl p5 (by first | rfl | (simp [Act.eval])) 26 (qcells b) (0, 0) _ (hS.row (by simp)) Tryz.underlying26 rfl info26.out
  refine wpAnyH_take (i := 20) (oi := { dst := some 47, op := Op.load 26 (Operand.tmp 10), type := 26, pos := "law.go:76", after := #[{ on := 16, ground := Ground.guard }], guard := some (16, true) }) (v := .agg (qcells c)) rfl (by kernel_rfl) (by kernel_rfl) (by kernel_rfl) (fun _ _ _ h => h) (Or.inl ⟨by rfl, ?yfa20⟩) hS ?rfa20
  case yfa20 => exact fun w' hS => exec_load_row w' 26 (.tmp 10) rfl p7 (by first | rfl | (simp [Act.eval])) 26 (qcells c) (0, 0) _ (hS.row (by simp)) Tryz.underlying26 rfl info26.out
  refine wpAnyH_take (i := 22) (oi := { dst := some 49, op := Op.load 26 (Operand.tmp 8), type := 26, pos := "law.go:76", after := #[{ on := 16, ground := Ground.guard }], guard := some (16, true) }) (v := .agg (qcells a)) rfl (by kernel_rfl) (by kernel_rfl) (by kernel_rfl) (fun _ _ _ h => h) (Or.inl ⟨by rfl, ?yfa22⟩) hS ?rfa22
  case yfa22 => exact fun w' hS => exec_load_row w' 26 (.tmp 8) rfl p3 (by first | rfl | (simp [Act.eval])) 26 (qcells a) (0, 0) _ (hS.row (by simp)) Tryz.underlying26 rfl info26.out
  refine wpAnyH_take (i := 23) (oi := { dst := some 50, op := Op.load 26 (Operand.tmp 9), type := 26, pos := "law.go:76", after := #[{ on := 16, ground := Ground.guard }], guard := some (16, true) }) (v := .agg (qcells b)) rfl (by kernel_rfl) (by kernel_rfl) (by kernel_rfl) (fun _ _ _ h => h) (Or.inl ⟨by rfl, ?yfa23⟩) hS ?rfa23
  case yfa23 => exact fun w' hS => exec_load_row w' 26 (.tmp 9) rfl p5 (by first | rfl | (simp [Act.eval])) 26 (qcells b) (0, 0) _ (hS.row (by simp)) Tryz.underlying26 rfl info26.out
  refine wpAnyH_take (i := 24) (oi := { dst := some 51, op := Op.load 26 (Operand.tmp 10), type := 26, pos := "law.go:76", after := #[{ on := 16, ground := Ground.guard }], guard := some (16, true) }) (v := .agg (qcells c)) rfl (by kernel_rfl) (by kernel_rfl) (by kernel_rfl) (fun _ _ _ h => h) (Or.inl ⟨by rfl, ?yfa24⟩) hS ?rfa24
  case yfa24 => exact fun w' hS => exec_load_row w' 26 (.tmp 10) rfl p7 (by first | rfl | (simp [Act.eval])) 26 (qcells c) (0, 0) _ (hS.row (by simp)) Tryz.underlying26 rfl info26.out
  go_simp
  refine wpAnyH_ready (rs := [19]) (by kernel_rfl) (by simp) ?_
  refine AllReadyH.cons (o := { dst := some 46, op := Op.call { callee := Callee.value (Operand.func 14), args := #[Operand.tmp 44, Operand.tmp 45], argTypes := #[26, 26] }, type := 26, pos := "law.go:76", after := #[{ on := 17, ground := Ground.data }, { on := 18, ground := Ground.data }, { on := 16, ground := Ground.chain }, { on := 16, ground := Ground.guard }], guard := some (16, true) }) rfl (fun K hK => ?_) AllReadyH.nil
  go_simp
  go_at_call 14
  refine (H7.out.2.2.2.2.1 _ hS.t).mono ?_
  rintro e w' ⟨rfl, b⟩
  have hS2 := hS.next b
  clear b hS
  try go_simp
  refine hK.out _ _ hS2 (fun hS => ?_)
  clear hK K hS2
  refine wpAnyH_ready (rs := [21]) (by kernel_rfl) (by simp) ?_
  refine AllReadyH.cons (o := { dst := some 48, op := Op.call { callee := Callee.value (Operand.func 14), args := #[Operand.tmp 46, Operand.tmp 47], argTypes := #[26, 26] }, type := 26, pos := "law.go:76", after := #[{ on := 19, ground := Ground.data }, { on := 20, ground := Ground.data }, { on := 19, ground := Ground.chain }, { on := 16, ground := Ground.guard }], guard := some (16, true) }) rfl (fun K hK => ?_) AllReadyH.nil
  go_simp
  go_at_call 14
  refine (H7.out.2.2.2.2.2.1 _ hS.t).mono ?_
  rintro e w' ⟨rfl, b⟩
  have hS2 := hS.next b
  clear b hS
  try go_simp
  refine hK.out _ _ hS2 (fun hS => ?_)
  clear hK K hS2
  refine wpAnyH_ready (rs := [25]) (by kernel_rfl) (by simp) ?_
  refine AllReadyH.cons (o := { dst := some 52, op := Op.call { callee := Callee.value (Operand.func 14), args := #[Operand.tmp 50, Operand.tmp 51], argTypes := #[26, 26] }, type := 26, pos := "law.go:76", after := #[{ on := 23, ground := Ground.data }, { on := 24, ground := Ground.data }, { on := 21, ground := Ground.chain }, { on := 16, ground := Ground.guard }], guard := some (16, true) }) rfl (fun K hK => ?_) AllReadyH.nil
  go_simp
  go_at_call 14
  refine (H7.out.2.2.2.2.2.2.1 _ hS.t).mono ?_
  rintro e w' ⟨rfl, b⟩
  have hS2 := hS.next b
  clear b hS
  try go_simp
  refine hK.out _ _ hS2 (fun hS => ?_)
  clear hK K hS2
  refine wpAnyH_ready (rs := [26]) (by kernel_rfl) (by simp) ?_
  refine AllReadyH.cons (o := { dst := some 53, op := Op.call { callee := Callee.value (Operand.func 14), args := #[Operand.tmp 49, Operand.tmp 52], argTypes := #[26, 26] }, type := 26, pos := "law.go:76", after := #[{ on := 22, ground := Ground.data }, { on := 25, ground := Ground.data }, { on := 25, ground := Ground.chain }, { on := 16, ground := Ground.guard }], guard := some (16, true) }) rfl (fun K hK => ?_) AllReadyH.nil
  go_simp
  go_at_call 14
  refine (H7.out.2.2.2.2.2.2.2.1 _ hS.t).mono ?_
  rintro e w' ⟨rfl, b⟩
  have hS2 := hS.next b
  clear b hS
  try go_simp
  refine hK.out _ _ hS2 (fun hS => ?_)
  clear hK K hS2
  refine wpAnyH_take (i := 27) (oi := { dst := some 54, op := Op.binOp BinOp.eql 26 (Operand.tmp 48) (Operand.tmp 53) 26, type := 4, pos := "law.go:76", after := #[{ on := 21, ground := Ground.data }, { on := 26, ground := Ground.data }, { on := 16, ground := Ground.guard }], guard := some (16, true) }) (v := ?vfa27) rfl (by kernel_rfl) (by kernel_rfl) (by kernel_rfl) (fun _ _ _ h => h) (Or.inl ⟨by rfl, ?yfa27⟩) hS ?rfa27
  case yfa27 => (intro w hS; go_simp; try with_reducible rfl)
  go_simp
  refine wpAnyH_take (i := 28) (oi := { dst := some 55, op := Op.pick (Operand.tmp 43) (Operand.tmp 54) (Operand.const (Value.bool false)), type := 4, pos := "law.go:76", after := #[{ on := 16, ground := Ground.data }, { on := 27, ground := Ground.data }], guard := none }) (v := ?vfa28) rfl (by kernel_rfl) (by kernel_rfl) (by kernel_rfl) (fun _ _ _ h => h) (Or.inl ⟨by rfl, ?yfa28⟩) hS ?rfa28
  case yfa28 => (intro w hS; go_simp; try with_reducible rfl)
  go_simp
  refine wpAnyH_take (i := 29) (oi := { dst := some 56, op := Op.move (Operand.tmp 55), type := 4, pos := "law.go:76", after := #[{ on := 28, ground := Ground.data }, { on := 26, ground := Ground.chain }], guard := none }) (v := ?vfa29) rfl (by kernel_rfl) (by kernel_rfl) (by kernel_rfl) (fun _ _ _ h => h) (Or.inl ⟨by rfl, ?yfa29⟩) hS ?rfa29
  case yfa29 => (intro w hS; go_simp; try with_reducible rfl)
  go_simp
  refine wpAnyH_take (i := 30) (oi := { dst := some 57, op := Op.load 26 (Operand.tmp 8), type := 26, pos := "law.go:76", after := #[{ on := 29, ground := Ground.guard }], guard := some (29, true) }) (v := .agg (qcells a)) rfl (by kernel_rfl) (by kernel_rfl) (by kernel_rfl) (fun _ _ _ h => h) (Or.inl ⟨by rfl, ?yfa30⟩) hS ?rfa30
  case yfa30 => exact fun w' hS => exec_load_row w' 26 (.tmp 8) rfl p3 (by first | rfl | (simp [Act.eval])) 26 (qcells a) (0, 0) _ (hS.row (by simp)) Tryz.underlying26 rfl info26.out
  refine wpAnyH_take (i := 31) (oi := { dst := some 58, op := Op.load 26 (Operand.tmp 9), type := 26, pos := "law.go:76", after := #[{ on := 29, ground := Ground.guard }], guard := some (29, true) }) (v := .agg (qcells b)) rfl (by kernel_rfl) (by kernel_rfl) (by kernel_rfl) (fun _ _ _ h => h) (Or.inl ⟨by rfl, ?yfa31⟩) hS ?rfa31
  case yfa31 => exact fun w' hS => exec_load_row w' 26 (.tmp 9) rfl p5 (by first | rfl | (simp [Act.eval])) 26 (qcells b) (0, 0) _ (hS.row (by simp)) Tryz.underlying26 rfl info26.out
  refine wpAnyH_take (i := 33) (oi := { dst := some 60, op := Op.load 26 (Operand.tmp 10), type := 26, pos := "law.go:76", after := #[{ on := 29, ground := Ground.guard }], guard := some (29, true) }) (v := .agg (qcells c)) rfl (by kernel_rfl) (by kernel_rfl) (by kernel_rfl) (fun _ _ _ h => h) (Or.inl ⟨by rfl, ?yfa33⟩) hS ?rfa33
  case yfa33 => exact fun w' hS => exec_load_row w' 26 (.tmp 10) rfl p7 (by first | rfl | (simp [Act.eval])) 26 (qcells c) (0, 0) _ (hS.row (by simp)) Tryz.underlying26 rfl info26.out
  refine wpAnyH_take (i := 35) (oi := { dst := some 62, op := Op.load 26 (Operand.tmp 8), type := 26, pos := "law.go:76", after := #[{ on := 29, ground := Ground.guard }], guard := some (29, true) }) (v := .agg (qcells a)) rfl (by kernel_rfl) (by kernel_rfl) (by kernel_rfl) (fun _ _ _ h => h) (Or.inl ⟨by rfl, ?yfa35⟩) hS ?rfa35
  case yfa35 => exact fun w' hS => exec_load_row w' 26 (.tmp 8) rfl p3 (by first | rfl | (simp [Act.eval])) 26 (qcells a) (0, 0) _ (hS.row (by simp)) Tryz.underlying26 rfl info26.out
  refine wpAnyH_take (i := 36) (oi := { dst := some 63, op := Op.load 26 (Operand.tmp 9), type := 26, pos := "law.go:76", after := #[{ on := 29, ground := Ground.guard }], guard := some (29, true) }) (v := .agg (qcells b)) rfl (by kernel_rfl) (by kernel_rfl) (by kernel_rfl) (fun _ _ _ h => h) (Or.inl ⟨by rfl, ?yfa36⟩) hS ?rfa36
  case yfa36 => exact fun w' hS => exec_load_row w' 26 (.tmp 9) rfl p5 (by first | rfl | (simp [Act.eval])) 26 (qcells b) (0, 0) _ (hS.row (by simp)) Tryz.underlying26 rfl info26.out
  refine wpAnyH_take (i := 37) (oi := { dst := some 64, op := Op.load 26 (Operand.tmp 10), type := 26, pos := "law.go:76", after := #[{ on := 29, ground := Ground.guard }], guard := some (29, true) }) (v := .agg (qcells c)) rfl (by kernel_rfl) (by kernel_rfl) (by kernel_rfl) (fun _ _ _ h => h) (Or.inl ⟨by rfl, ?yfa37⟩) hS ?rfa37
  case yfa37 => exact fun w' hS => exec_load_row w' 26 (.tmp 10) rfl p7 (by first | rfl | (simp [Act.eval])) 26 (qcells c) (0, 0) _ (hS.row (by simp)) Tryz.underlying26 rfl info26.out
  go_simp
  refine wpAnyH_ready (rs := [32]) (by kernel_rfl) (by simp) ?_
  refine AllReadyH.cons (o := { dst := some 59, op := Op.call { callee := Callee.value (Operand.func 18), args := #[Operand.tmp 57, Operand.tmp 58], argTypes := #[26, 26] }, type := 26, pos := "law.go:76", after := #[{ on := 30, ground := Ground.data }, { on := 31, ground := Ground.data }, { on := 29, ground := Ground.chain }, { on := 29, ground := Ground.guard }], guard := some (29, true) }) rfl (fun K hK => ?_) AllReadyH.nil
  go_simp
  go_at_call 18
  refine (H7.out.2.2.2.2.2.2.2.2.1 _ hS.t).mono ?_
  rintro e w' ⟨rfl, b⟩
  have hS2 := hS.next b
  clear b hS
  try go_simp
  refine hK.out _ _ hS2 (fun hS => ?_)
  clear hK K hS2
  refine wpAnyH_ready (rs := [34]) (by kernel_rfl) (by simp) ?_
  refine AllReadyH.cons (o := { dst := some 61, op := Op.call { callee := Callee.value (Operand.func 18), args := #[Operand.tmp 59, Operand.tmp 60], argTypes := #[26, 26] }, type := 26, pos := "law.go:76", after := #[{ on := 32, ground := Ground.data }, { on := 33, ground := Ground.data }, { on := 32, ground := Ground.chain }, { on := 29, ground := Ground.guard }], guard := some (29, true) }) rfl (fun K hK => ?_) AllReadyH.nil
  go_simp
  go_at_call 18
  refine (H7.out.2.2.2.2.2.2.2.2.2.1 _ hS.t).mono ?_
  rintro e w' ⟨rfl, b⟩
  have hS2 := hS.next b
  clear b hS
  try go_simp
  refine hK.out _ _ hS2 (fun hS => ?_)
  clear hK K hS2
  refine wpAnyH_ready (rs := [38]) (by kernel_rfl) (by simp) ?_
  refine AllReadyH.cons (o := { dst := some 65, op := Op.call { callee := Callee.value (Operand.func 18), args := #[Operand.tmp 63, Operand.tmp 64], argTypes := #[26, 26] }, type := 26, pos := "law.go:76", after := #[{ on := 36, ground := Ground.data }, { on := 37, ground := Ground.data }, { on := 34, ground := Ground.chain }, { on := 29, ground := Ground.guard }], guard := some (29, true) }) rfl (fun K hK => ?_) AllReadyH.nil
  go_simp
  go_at_call 18
  refine (H7.out.2.2.2.2.2.2.2.2.2.2.1 _ hS.t).mono ?_
  rintro e w' ⟨rfl, b⟩
  have hS2 := hS.next b
  clear b hS
  try go_simp
  refine hK.out _ _ hS2 (fun hS => ?_)
  clear hK K hS2
  refine wpAnyH_ready (rs := [39]) (by kernel_rfl) (by simp) ?_
  refine AllReadyH.cons (o := { dst := some 66, op := Op.call { callee := Callee.value (Operand.func 18), args := #[Operand.tmp 62, Operand.tmp 65], argTypes := #[26, 26] }, type := 26, pos := "law.go:76", after := #[{ on := 35, ground := Ground.data }, { on := 38, ground := Ground.data }, { on := 38, ground := Ground.chain }, { on := 29, ground := Ground.guard }], guard := some (29, true) }) rfl (fun K hK => ?_) AllReadyH.nil
  go_simp
  go_at_call 18
  refine (H7.out.2.2.2.2.2.2.2.2.2.2.2 _ hS.t).mono ?_
  rintro e w' ⟨rfl, b⟩
  have hS2 := hS.next b
  clear b hS
  try go_simp
  refine hK.out _ _ hS2 (fun hS => ?_)
  clear hK K hS2
  refine wpAnyH_take (i := 40) (oi := { dst := some 67, op := Op.binOp BinOp.eql 26 (Operand.tmp 61) (Operand.tmp 66) 26, type := 4, pos := "law.go:76", after := #[{ on := 34, ground := Ground.data }, { on := 39, ground := Ground.data }, { on := 29, ground := Ground.guard }], guard := some (29, true) }) (v := ?vfa40) rfl (by kernel_rfl) (by kernel_rfl) (by kernel_rfl) (fun _ _ _ h => h) (Or.inl ⟨by rfl, ?yfa40⟩) hS ?rfa40
  case yfa40 => (intro w hS; go_simp; try with_reducible rfl)
  go_simp
  refine wpAnyH_take (i := 41) (oi := { dst := some 68, op := Op.pick (Operand.tmp 56) (Operand.tmp 67) (Operand.const (Value.bool false)), type := 4, pos := "law.go:76", after := #[{ on := 29, ground := Ground.data }, { on := 40, ground := Ground.data }], guard := none }) (v := ?vfa41) rfl (by kernel_rfl) (by kernel_rfl) (by kernel_rfl) (fun _ _ _ h => h) (Or.inl ⟨by rfl, ?yfa41⟩) hS ?rfa41
  case yfa41 => (intro w hS; go_simp; try with_reducible rfl)
  go_simp
  refine wpAnyH_take (i := 42) (oi := { dst := some 13, op := Op.assign (Operand.tmp 68), type := 4, pos := "law.go:76", after := #[{ on := 41, ground := Ground.data }, { on := 39, ground := Ground.chain }, { on := 0, ground := Ground.phase }, { on := 1, ground := Ground.phase }, { on := 2, ground := Ground.phase }, { on := 3, ground := Ground.phase }, { on := 4, ground := Ground.phase }, { on := 5, ground := Ground.phase }, { on := 6, ground := Ground.phase }, { on := 7, ground := Ground.phase }, { on := 8, ground := Ground.phase }, { on := 9, ground := Ground.phase }, { on := 10, ground := Ground.phase }, { on := 11, ground := Ground.phase }, { on := 12, ground := Ground.phase }, { on := 13, ground := Ground.phase }, { on := 14, ground := Ground.phase }, { on := 15, ground := Ground.phase }, { on := 16, ground := Ground.phase }, { on := 17, ground := Ground.phase }, { on := 18, ground := Ground.phase }, { on := 19, ground := Ground.phase }, { on := 20, ground := Ground.phase }, { on := 21, ground := Ground.phase }, { on := 22, ground := Ground.phase }, { on := 23, ground := Ground.phase }, { on := 24, ground := Ground.phase }, { on := 25, ground := Ground.phase }, { on := 26, ground := Ground.phase }, { on := 27, ground := Ground.phase }, { on := 28, ground := Ground.phase }, { on := 29, ground := Ground.phase }, { on := 30, ground := Ground.phase }, { on := 31, ground := Ground.phase }, { on := 32, ground := Ground.phase }, { on := 33, ground := Ground.phase }, { on := 34, ground := Ground.phase }, { on := 35, ground := Ground.phase }, { on := 36, ground := Ground.phase }, { on := 37, ground := Ground.phase }, { on := 38, ground := Ground.phase }, { on := 39, ground := Ground.phase }, { on := 40, ground := Ground.phase }, { on := 41, ground := Ground.phase }], guard := none }) (v := ?vfa42) rfl (by kernel_rfl) (by kernel_rfl) (by kernel_rfl) (fun _ _ _ h => h) (Or.inl ⟨by rfl, ?yfa42⟩) hS ?rfa42
  case yfa42 => (intro w hS; go_simp; try with_reducible rfl)
  refine wpAnyH_done (by kernel_rfl) ?_ _
  have HR7 := Lib.hid hS
  clear hS E1 E2 E3 E4
  go_upto_region 8 with fail
  have E1 := HE.out.2.2.2.2.1
  have E2 := HE.out.2.2.2.2.2.1
  have E3 := HE.out.2.2.2.2.2.2.1
  have E4 := HE.out.2.2.2.2.2.2.2
  refine wp_region_held_drew (S := KB w [(p11, qcells 1), (p9, qcells 0), (p7, qcells c), (p5, qcells b), (p3, qcells a)]) (by kernel_rfl) HR7.out.drew (fun hS => ?_)
  clear HR7
  refine wpAnyH_take (i := 0) (oi := { dst := some 69, op := Op.load 26 (Operand.tmp 8), type := 26, pos := "law.go:77", after := #[], guard := none }) (v := .agg (qcells a)) rfl (by kernel_rfl) (by kernel_rfl) (by kernel_rfl) (fun _ _ _ h => h) (Or.inl ⟨by rfl, ?yfb0⟩) hS ?rfb0
  case yfb0 => exact fun w' hS => exec_load_row w' 26 (.tmp 8) rfl p3 (by first | rfl | (simp [Act.eval])) 26 (qcells a) (0, 0) _ (hS.row (by simp)) Tryz.underlying26 rfl info26.out
  refine wpAnyH_take (i := 1) (oi := { dst := some 70, op := Op.load 26 (Operand.tmp 9), type := 26, pos := "law.go:77", after := #[], guard := none }) (v := .agg (qcells b)) rfl (by kernel_rfl) (by kernel_rfl) (by kernel_rfl) (fun _ _ _ h => h) (Or.inl ⟨by rfl, ?yfb1⟩) hS ?rfb1
  case yfb1 => exact fun w' hS => exec_load_row w' 26 (.tmp 9) rfl p5 (by first | rfl | (simp [Act.eval])) 26 (qcells b) (0, 0) _ (hS.row (by simp)) Tryz.underlying26 rfl info26.out
  refine wpAnyH_take (i := 2) (oi := { dst := some 71, op := Op.load 26 (Operand.tmp 10), type := 26, pos := "law.go:77", after := #[], guard := none }) (v := .agg (qcells c)) rfl (by kernel_rfl) (by kernel_rfl) (by kernel_rfl) (fun _ _ _ h => h) (Or.inl ⟨by rfl, ?yfb2⟩) hS ?rfb2
  case yfb2 => exact fun w' hS => exec_load_row w' 26 (.tmp 10) rfl p7 (by first | rfl | (simp [Act.eval])) 26 (qcells c) (0, 0) _ (hS.row (by simp)) Tryz.underlying26 rfl info26.out
  refine wpAnyH_take (i := 5) (oi := { dst := some 74, op := Op.load 26 (Operand.tmp 8), type := 26, pos := "law.go:77", after := #[], guard := none }) (v := .agg (qcells a)) rfl (by kernel_rfl) (by kernel_rfl) (by kernel_rfl) (fun _ _ _ h => h) (Or.inl ⟨by rfl, ?yfb5⟩) hS ?rfb5
  case yfb5 => exact fun w' hS => exec_load_row w' 26 (.tmp 8) rfl p3 (by first | rfl | (simp [Act.eval])) 26 (qcells a) (0, 0) _ (hS.row (by simp)) Tryz.underlying26 rfl info26.out
  refine wpAnyH_take (i := 6) (oi := { dst := some 75, op := Op.load 26 (Operand.tmp 9), type := 26, pos := "law.go:77", after := #[], guard := none }) (v := .agg (qcells b)) rfl (by kernel_rfl) (by kernel_rfl) (by kernel_rfl) (fun _ _ _ h => h) (Or.inl ⟨by rfl, ?yfb6⟩) hS ?rfb6
  case yfb6 => exact fun w' hS => exec_load_row w' 26 (.tmp 9) rfl p5 (by first | rfl | (simp [Act.eval])) 26 (qcells b) (0, 0) _ (hS.row (by simp)) Tryz.underlying26 rfl info26.out
  refine wpAnyH_take (i := 8) (oi := { dst := some 77, op := Op.load 26 (Operand.tmp 8), type := 26, pos := "law.go:77", after := #[], guard := none }) (v := .agg (qcells a)) rfl (by kernel_rfl) (by kernel_rfl) (by kernel_rfl) (fun _ _ _ h => h) (Or.inl ⟨by rfl, ?yfb8⟩) hS ?rfb8
  case yfb8 => exact fun w' hS => exec_load_row w' 26 (.tmp 8) rfl p3 (by first | rfl | (simp [Act.eval])) 26 (qcells a) (0, 0) _ (hS.row (by simp)) Tryz.underlying26 rfl info26.out
  refine wpAnyH_take (i := 9) (oi := { dst := some 78, op := Op.load 26 (Operand.tmp 10), type := 26, pos := "law.go:77", after := #[], guard := none }) (v := .agg (qcells c)) rfl (by kernel_rfl) (by kernel_rfl) (by kernel_rfl) (fun _ _ _ h => h) (Or.inl ⟨by rfl, ?yfb9⟩) hS ?rfb9
  case yfb9 => exact fun w' hS => exec_load_row w' 26 (.tmp 10) rfl p7 (by first | rfl | (simp [Act.eval])) 26 (qcells c) (0, 0) _ (hS.row (by simp)) Tryz.underlying26 rfl info26.out
  go_simp
  refine wpAnyH_ready (rs := [3]) (by kernel_rfl) (by simp) ?_
  refine AllReadyH.cons (o := { dst := some 72, op := Op.call { callee := Callee.value (Operand.func 14), args := #[Operand.tmp 70, Operand.tmp 71], argTypes := #[26, 26] }, type := 26, pos := "law.go:77", after := #[{ on := 1, ground := Ground.data }, { on := 2, ground := Ground.data }], guard := none }) rfl (fun K hK => ?_) AllReadyH.nil
  go_simp
  go_at_call 14
  refine (H8.out.1 _ hS.t).mono ?_
  rintro e w' ⟨rfl, b⟩
  have hS2 := hS.next b
  clear b hS
  try go_simp
  refine hK.out _ _ hS2 (fun hS => ?_)
  clear hK K hS2
  refine wpAnyH_ready (rs := [4]) (by kernel_rfl) (by simp) ?_
  refine AllReadyH.cons (o := { dst := some 73, op := Op.call { callee := Callee.value (Operand.func 18), args := #[Operand.tmp 69, Operand.tmp 72], argTypes := #[26, 26] }, type := 26, pos := "law.go:77", after := #[{ on := 0, ground := Ground.data }, { on := 3, ground := Ground.data }, { on := 3, ground := Ground.chain }], guard := none }) rfl (fun K hK => ?_) AllReadyH.nil
  go_simp
  go_at_call 18
  refine (H8.out.2.1 _ hS.t).mono ?_
  rintro e w' ⟨rfl, b⟩
  have hS2 := hS.next b
  clear b hS
  try go_simp
  refine hK.out _ _ hS2 (fun hS => ?_)
  clear hK K hS2
  refine wpAnyH_ready (rs := [7]) (by kernel_rfl) (by simp) ?_
  refine AllReadyH.cons (o := { dst := some 76, op := Op.call { callee := Callee.value (Operand.func 18), args := #[Operand.tmp 74, Operand.tmp 75], argTypes := #[26, 26] }, type := 26, pos := "law.go:77", after := #[{ on := 5, ground := Ground.data }, { on := 6, ground := Ground.data }, { on := 4, ground := Ground.chain }], guard := none }) rfl (fun K hK => ?_) AllReadyH.nil
  go_simp
  go_at_call 18
  refine (H8.out.2.2.1 _ hS.t).mono ?_
  rintro e w' ⟨rfl, b⟩
  have hS2 := hS.next b
  clear b hS
  try go_simp
  refine hK.out _ _ hS2 (fun hS => ?_)
  clear hK K hS2
  refine wpAnyH_ready (rs := [10]) (by kernel_rfl) (by simp) ?_
  refine AllReadyH.cons (o := { dst := some 79, op := Op.call { callee := Callee.value (Operand.func 18), args := #[Operand.tmp 77, Operand.tmp 78], argTypes := #[26, 26] }, type := 26, pos := "law.go:77", after := #[{ on := 8, ground := Ground.data }, { on := 9, ground := Ground.data }, { on := 7, ground := Ground.chain }], guard := none }) rfl (fun K hK => ?_) AllReadyH.nil
  go_simp
  go_at_call 18
  refine (H8.out.2.2.2.1 _ hS.t).mono ?_
  rintro e w' ⟨rfl, b⟩
  have hS2 := hS.next b
  clear b hS
  try go_simp
  refine hK.out _ _ hS2 (fun hS => ?_)
  clear hK K hS2
  refine wpAnyH_ready (rs := [11]) (by kernel_rfl) (by simp) ?_
  refine AllReadyH.cons (o := { dst := some 80, op := Op.call { callee := Callee.value (Operand.func 14), args := #[Operand.tmp 76, Operand.tmp 79], argTypes := #[26, 26] }, type := 26, pos := "law.go:77", after := #[{ on := 7, ground := Ground.data }, { on := 10, ground := Ground.data }, { on := 10, ground := Ground.chain }], guard := none }) rfl (fun K hK => ?_) AllReadyH.nil
  go_simp
  go_at_call 14
  refine (H8.out.2.2.2.2.1 _ hS.t).mono ?_
  rintro e w' ⟨rfl, b⟩
  have hS2 := hS.next b
  clear b hS
  try go_simp
  refine hK.out _ _ hS2 (fun hS => ?_)
  clear hK K hS2
  refine wpAnyH_take (i := 12) (oi := { dst := some 81, op := Op.binOp BinOp.eql 26 (Operand.tmp 73) (Operand.tmp 80) 26, type := 4, pos := "law.go:77", after := #[{ on := 4, ground := Ground.data }, { on := 11, ground := Ground.data }], guard := none }) (v := ?vfb12) rfl (by kernel_rfl) (by kernel_rfl) (by kernel_rfl) (fun _ _ _ h => h) (Or.inl ⟨by rfl, ?yfb12⟩) hS ?rfb12
  case yfb12 => (intro w hS; go_simp; try with_reducible rfl)
  go_simp
  refine wpAnyH_take (i := 13) (oi := { dst := some 82, op := Op.move (Operand.tmp 81), type := 4, pos := "law.go:77", after := #[{ on := 12, ground := Ground.data }, { on := 11, ground := Ground.chain }], guard := none }) (v := ?vfb13) rfl (by kernel_rfl) (by kernel_rfl) (by kernel_rfl) (fun _ _ _ h => h) (Or.inl ⟨by rfl, ?yfb13⟩) hS ?rfb13
  case yfb13 => (intro w hS; go_simp; try with_reducible rfl)
  go_simp
  refine wpAnyH_take (i := 14) (oi := { dst := some 83, op := Op.load 26 (Operand.tmp 8), type := 26, pos := "law.go:77", after := #[{ on := 13, ground := Ground.guard }], guard := some (13, true) }) (v := .agg (qcells a)) rfl (by kernel_rfl) (by kernel_rfl) (by kernel_rfl) (fun _ _ _ h => h) (Or.inl ⟨by rfl, ?yfb14⟩) hS ?rfb14
  case yfb14 => exact fun w' hS => exec_load_row w' 26 (.tmp 8) rfl p3 (by first | rfl | (simp [Act.eval])) 26 (qcells a) (0, 0) _ (hS.row (by simp)) Tryz.underlying26 rfl info26.out
  refine wpAnyH_take (i := 15) (oi := { dst := some 84, op := Op.load 26 (Operand.tmp 11), type := 26, pos := "law.go:77", after := #[{ on := 13, ground := Ground.guard }], guard := some (13, true) }) (v := .agg (qcells 0)) rfl (by kernel_rfl) (by kernel_rfl) (by kernel_rfl) (fun _ _ _ h => h) (Or.inl ⟨by rfl, ?yfb15⟩) hS ?rfb15
  case yfb15 => exact fun w' hS => exec_load_row w' 26 (.tmp 11) rfl p9 (by first | rfl | (simp [Act.eval])) 26 (qcells 0) (0, 0) _ (hS.row (by simp)) Tryz.underlying26 rfl info26.out
  refine wpAnyH_take (i := 17) (oi := { dst := some 86, op := Op.load 26 (Operand.tmp 8), type := 26, pos := "law.go:77", after := #[{ on := 13, ground := Ground.guard }], guard := some (13, true) }) (v := .agg (qcells a)) rfl (by kernel_rfl) (by kernel_rfl) (by kernel_rfl) (fun _ _ _ h => h) (Or.inl ⟨by rfl, ?yfb17⟩) hS ?rfb17
  case yfb17 => exact fun w' hS => exec_load_row w' 26 (.tmp 8) rfl p3 (by first | rfl | (simp [Act.eval])) 26 (qcells a) (0, 0) _ (hS.row (by simp)) Tryz.underlying26 rfl info26.out
  go_simp
  refine wpAnyH_ready (rs := [16]) (by kernel_rfl) (by simp) ?_
  refine AllReadyH.cons (o := { dst := some 85, op := Op.call { callee := Callee.value (Operand.func 14), args := #[Operand.tmp 83, Operand.tmp 84], argTypes := #[26, 26] }, type := 26, pos := "law.go:77", after := #[{ on := 14, ground := Ground.data }, { on := 15, ground := Ground.data }, { on := 13, ground := Ground.chain }, { on := 13, ground := Ground.guard }], guard := some (13, true) }) rfl (fun K hK => ?_) AllReadyH.nil
  go_simp
  go_at_call 14
  refine (H8.out.2.2.2.2.2.1 _ hS.t).mono ?_
  rintro e w' ⟨rfl, b⟩
  have hS2 := hS.next b
  clear b hS
  try go_simp
  refine hK.out _ _ hS2 (fun hS => ?_)
  clear hK K hS2
  refine wpAnyH_take (i := 18) (oi := { dst := some 87, op := Op.binOp BinOp.eql 26 (Operand.tmp 85) (Operand.tmp 86) 26, type := 4, pos := "law.go:77", after := #[{ on := 16, ground := Ground.data }, { on := 17, ground := Ground.data }, { on := 13, ground := Ground.guard }], guard := some (13, true) }) (v := ?vfb18) rfl (by kernel_rfl) (by kernel_rfl) (by kernel_rfl) (fun _ _ _ h => h) (Or.inl ⟨by rfl, ?yfb18⟩) hS ?rfb18
  case yfb18 => (intro w hS; go_simp; try with_reducible rfl)
  go_simp
  refine wpAnyH_take (i := 19) (oi := { dst := some 88, op := Op.pick (Operand.tmp 82) (Operand.tmp 87) (Operand.const (Value.bool false)), type := 4, pos := "law.go:77", after := #[{ on := 13, ground := Ground.data }, { on := 18, ground := Ground.data }], guard := none }) (v := ?vfb19) rfl (by kernel_rfl) (by kernel_rfl) (by kernel_rfl) (fun _ _ _ h => h) (Or.inl ⟨by rfl, ?yfb19⟩) hS ?rfb19
  case yfb19 => (intro w hS; go_simp; try with_reducible rfl)
  go_simp
  refine wpAnyH_take (i := 20) (oi := { dst := some 89, op := Op.move (Operand.tmp 88), type := 4, pos := "law.go:77", after := #[{ on := 19, ground := Ground.data }, { on := 16, ground := Ground.chain }], guard := none }) (v := ?vfb20) rfl (by kernel_rfl) (by kernel_rfl) (by kernel_rfl) (fun _ _ _ h => h) (Or.inl ⟨by rfl, ?yfb20⟩) hS ?rfb20
  case yfb20 => (intro w hS; go_simp; try with_reducible rfl)
  go_simp
  refine wpAnyH_take (i := 21) (oi := { dst := some 90, op := Op.load 26 (Operand.tmp 8), type := 26, pos := "law.go:77", after := #[{ on := 20, ground := Ground.guard }], guard := some (20, true) }) (v := .agg (qcells a)) rfl (by kernel_rfl) (by kernel_rfl) (by kernel_rfl) (fun _ _ _ h => h) (Or.inl ⟨by rfl, ?yfb21⟩) hS ?rfb21
  case yfb21 => exact fun w' hS => exec_load_row w' 26 (.tmp 8) rfl p3 (by first | rfl | (simp [Act.eval])) 26 (qcells a) (0, 0) _ (hS.row (by simp)) Tryz.underlying26 rfl info26.out
  refine wpAnyH_take (i := 22) (oi := { dst := some 91, op := Op.load 26 (Operand.tmp 12), type := 26, pos := "law.go:77", after := #[{ on := 20, ground := Ground.guard }], guard := some (20, true) }) (v := .agg (qcells 1)) rfl (by kernel_rfl) (by kernel_rfl) (by kernel_rfl) (fun _ _ _ h => h) (Or.inl ⟨by rfl, ?yfb22⟩) hS ?rfb22
  case yfb22 => exact fun w' hS => exec_load_row w' 26 (.tmp 12) rfl p11 (by first | rfl | (simp [Act.eval])) 26 (qcells 1) (0, 0) _ (hS.row (by simp)) Tryz.underlying26 rfl info26.out
  refine wpAnyH_take (i := 24) (oi := { dst := some 93, op := Op.load 26 (Operand.tmp 8), type := 26, pos := "law.go:77", after := #[{ on := 20, ground := Ground.guard }], guard := some (20, true) }) (v := .agg (qcells a)) rfl (by kernel_rfl) (by kernel_rfl) (by kernel_rfl) (fun _ _ _ h => h) (Or.inl ⟨by rfl, ?yfb24⟩) hS ?rfb24
  case yfb24 => exact fun w' hS => exec_load_row w' 26 (.tmp 8) rfl p3 (by first | rfl | (simp [Act.eval])) 26 (qcells a) (0, 0) _ (hS.row (by simp)) Tryz.underlying26 rfl info26.out
  go_simp
  refine wpAnyH_ready (rs := [23]) (by kernel_rfl) (by simp) ?_
  refine AllReadyH.cons (o := { dst := some 92, op := Op.call { callee := Callee.value (Operand.func 18), args := #[Operand.tmp 90, Operand.tmp 91], argTypes := #[26, 26] }, type := 26, pos := "law.go:77", after := #[{ on := 21, ground := Ground.data }, { on := 22, ground := Ground.data }, { on := 20, ground := Ground.chain }, { on := 20, ground := Ground.guard }], guard := some (20, true) }) rfl (fun K hK => ?_) AllReadyH.nil
  go_simp
  go_at_call 18
  refine (H8.out.2.2.2.2.2.2.1 _ hS.t).mono ?_
  rintro e w' ⟨rfl, b⟩
  have hS2 := hS.next b
  clear b hS
  try go_simp
  refine hK.out _ _ hS2 (fun hS => ?_)
  clear hK K hS2
  refine wpAnyH_take (i := 25) (oi := { dst := some 94, op := Op.binOp BinOp.eql 26 (Operand.tmp 92) (Operand.tmp 93) 26, type := 4, pos := "law.go:77", after := #[{ on := 23, ground := Ground.data }, { on := 24, ground := Ground.data }, { on := 20, ground := Ground.guard }], guard := some (20, true) }) (v := ?vfb25) rfl (by kernel_rfl) (by kernel_rfl) (by kernel_rfl) (fun _ _ _ h => h) (Or.inl ⟨by rfl, ?yfb25⟩) hS ?rfb25
  case yfb25 => (intro w hS; go_simp; try with_reducible rfl)
  go_simp
  refine wpAnyH_take (i := 26) (oi := { dst := some 95, op := Op.pick (Operand.tmp 89) (Operand.tmp 94) (Operand.const (Value.bool false)), type := 4, pos := "law.go:77", after := #[{ on := 20, ground := Ground.data }, { on := 25, ground := Ground.data }], guard := none }) (v := ?vfb26) rfl (by kernel_rfl) (by kernel_rfl) (by kernel_rfl) (fun _ _ _ h => h) (Or.inl ⟨by rfl, ?yfb26⟩) hS ?rfb26
  case yfb26 => (intro w hS; go_simp; try with_reducible rfl)
  go_simp
  refine wpAnyH_take (i := 27) (oi := { dst := some 96, op := Op.move (Operand.tmp 95), type := 4, pos := "law.go:77", after := #[{ on := 26, ground := Ground.data }, { on := 23, ground := Ground.chain }], guard := none }) (v := ?vfb27) rfl (by kernel_rfl) (by kernel_rfl) (by kernel_rfl) (fun _ _ _ h => h) (Or.inl ⟨by rfl, ?yfb27⟩) hS ?rfb27
  case yfb27 => (intro w hS; go_simp; try with_reducible rfl)
  go_simp
  refine wpAnyH_take (i := 28) (oi := { dst := some 97, op := Op.load 26 (Operand.tmp 8), type := 26, pos := "law.go:77", after := #[{ on := 27, ground := Ground.guard }], guard := some (27, true) }) (v := .agg (qcells a)) rfl (by kernel_rfl) (by kernel_rfl) (by kernel_rfl) (fun _ _ _ h => h) (Or.inl ⟨by rfl, ?yfb28⟩) hS ?rfb28
  case yfb28 => exact fun w' hS => exec_load_row w' 26 (.tmp 8) rfl p3 (by first | rfl | (simp [Act.eval])) 26 (qcells a) (0, 0) _ (hS.row (by simp)) Tryz.underlying26 rfl info26.out
  refine wpAnyH_take (i := 29) (oi := { dst := some 98, op := Op.load 26 (Operand.tmp 8), type := 26, pos := "law.go:77", after := #[{ on := 27, ground := Ground.guard }], guard := some (27, true) }) (v := .agg (qcells a)) rfl (by kernel_rfl) (by kernel_rfl) (by kernel_rfl) (fun _ _ _ h => h) (Or.inl ⟨by rfl, ?yfb29⟩) hS ?rfb29
  case yfb29 => exact fun w' hS => exec_load_row w' 26 (.tmp 8) rfl p3 (by first | rfl | (simp [Act.eval])) 26 (qcells a) (0, 0) _ (hS.row (by simp)) Tryz.underlying26 rfl info26.out
  refine wpAnyH_take (i := 32) (oi := { dst := some 101, op := Op.load 26 (Operand.tmp 11), type := 26, pos := "law.go:77", after := #[{ on := 27, ground := Ground.guard }], guard := some (27, true) }) (v := .agg (qcells 0)) rfl (by kernel_rfl) (by kernel_rfl) (by kernel_rfl) (fun _ _ _ h => h) (Or.inl ⟨by rfl, ?yfb32⟩) hS ?rfb32
  case yfb32 => exact fun w' hS => exec_load_row w' 26 (.tmp 11) rfl p9 (by first | rfl | (simp [Act.eval])) 26 (qcells 0) (0, 0) _ (hS.row (by simp)) Tryz.underlying26 rfl info26.out
  go_simp
  refine wpAnyH_ready (rs := [30]) (by kernel_rfl) (by simp) ?_
  refine AllReadyH.cons (o := { dst := some 99, op := Op.call { callee := Callee.value (Operand.func 24), args := #[Operand.tmp 98], argTypes := #[26] }, type := 26, pos := "law.go:77", after := #[{ on := 29, ground := Ground.data }, { on := 27, ground := Ground.chain }, { on := 27, ground := Ground.guard }], guard := some (27, true) }) rfl (fun K hK => ?_) AllReadyH.nil
  go_simp
  go_at_call 24
  refine (H8.out.2.2.2.2.2.2.2.1 _ hS.t).mono ?_
  rintro e w' ⟨rfl, b⟩
  have hS2 := hS.next b
  clear b hS
  try go_simp
  refine hK.out _ _ hS2 (fun hS => ?_)
  clear hK K hS2
  refine wpAnyH_ready (rs := [31]) (by kernel_rfl) (by simp) ?_
  refine AllReadyH.cons (o := { dst := some 100, op := Op.call { callee := Callee.value (Operand.func 14), args := #[Operand.tmp 97, Operand.tmp 99], argTypes := #[26, 26] }, type := 26, pos := "law.go:77", after := #[{ on := 28, ground := Ground.data }, { on := 30, ground := Ground.data }, { on := 30, ground := Ground.chain }, { on := 27, ground := Ground.guard }], guard := some (27, true) }) rfl (fun K hK => ?_) AllReadyH.nil
  go_simp
  go_at_call 14
  refine (H8.out.2.2.2.2.2.2.2.2 _ hS.t).mono ?_
  rintro e w' ⟨rfl, b⟩
  have hS2 := hS.next b
  clear b hS
  try go_simp
  refine hK.out _ _ hS2 (fun hS => ?_)
  clear hK K hS2
  refine wpAnyH_take (i := 33) (oi := { dst := some 102, op := Op.binOp BinOp.eql 26 (Operand.tmp 100) (Operand.tmp 101) 26, type := 4, pos := "law.go:77", after := #[{ on := 31, ground := Ground.data }, { on := 32, ground := Ground.data }, { on := 27, ground := Ground.guard }], guard := some (27, true) }) (v := ?vfb33) rfl (by kernel_rfl) (by kernel_rfl) (by kernel_rfl) (fun _ _ _ h => h) (Or.inl ⟨by rfl, ?yfb33⟩) hS ?rfb33
  case yfb33 => (intro w hS; go_simp; try with_reducible rfl)
  go_simp
  refine wpAnyH_take (i := 34) (oi := { dst := some 103, op := Op.pick (Operand.tmp 96) (Operand.tmp 102) (Operand.const (Value.bool false)), type := 4, pos := "law.go:77", after := #[{ on := 27, ground := Ground.data }, { on := 33, ground := Ground.data }], guard := none }) (v := ?vfb34) rfl (by kernel_rfl) (by kernel_rfl) (by kernel_rfl) (fun _ _ _ h => h) (Or.inl ⟨by rfl, ?yfb34⟩) hS ?rfb34
  case yfb34 => (intro w hS; go_simp; try with_reducible rfl)
  go_simp
  refine wpAnyH_take (i := 35) (oi := { dst := some 14, op := Op.assign (Operand.tmp 103), type := 4, pos := "law.go:77", after := #[{ on := 34, ground := Ground.data }, { on := 31, ground := Ground.chain }, { on := 0, ground := Ground.phase }, { on := 1, ground := Ground.phase }, { on := 2, ground := Ground.phase }, { on := 3, ground := Ground.phase }, { on := 4, ground := Ground.phase }, { on := 5, ground := Ground.phase }, { on := 6, ground := Ground.phase }, { on := 7, ground := Ground.phase }, { on := 8, ground := Ground.phase }, { on := 9, ground := Ground.phase }, { on := 10, ground := Ground.phase }, { on := 11, ground := Ground.phase }, { on := 12, ground := Ground.phase }, { on := 13, ground := Ground.phase }, { on := 14, ground := Ground.phase }, { on := 15, ground := Ground.phase }, { on := 16, ground := Ground.phase }, { on := 17, ground := Ground.phase }, { on := 18, ground := Ground.phase }, { on := 19, ground := Ground.phase }, { on := 20, ground := Ground.phase }, { on := 21, ground := Ground.phase }, { on := 22, ground := Ground.phase }, { on := 23, ground := Ground.phase }, { on := 24, ground := Ground.phase }, { on := 25, ground := Ground.phase }, { on := 26, ground := Ground.phase }, { on := 27, ground := Ground.phase }, { on := 28, ground := Ground.phase }, { on := 29, ground := Ground.phase }, { on := 30, ground := Ground.phase }, { on := 31, ground := Ground.phase }, { on := 32, ground := Ground.phase }, { on := 33, ground := Ground.phase }, { on := 34, ground := Ground.phase }], guard := none }) (v := ?vfb35) rfl (by kernel_rfl) (by kernel_rfl) (by kernel_rfl) (fun _ _ _ h => h) (Or.inl ⟨by rfl, ?yfb35⟩) hS ?rfb35
  case yfb35 => (intro w hS; go_simp; try with_reducible rfl)
  refine wpAnyH_done (by kernel_rfl) ?_ _
  have HR8 := Lib.hid hS
  clear hS E1 E2 E3 E4
  by_cases hb : b = 0
  · have HQ := Lib.hid fun W (h : Tp W) => aQuo0 W a b 100 HSM.out.2.1 (by decide) h hb
    have HN := Lib.hid fun W => aNe W b 0 false (by rw [decide_eq_true hb]; rfl)
    clear hb
    have rA := HR8.out.row (p := p3) (cs := qcells a) (by simp)
    have rB := HR8.out.row (p := p5) (cs := qcells b) (by simp)
    have c0 : w'.cell? ⟨p3, 0, none⟩ = some (.bool (decide (a.num < 0))) := cell_of_row _ _ 0 _ _ _ rA
    have c1 : w'.cell? ⟨p3, 1, none⟩ = some (.string (NB a.num.natAbs)) := cell_of_row _ _ 1 _ _ _ rA
    have c2 : w'.cell? ⟨p3, 2, none⟩ = some (.string (NB a.den)) := cell_of_row _ _ 2 _ _ _ rA
    have c3 : w'.cell? ⟨p5, 0, none⟩ = some (.bool (decide (b.num < 0))) := cell_of_row _ _ 0 _ _ _ rB
    have c4 : w'.cell? ⟨p5, 1, none⟩ = some (.string (NB b.num.natAbs)) := cell_of_row _ _ 1 _ _ _ rB
    have c5 : w'.cell? ⟨p5, 2, none⟩ = some (.string (NB b.den)) := cell_of_row _ _ 2 _ _ _ rB
    clear rA rB
    go_wp2_with fail
    refine (HQ.out _ HR8.out.t).mono ?_
    rintro e u41 ⟨rfl, b⟩
    have HS41 := Lib.hid (HR8.out.next b)
    clear c0 c1 c2 c3 c4 c5
    clear b
    go_upto_region 10 with (refine wpList_store_row rfl 26 (.tmp 15) (.tmp 108) rfl u41.heap.size (zrow) rfl rfl 26 zrow (heap_alloc_new _ _) info26.out rfl (zone) ?_)
    change Code.wp _ _ _ _ ((u41.alloc (.cells zrow 26)).setRow u41.heap.size (zrow))
    rw [World.setRow_alloc_new u41 zrow (zrow) 26]
    have hx := HS41.out.push (zrow)
    have hbx := Lib.hid ((Below.refl u41.heap.size u41).alloc (Nat.le_refl _) (.cells (zrow) 26))
    generalize u41.alloc (.cells (zrow) 26) = u42 at *
    obtain ⟨p42, hp⟩ : ∃ p, u41.heap.size = p := ⟨_, rfl⟩
    rw [hp] at hx ⊢
    clear hp hbx
    have HS42 := Lib.hid hx
    clear hx
    go_upto_region 10 with fail
    have N1 := HN.out
    refine wp_region_held_drew (S := KB w [(p42, zrow), (p11, qcells 1), (p9, qcells 0), (p7, qcells c), (p5, qcells b), (p3, qcells a)]) (by kernel_rfl) HS42.out.drew (fun hS => ?_)
    clear HS42
    refine wpAnyH_take (i := 0) (oi := { dst := some 110, op := Op.move (Operand.tmp 16), type := 4, pos := "law.go:79", after := #[], guard := none }) (v := ?vfxc0) rfl (by kernel_rfl) (by kernel_rfl) (by kernel_rfl) (fun _ _ _ h => h) (Or.inl ⟨by rfl, ?yfxc0⟩) hS ?rfxc0
    case yfxc0 => (intro w hS; go_simp; try with_reducible rfl)
    refine wpAnyH_take (i := 1) (oi := { dst := some 111, op := Op.load 26 (Operand.tmp 9), type := 26, pos := "law.go:79", after := #[], guard := none }) (v := .agg (qcells b)) rfl (by kernel_rfl) (by kernel_rfl) (by kernel_rfl) (fun _ _ _ h => h) (Or.inl ⟨by rfl, ?yfxc1⟩) hS ?rfxc1
    case yfxc1 => exact fun w' hS => exec_load_row w' 26 (.tmp 9) rfl p5 (by first | rfl | (simp [Act.eval])) 26 (qcells b) (0, 0) _ (hS.row (by simp)) Tryz.underlying26 rfl info26.out
    refine wpAnyH_take (i := 2) (oi := { dst := some 112, op := Op.load 26 (Operand.tmp 11), type := 26, pos := "law.go:79", after := #[], guard := none }) (v := .agg (qcells 0)) rfl (by kernel_rfl) (by kernel_rfl) (by kernel_rfl) (fun _ _ _ h => h) (Or.inl ⟨by rfl, ?yfxc2⟩) hS ?rfxc2
    case yfxc2 => exact fun w' hS => exec_load_row w' 26 (.tmp 11) rfl p9 (by first | rfl | (simp [Act.eval])) 26 (qcells 0) (0, 0) _ (hS.row (by simp)) Tryz.underlying26 rfl info26.out
    go_simp
    refine wpAnyH_take (i := 3) (oi := { dst := some 113, op := Op.binOp BinOp.neq 26 (Operand.tmp 111) (Operand.tmp 112) 26, type := 4, pos := "law.go:79", after := #[{ on := 1, ground := Ground.data }, { on := 2, ground := Ground.data }], guard := none }) (v := ?vfxc3) rfl (by kernel_rfl) (by kernel_rfl) (by kernel_rfl) (fun _ _ _ h => h) (Or.inl ⟨by rfl, ?yfxc3⟩) hS ?rfxc3
    case yfxc3 => (intro w hS; go_simp; try with_reducible rfl)
    go_simp
    refine wpAnyH_take (i := 4) (oi := { dst := some 114, op := Op.binOp BinOp.eql 4 (Operand.tmp 110) (Operand.tmp 113) 4, type := 4, pos := "law.go:79", after := #[{ on := 0, ground := Ground.data }, { on := 3, ground := Ground.data }], guard := none }) (v := ?vfxc4) rfl (by kernel_rfl) (by kernel_rfl) (by kernel_rfl) (fun _ _ _ h => h) (Or.inl ⟨by rfl, ?yfxc4⟩) hS ?rfxc4
    case yfxc4 => (intro w hS; go_simp; try with_reducible rfl)
    go_simp
    refine wpAnyH_take (i := 5) (oi := { dst := some 115, op := Op.move (Operand.tmp 114), type := 4, pos := "law.go:79", after := #[{ on := 4, ground := Ground.data }], guard := none }) (v := ?vfxc5) rfl (by kernel_rfl) (by kernel_rfl) (by kernel_rfl) (fun _ _ _ h => h) (Or.inl ⟨by rfl, ?yfxc5⟩) hS ?rfxc5
    case yfxc5 => (intro w hS; go_simp; try with_reducible rfl)
    go_simp
    refine wpAnyH_take (i := 6) (oi := { dst := some 116, op := Op.move (Operand.tmp 16), type := 4, pos := "law.go:79", after := #[{ on := 5, ground := Ground.guard }], guard := some (5, true) }) (v := ?vfxc6) rfl (by kernel_rfl) (by kernel_rfl) (by kernel_rfl) (fun _ _ _ h => h) (Or.inl ⟨by rfl, ?yfxc6⟩) hS ?rfxc6
    case yfxc6 => (intro w hS; go_simp; try with_reducible rfl)
    go_simp
    refine wpAnyH_take (i := 7) (oi := { dst := some 117, op := Op.unOp UnOp.not 4 (Operand.tmp 116), type := 4, pos := "law.go:79", after := #[{ on := 6, ground := Ground.data }, { on := 5, ground := Ground.guard }], guard := some (5, true) }) (v := ?vfxc7) rfl (by kernel_rfl) (by kernel_rfl) (by kernel_rfl) (fun _ _ _ h => h) (Or.inl ⟨by rfl, ?yfxc7⟩) hS ?rfxc7
    case yfxc7 => (intro w hS; go_simp; try with_reducible rfl)
    go_simp
    refine wpAnyH_take (i := 8) (oi := { dst := some 118, op := Op.move (Operand.tmp 117), type := 4, pos := "law.go:79", after := #[{ on := 7, ground := Ground.data }, { on := 5, ground := Ground.chain }, { on := 5, ground := Ground.guard }], guard := some (5, true) }) (v := ?vfxc8) rfl (by kernel_rfl) (by kernel_rfl) (by kernel_rfl) (fun _ _ _ h => h) (Or.inl ⟨by rfl, ?yfxc8⟩) hS ?rfxc8
    case yfxc8 => (intro w hS; go_simp; try with_reducible rfl)
    go_simp
    refine wpAnyH_take (i := 9) (oi := { dst := some 119, op := Op.load 26 (Operand.tmp 15), type := 26, pos := "law.go:79", after := #[{ on := 8, ground := Ground.guard }], guard := some (8, false) }) (v := undef) rfl (by kernel_rfl) (by kernel_rfl) (by kernel_rfl) (fun _ _ _ h => h) (Or.inr ⟨by rfl, rfl⟩) hS ?rfxc9
    refine wpAnyH_take (i := 10) (oi := { dst := some 120, op := Op.load 26 (Operand.tmp 9), type := 26, pos := "law.go:79", after := #[{ on := 8, ground := Ground.guard }], guard := some (8, false) }) (v := undef) rfl (by kernel_rfl) (by kernel_rfl) (by kernel_rfl) (fun _ _ _ h => h) (Or.inr ⟨by rfl, rfl⟩) hS ?rfxc10
    refine wpAnyH_take (i := 12) (oi := { dst := some 122, op := Op.load 26 (Operand.tmp 8), type := 26, pos := "law.go:79", after := #[{ on := 8, ground := Ground.guard }], guard := some (8, false) }) (v := undef) rfl (by kernel_rfl) (by kernel_rfl) (by kernel_rfl) (fun _ _ _ h => h) (Or.inr ⟨by rfl, rfl⟩) hS ?rfxc12
    go_simp
    refine wpAnyH_take (i := 11) (oi := { dst := some 121, op := Op.call { callee := Callee.value (Operand.func 18), args := #[Operand.tmp 119, Operand.tmp 120], argTypes := #[26, 26] }, type := 26, pos := "law.go:79", after := #[{ on := 9, ground := Ground.data }, { on := 10, ground := Ground.data }, { on := 8, ground := Ground.chain }, { on := 8, ground := Ground.guard }], guard := some (8, false) }) (v := undef) rfl (by kernel_rfl) (by kernel_rfl) (by kernel_rfl) (fun _ _ _ h => h) (Or.inr ⟨by rfl, rfl⟩) hS ?rfxc11
    go_simp
    refine wpAnyH_take (i := 13) (oi := { dst := some 123, op := Op.binOp BinOp.eql 26 (Operand.tmp 121) (Operand.tmp 122) 26, type := 4, pos := "law.go:79", after := #[{ on := 11, ground := Ground.data }, { on := 12, ground := Ground.data }, { on := 8, ground := Ground.guard }], guard := some (8, false) }) (v := undef) rfl (by kernel_rfl) (by kernel_rfl) (by kernel_rfl) (fun _ _ _ h => h) (Or.inr ⟨by rfl, rfl⟩) hS ?rfxc13
    go_simp
    refine wpAnyH_take (i := 14) (oi := { dst := some 124, op := Op.pick (Operand.tmp 118) (Operand.const (Value.bool true)) (Operand.tmp 123), type := 4, pos := "law.go:79", after := #[{ on := 8, ground := Ground.data }, { on := 13, ground := Ground.data }, { on := 5, ground := Ground.guard }], guard := some (5, true) }) (v := ?vfxc14) rfl (by kernel_rfl) (by kernel_rfl) (by kernel_rfl) (fun _ _ _ h => h) (Or.inl ⟨by rfl, ?yfxc14⟩) hS ?rfxc14
    case yfxc14 => (intro w hS; go_simp; try with_reducible rfl)
    go_simp
    refine wpAnyH_take (i := 15) (oi := { dst := some 125, op := Op.pick (Operand.tmp 115) (Operand.tmp 124) (Operand.const (Value.bool false)), type := 4, pos := "law.go:79", after := #[{ on := 5, ground := Ground.data }, { on := 14, ground := Ground.data }], guard := none }) (v := ?vfxc15) rfl (by kernel_rfl) (by kernel_rfl) (by kernel_rfl) (fun _ _ _ h => h) (Or.inl ⟨by rfl, ?yfxc15⟩) hS ?rfxc15
    case yfxc15 => (intro w hS; go_simp; try with_reducible rfl)
    go_simp
    refine wpAnyH_take (i := 16) (oi := { dst := some 17, op := Op.assign (Operand.tmp 125), type := 4, pos := "law.go:79", after := #[{ on := 15, ground := Ground.data }, { on := 11, ground := Ground.chain }, { on := 0, ground := Ground.phase }, { on := 1, ground := Ground.phase }, { on := 2, ground := Ground.phase }, { on := 3, ground := Ground.phase }, { on := 4, ground := Ground.phase }, { on := 5, ground := Ground.phase }, { on := 6, ground := Ground.phase }, { on := 7, ground := Ground.phase }, { on := 8, ground := Ground.phase }, { on := 9, ground := Ground.phase }, { on := 10, ground := Ground.phase }, { on := 11, ground := Ground.phase }, { on := 12, ground := Ground.phase }, { on := 13, ground := Ground.phase }, { on := 14, ground := Ground.phase }, { on := 15, ground := Ground.phase }], guard := none }) (v := ?vfxc16) rfl (by kernel_rfl) (by kernel_rfl) (by kernel_rfl) (fun _ _ _ h => h) (Or.inl ⟨by rfl, ?yfxc16⟩) hS ?rfxc16
    case yfxc16 => (intro w hS; go_simp; try with_reducible rfl)
    refine wpAnyH_done (by kernel_rfl) ?_ _
    have HR10 := Lib.hid hS
    clear hS N1
    go_upto_region 11 with fail
    have E1 := HE2.out.1
    have E2 := HE2.out.2
    refine wp_region_held_drew (S := KB w [(p42, zrow), (p11, qcells 1), (p9, qcells 0), (p7, qcells c), (p5, qcells b), (p3, qcells a)]) (by kernel_rfl) HR10.out.drew (fun hS => ?_)
    clear HR10
    refine wpAnyH_take (i := 0) (oi := { dst := some 126, op := Op.move (Operand.tmp 7), type := 4, pos := "law.go:80", after := #[], guard := none }) (v := ?vfxd0) rfl (by kernel_rfl) (by kernel_rfl) (by kernel_rfl) (fun _ _ _ h => h) (Or.inl ⟨by rfl, ?yfxd0⟩) hS ?rfxd0
    case yfxd0 => (intro w hS; go_simp; try with_reducible rfl)
    go_simp
    refine wpAnyH_take (i := 1) (oi := { dst := some 127, op := Op.move (Operand.tmp 126), type := 4, pos := "law.go:80", after := #[{ on := 0, ground := Ground.data }], guard := none }) (v := ?vfxd1) rfl (by kernel_rfl) (by kernel_rfl) (by kernel_rfl) (fun _ _ _ h => h) (Or.inl ⟨by rfl, ?yfxd1⟩) hS ?rfxd1
    case yfxd1 => (intro w hS; go_simp; try with_reducible rfl)
    go_simp
    refine wpAnyH_take (i := 2) (oi := { dst := some 128, op := Op.move (Operand.tmp 13), type := 4, pos := "law.go:80", after := #[{ on := 1, ground := Ground.guard }], guard := some (1, true) }) (v := ?vfxd2) rfl (by kernel_rfl) (by kernel_rfl) (by kernel_rfl) (fun _ _ _ h => h) (Or.inl ⟨by rfl, ?yfxd2⟩) hS ?rfxd2
    case yfxd2 => (intro w hS; go_simp; try with_reducible rfl)
    go_simp
    refine wpAnyH_take (i := 3) (oi := { dst := some 129, op := Op.pick (Operand.tmp 127) (Operand.tmp 128) (Operand.const (Value.bool false)), type := 4, pos := "law.go:80", after := #[{ on := 1, ground := Ground.data }, { on := 2, ground := Ground.data }], guard := none }) (v := ?vfxd3) rfl (by kernel_rfl) (by kernel_rfl) (by kernel_rfl) (fun _ _ _ h => h) (Or.inl ⟨by rfl, ?yfxd3⟩) hS ?rfxd3
    case yfxd3 => (intro w hS; go_simp; try with_reducible rfl)
    go_simp
    refine wpAnyH_take (i := 4) (oi := { dst := some 130, op := Op.move (Operand.tmp 129), type := 4, pos := "law.go:80", after := #[{ on := 3, ground := Ground.data }, { on := 1, ground := Ground.chain }], guard := none }) (v := ?vfxd4) rfl (by kernel_rfl) (by kernel_rfl) (by kernel_rfl) (fun _ _ _ h => h) (Or.inl ⟨by rfl, ?yfxd4⟩) hS ?rfxd4
    case yfxd4 => (intro w hS; go_simp; try with_reducible rfl)
    go_simp
    refine wpAnyH_take (i := 5) (oi := { dst := some 131, op := Op.move (Operand.tmp 14), type := 4, pos := "law.go:80", after := #[{ on := 4, ground := Ground.guard }], guard := some (4, true) }) (v := ?vfxd5) rfl (by kernel_rfl) (by kernel_rfl) (by kernel_rfl) (fun _ _ _ h => h) (Or.inl ⟨by rfl, ?yfxd5⟩) hS ?rfxd5
    case yfxd5 => (intro w hS; go_simp; try with_reducible rfl)
    go_simp
    refine wpAnyH_take (i := 6) (oi := { dst := some 132, op := Op.pick (Operand.tmp 130) (Operand.tmp 131) (Operand.const (Value.bool false)), type := 4, pos := "law.go:80", after := #[{ on := 4, ground := Ground.data }, { on := 5, ground := Ground.data }], guard := none }) (v := ?vfxd6) rfl (by kernel_rfl) (by kernel_rfl) (by kernel_rfl) (fun _ _ _ h => h) (Or.inl ⟨by rfl, ?yfxd6⟩) hS ?rfxd6
    case yfxd6 => (intro w hS; go_simp; try with_reducible rfl)
    go_simp
    refine wpAnyH_take (i := 7) (oi := { dst := some 133, op := Op.move (Operand.tmp 132), type := 4, pos := "law.go:80", after := #[{ on := 6, ground := Ground.data }, { on := 4, ground := Ground.chain }], guard := none }) (v := ?vfxd7) rfl (by kernel_rfl) (by kernel_rfl) (by kernel_rfl) (fun _ _ _ h => h) (Or.inl ⟨by rfl, ?yfxd7⟩) hS ?rfxd7
    case yfxd7 => (intro w hS; go_simp; try with_reducible rfl)
    go_simp
    refine wpAnyH_take (i := 8) (oi := { dst := some 134, op := Op.move (Operand.tmp 17), type := 4, pos := "law.go:80", after := #[{ on := 7, ground := Ground.guard }], guard := some (7, true) }) (v := ?vfxd8) rfl (by kernel_rfl) (by kernel_rfl) (by kernel_rfl) (fun _ _ _ h => h) (Or.inl ⟨by rfl, ?yfxd8⟩) hS ?rfxd8
    case yfxd8 => (intro w hS; go_simp; try with_reducible rfl)
    go_simp
    refine wpAnyH_take (i := 9) (oi := { dst := some 135, op := Op.pick (Operand.tmp 133) (Operand.tmp 134) (Operand.const (Value.bool false)), type := 4, pos := "law.go:80", after := #[{ on := 7, ground := Ground.data }, { on := 8, ground := Ground.data }], guard := none }) (v := ?vfxd9) rfl (by kernel_rfl) (by kernel_rfl) (by kernel_rfl) (fun _ _ _ h => h) (Or.inl ⟨by rfl, ?yfxd9⟩) hS ?rfxd9
    case yfxd9 => (intro w hS; go_simp; try with_reducible rfl)
    go_simp
    refine wpAnyH_take (i := 10) (oi := { dst := some 136, op := Op.move (Operand.tmp 135), type := 4, pos := "law.go:80", after := #[{ on := 9, ground := Ground.data }, { on := 7, ground := Ground.chain }], guard := none }) (v := ?vfxd10) rfl (by kernel_rfl) (by kernel_rfl) (by kernel_rfl) (fun _ _ _ h => h) (Or.inl ⟨by rfl, ?yfxd10⟩) hS ?rfxd10
    case yfxd10 => (intro w hS; go_simp; try with_reducible rfl)
    go_simp
    refine wpAnyH_take (i := 11) (oi := { dst := some 137, op := Op.load 26 (Operand.tmp 8), type := 26, pos := "law.go:80", after := #[{ on := 10, ground := Ground.guard }], guard := some (10, true) }) (v := .agg (#[.bool (decide (a.num < 0)), .string (NB a.num.natAbs), .string (NB a.den)])) rfl (by kernel_rfl) (by kernel_rfl) (by kernel_rfl) (fun _ _ _ h => h) (Or.inl ⟨by rfl, ?yfxd11⟩) hS ?rfxd11
    case yfxd11 => exact fun w' hS => exec_load_row w' 26 (.tmp 8) rfl p3 (by first | rfl | (simp [Act.eval])) 26 (#[.bool (decide (a.num < 0)), .string (NB a.num.natAbs), .string (NB a.den)]) (0, 0) _ (hS.row (cs := qcells a) (by simp)) Tryz.underlying26 rfl info26.out
    refine wpAnyH_take (i := 12) (oi := { dst := some 138, op := Op.load 26 (Operand.tmp 9), type := 26, pos := "law.go:80", after := #[{ on := 10, ground := Ground.guard }], guard := some (10, true) }) (v := .agg (#[.bool (decide (b.num < 0)), .string (NB b.num.natAbs), .string (NB b.den)])) rfl (by kernel_rfl) (by kernel_rfl) (by kernel_rfl) (fun _ _ _ h => h) (Or.inl ⟨by rfl, ?yfxd12⟩) hS ?rfxd12
    case yfxd12 => exact fun w' hS => exec_load_row w' 26 (.tmp 9) rfl p5 (by first | rfl | (simp [Act.eval])) 26 (#[.bool (decide (b.num < 0)), .string (NB b.num.natAbs), .string (NB b.den)]) (0, 0) _ (hS.row (cs := qcells b) (by simp)) Tryz.underlying26 rfl info26.out
    refine wpAnyH_take (i := 14) (oi := { dst := some 140, op := Op.load 26 (Operand.tmp 8), type := 26, pos := "law.go:80", after := #[{ on := 10, ground := Ground.guard }], guard := some (10, true) }) (v := .agg (#[.bool (decide (a.num < 0)), .string (NB a.num.natAbs), .string (NB a.den)])) rfl (by kernel_rfl) (by kernel_rfl) (by kernel_rfl) (fun _ _ _ h => h) (Or.inl ⟨by rfl, ?yfxd14⟩) hS ?rfxd14
    case yfxd14 => exact fun w' hS => exec_load_row w' 26 (.tmp 8) rfl p3 (by first | rfl | (simp [Act.eval])) 26 (#[.bool (decide (a.num < 0)), .string (NB a.num.natAbs), .string (NB a.den)]) (0, 0) _ (hS.row (cs := qcells a) (by simp)) Tryz.underlying26 rfl info26.out
    refine wpAnyH_take (i := 15) (oi := { dst := some 141, op := Op.load 26 (Operand.tmp 9), type := 26, pos := "law.go:80", after := #[{ on := 10, ground := Ground.guard }], guard := some (10, true) }) (v := .agg (#[.bool (decide (b.num < 0)), .string (NB b.num.natAbs), .string (NB b.den)])) rfl (by kernel_rfl) (by kernel_rfl) (by kernel_rfl) (fun _ _ _ h => h) (Or.inl ⟨by rfl, ?yfxd15⟩) hS ?rfxd15
    case yfxd15 => exact fun w' hS => exec_load_row w' 26 (.tmp 9) rfl p5 (by first | rfl | (simp [Act.eval])) 26 (#[.bool (decide (b.num < 0)), .string (NB b.num.natAbs), .string (NB b.den)]) (0, 0) _ (hS.row (cs := qcells b) (by simp)) Tryz.underlying26 rfl info26.out
    go_simp
    refine wpAnyH_ready (rs := [13]) (by kernel_rfl) (by simp) ?_
    refine AllReadyH.cons (o := { dst := some 139, op := Op.call { callee := Callee.value (Operand.func 16), args := #[Operand.tmp 137, Operand.tmp 138], argTypes := #[26, 26] }, type := 26, pos := "law.go:80", after := #[{ on := 11, ground := Ground.data }, { on := 12, ground := Ground.data }, { on := 10, ground := Ground.chain }, { on := 10, ground := Ground.guard }], guard := some (10, true) }) rfl (fun K hK => ?_) AllReadyH.nil
    go_simp
    go_at_call 16
    refine (H11.out.1 _ hS.t).mono ?_
    rintro e w' ⟨rfl, b⟩
    have hS2 := hS.next b
    clear b hS
    try go_simp
    refine hK.out _ _ hS2 (fun hS => ?_)
    clear hK K hS2
    refine wpAnyH_ready (rs := [16]) (by kernel_rfl) (by simp) ?_
    refine AllReadyH.cons (o := { dst := some 142, op := Op.call { callee := Callee.value (Operand.func 24), args := #[Operand.tmp 141], argTypes := #[26] }, type := 26, pos := "law.go:80", after := #[{ on := 15, ground := Ground.data }, { on := 13, ground := Ground.chain }, { on := 10, ground := Ground.guard }], guard := some (10, true) }) rfl (fun K hK => ?_) AllReadyH.nil
    go_simp
    go_at_call 24
    refine (H11.out.2.1 _ hS.t).mono ?_
    rintro e w' ⟨rfl, b⟩
    have hS2 := hS.next b
    clear b hS
    try go_simp
    refine hK.out _ _ hS2 (fun hS => ?_)
    clear hK K hS2
    refine wpAnyH_ready (rs := [17]) (by kernel_rfl) (by simp) ?_
    refine AllReadyH.cons (o := { dst := some 143, op := Op.call { callee := Callee.value (Operand.func 14), args := #[Operand.tmp 140, Operand.tmp 142], argTypes := #[26, 26] }, type := 26, pos := "law.go:80", after := #[{ on := 14, ground := Ground.data }, { on := 16, ground := Ground.data }, { on := 16, ground := Ground.chain }, { on := 10, ground := Ground.guard }], guard := some (10, true) }) rfl (fun K hK => ?_) AllReadyH.nil
    go_simp
    go_at_call 14
    refine (H11.out.2.2.1 _ hS.t).mono ?_
    rintro e w' ⟨rfl, b⟩
    have hS2 := hS.next b
    clear b hS
    try go_simp
    refine hK.out _ _ hS2 (fun hS => ?_)
    clear hK K hS2
    refine wpAnyH_take (i := 18) (oi := { dst := some 144, op := Op.binOp BinOp.eql 26 (Operand.tmp 139) (Operand.tmp 143) 26, type := 4, pos := "law.go:80", after := #[{ on := 13, ground := Ground.data }, { on := 17, ground := Ground.data }, { on := 10, ground := Ground.guard }], guard := some (10, true) }) (v := ?vfxd18) rfl (by kernel_rfl) (by kernel_rfl) (by kernel_rfl) (fun _ _ _ h => h) (Or.inl ⟨by rfl, ?yfxd18⟩) hS ?rfxd18
    case yfxd18 => (intro w hS; go_simp; try with_reducible rfl)
    go_simp
    refine wpAnyH_take (i := 19) (oi := { dst := some 145, op := Op.pick (Operand.tmp 136) (Operand.tmp 144) (Operand.const (Value.bool false)), type := 4, pos := "law.go:80", after := #[{ on := 10, ground := Ground.data }, { on := 18, ground := Ground.data }], guard := none }) (v := ?vfxd19) rfl (by kernel_rfl) (by kernel_rfl) (by kernel_rfl) (fun _ _ _ h => h) (Or.inl ⟨by rfl, ?yfxd19⟩) hS ?rfxd19
    case yfxd19 => (intro w hS; go_simp; try with_reducible rfl)
    go_simp
    refine wpAnyH_take (i := 20) (oi := { dst := some 146, op := Op.move (Operand.tmp 145), type := 4, pos := "law.go:80", after := #[{ on := 19, ground := Ground.data }, { on := 17, ground := Ground.chain }], guard := none }) (v := ?vfxd20) rfl (by kernel_rfl) (by kernel_rfl) (by kernel_rfl) (fun _ _ _ h => h) (Or.inl ⟨by rfl, ?yfxd20⟩) hS ?rfxd20
    case yfxd20 => (intro w hS; go_simp; try with_reducible rfl)
    go_simp
    refine wpAnyH_take (i := 21) (oi := { dst := some 147, op := Op.load 26 (Operand.tmp 8), type := 26, pos := "law.go:80", after := #[{ on := 20, ground := Ground.guard }], guard := some (20, true) }) (v := .agg (#[.bool (decide (a.num < 0)), .string (NB a.num.natAbs), .string (NB a.den)])) rfl (by kernel_rfl) (by kernel_rfl) (by kernel_rfl) (fun _ _ _ h => h) (Or.inl ⟨by rfl, ?yfxd21⟩) hS ?rfxd21
    case yfxd21 => exact fun w' hS => exec_load_row w' 26 (.tmp 8) rfl p3 (by first | rfl | (simp [Act.eval])) 26 (#[.bool (decide (a.num < 0)), .string (NB a.num.natAbs), .string (NB a.den)]) (0, 0) _ (hS.row (cs := qcells a) (by simp)) Tryz.underlying26 rfl info26.out
    refine wpAnyH_take (i := 22) (oi := { dst := some 148, op := Op.load 26 (Operand.tmp 9), type := 26, pos := "law.go:80", after := #[{ on := 20, ground := Ground.guard }], guard := some (20, true) }) (v := .agg (#[.bool (decide (b.num < 0)), .string (NB b.num.natAbs), .string (NB b.den)])) rfl (by kernel_rfl) (by kernel_rfl) (by kernel_rfl) (fun _ _ _ h => h) (Or.inl ⟨by rfl, ?yfxd22⟩) hS ?rfxd22
    case yfxd22 => exact fun w' hS => exec_load_row w' 26 (.tmp 9) rfl p5 (by first | rfl | (simp [Act.eval])) 26 (#[.bool (decide (b.num < 0)), .string (NB b.num.natAbs), .string (NB b.den)]) (0, 0) _ (hS.row (cs := qcells b) (by simp)) Tryz.underlying26 rfl info26.out
    refine wpAnyH_take (i := 23) (oi := { dst := some 149, op := Op.load 26 (Operand.tmp 10), type := 26, pos := "law.go:80", after := #[{ on := 20, ground := Ground.guard }], guard := some (20, true) }) (v := .agg (#[.bool (decide (c.num < 0)), .string (NB c.num.natAbs), .string (NB c.den)])) rfl (by kernel_rfl) (by kernel_rfl) (by kernel_rfl) (fun _ _ _ h => h) (Or.inl ⟨by rfl, ?yfxd23⟩) hS ?rfxd23
    case yfxd23 => exact fun w' hS => exec_load_row w' 26 (.tmp 10) rfl p7 (by first | rfl | (simp [Act.eval])) 26 (#[.bool (decide (c.num < 0)), .string (NB c.num.natAbs), .string (NB c.den)]) (0, 0) _ (hS.row (cs := qcells c) (by simp)) Tryz.underlying26 rfl info26.out
    refine wpAnyH_take (i := 26) (oi := { dst := some 152, op := Op.load 26 (Operand.tmp 8), type := 26, pos := "law.go:80", after := #[{ on := 20, ground := Ground.guard }], guard := some (20, true) }) (v := .agg (#[.bool (decide (a.num < 0)), .string (NB a.num.natAbs), .string (NB a.den)])) rfl (by kernel_rfl) (by kernel_rfl) (by kernel_rfl) (fun _ _ _ h => h) (Or.inl ⟨by rfl, ?yfxd26⟩) hS ?rfxd26
    case yfxd26 => exact fun w' hS => exec_load_row w' 26 (.tmp 8) rfl p3 (by first | rfl | (simp [Act.eval])) 26 (#[.bool (decide (a.num < 0)), .string (NB a.num.natAbs), .string (NB a.den)]) (0, 0) _ (hS.row (cs := qcells a) (by simp)) Tryz.underlying26 rfl info26.out
    refine wpAnyH_take (i := 27) (oi := { dst := some 153, op := Op.load 26 (Operand.tmp 9), type := 26, pos := "law.go:80", after := #[{ on := 20, ground := Ground.guard }], guard := some (20, true) }) (v := .agg (#[.bool (decide (b.num < 0)), .string (NB b.num.natAbs), .string (NB b.den)])) rfl (by kernel_rfl) (by kernel_rfl) (by kernel_rfl) (fun _ _ _ h => h) (Or.inl ⟨by rfl, ?yfxd27⟩) hS ?rfxd27
    case yfxd27 => exact fun w' hS => exec_load_row w' 26 (.tmp 9) rfl p5 (by first | rfl | (simp [Act.eval])) 26 (#[.bool (decide (b.num < 0)), .string (NB b.num.natAbs), .string (NB b.den)]) (0, 0) _ (hS.row (cs := qcells b) (by simp)) Tryz.underlying26 rfl info26.out
    refine wpAnyH_take (i := 29) (oi := { dst := some 155, op := Op.load 26 (Operand.tmp 10), type := 26, pos := "law.go:80", after := #[{ on := 20, ground := Ground.guard }], guard := some (20, true) }) (v := .agg (#[.bool (decide (c.num < 0)), .string (NB c.num.natAbs), .string (NB c.den)])) rfl (by kernel_rfl) (by kernel_rfl) (by kernel_rfl) (fun _ _ _ h => h) (Or.inl ⟨by rfl, ?yfxd29⟩) hS ?rfxd29
    case yfxd29 => exact fun w' hS => exec_load_row w' 26 (.tmp 10) rfl p7 (by first | rfl | (simp [Act.eval])) 26 (#[.bool (decide (c.num < 0)), .string (NB c.num.natAbs), .string (NB c.den)]) (0, 0) _ (hS.row (cs := qcells c) (by simp)) Tryz.underlying26 rfl info26.out
    go_simp
    refine wpAnyH_ready (rs := [24]) (by kernel_rfl) (by simp) ?_
    refine AllReadyH.cons (o := { dst := some 150, op := Op.buildSlice 38 3 #[(0, Operand.tmp 147), (1, Operand.tmp 148), (2, Operand.tmp 149)], type := 38, pos := "law.go:80", after := #[{ on := 21, ground := Ground.data }, { on := 22, ground := Ground.data }, { on := 23, ground := Ground.data }, { on := 20, ground := Ground.guard }], guard := some (20, true) }) rfl (fun K hK => ?_) AllReadyH.nil
    go_simp
    have hRL := rl3 w' 26 (t3 a) (t3 b) (t3 c)
    have hRl : w'.heap.size < (w'.alloc (.cells #[.bool (t3 a).1, .string (t3 a).2.1, .string (t3 a).2.2, .bool (t3 b).1, .string (t3 b).2.1, .string (t3 b).2.2, .bool (t3 c).1, .string (t3 c).2.1, .string (t3 c).2.2] 26)).heap.size := by simp
    have hS2 := hS.next ((Below.refl w'.heap.size w').alloc (Nat.le_refl _) (.cells #[.bool (t3 a).1, .string (t3 a).2.1, .string (t3 a).2.2, .bool (t3 b).1, .string (t3 b).2.1, .string (t3 b).2.2, .bool (t3 c).1, .string (t3 c).2.1, .string (t3 c).2.2] 26))
    clear hS
    refine hK.out _ _ hS2 (fun hS => ?_)
    clear hK K hS2
    obtain ⟨pz, hpz⟩ : ∃ pz, w'.heap.size = pz := ⟨_, rfl⟩
    rw [hpz] at hRL hRl ⊢
    clear hpz
    refine wpAnyH_ready (rs := [25]) (by kernel_rfl) (by simp) ?_
    refine AllReadyH.cons (o := { dst := some 151, op := Op.call { callee := Callee.value (Operand.func 30), args := #[Operand.tmp 150], argTypes := #[38] }, type := 26, pos := "law.go:80", after := #[{ on := 24, ground := Ground.data }, { on := 20, ground := Ground.chain }, { on := 20, ground := Ground.guard }], guard := some (20, true) }) rfl (fun K hK => ?_) AllReadyH.nil
    go_simp
    go_at_call 30
    refine (aSum3 _ pz a b c hRL hRl HSM.out.1 HSM.out.2.1 HSM.out.2.2 hS.t).mono ?_
    rintro e w' ⟨rfl, b⟩
    have hS2 := hS.next b
    clear b hS
    try go_simp
    refine hK.out _ _ hS2 (fun hS => ?_)
    clear hK K hS2
    refine wpAnyH_ready (rs := [28]) (by kernel_rfl) (by simp) ?_
    refine AllReadyH.cons (o := { dst := some 154, op := Op.call { callee := Callee.value (Operand.func 14), args := #[Operand.tmp 152, Operand.tmp 153], argTypes := #[26, 26] }, type := 26, pos := "law.go:80", after := #[{ on := 26, ground := Ground.data }, { on := 27, ground := Ground.data }, { on := 25, ground := Ground.chain }, { on := 20, ground := Ground.guard }], guard := some (20, true) }) rfl (fun K hK => ?_) AllReadyH.nil
    go_simp
    go_at_call 14
    refine (H11.out.2.2.2.1 _ hS.t).mono ?_
    rintro e w' ⟨rfl, b⟩
    have hS2 := hS.next b
    clear b hS
    try go_simp
    refine hK.out _ _ hS2 (fun hS => ?_)
    clear hK K hS2
    refine wpAnyH_ready (rs := [30]) (by kernel_rfl) (by simp) ?_
    refine AllReadyH.cons (o := { dst := some 156, op := Op.call { callee := Callee.value (Operand.func 14), args := #[Operand.tmp 154, Operand.tmp 155], argTypes := #[26, 26] }, type := 26, pos := "law.go:80", after := #[{ on := 28, ground := Ground.data }, { on := 29, ground := Ground.data }, { on := 28, ground := Ground.chain }, { on := 20, ground := Ground.guard }], guard := some (20, true) }) rfl (fun K hK => ?_) AllReadyH.nil
    go_simp
    go_at_call 14
    refine (H11.out.2.2.2.2 _ hS.t).mono ?_
    rintro e w' ⟨rfl, b⟩
    have hS2 := hS.next b
    clear b hS
    try go_simp
    refine hK.out _ _ hS2 (fun hS => ?_)
    clear hK K hS2
    refine wpAnyH_take (i := 31) (oi := { dst := some 157, op := Op.binOp BinOp.eql 26 (Operand.tmp 151) (Operand.tmp 156) 26, type := 4, pos := "law.go:80", after := #[{ on := 25, ground := Ground.data }, { on := 30, ground := Ground.data }, { on := 20, ground := Ground.guard }], guard := some (20, true) }) (v := ?vfxd31) rfl (by kernel_rfl) (by kernel_rfl) (by kernel_rfl) (fun _ _ _ h => h) (Or.inl ⟨by rfl, ?yfxd31⟩) hS ?rfxd31
    case yfxd31 => (intro w hS; go_simp; try with_reducible rfl)
    go_simp
    refine wpAnyH_take (i := 32) (oi := { dst := some 158, op := Op.pick (Operand.tmp 146) (Operand.tmp 157) (Operand.const (Value.bool false)), type := 4, pos := "law.go:80", after := #[{ on := 20, ground := Ground.data }, { on := 31, ground := Ground.data }], guard := none }) (v := ?vfxd32) rfl (by kernel_rfl) (by kernel_rfl) (by kernel_rfl) (fun _ _ _ h => h) (Or.inl ⟨by rfl, ?yfxd32⟩) hS ?rfxd32
    case yfxd32 => (intro w hS; go_simp; try with_reducible rfl)
    go_simp
    refine wpAnyH_take (i := 33) (oi := { dst := some 6, op := Op.assign (Operand.tmp 158), type := 4, pos := "law.go:80", after := #[{ on := 32, ground := Ground.data }, { on := 30, ground := Ground.chain }, { on := 0, ground := Ground.phase }, { on := 1, ground := Ground.phase }, { on := 2, ground := Ground.phase }, { on := 3, ground := Ground.phase }, { on := 4, ground := Ground.phase }, { on := 5, ground := Ground.phase }, { on := 6, ground := Ground.phase }, { on := 7, ground := Ground.phase }, { on := 8, ground := Ground.phase }, { on := 9, ground := Ground.phase }, { on := 10, ground := Ground.phase }, { on := 11, ground := Ground.phase }, { on := 12, ground := Ground.phase }, { on := 13, ground := Ground.phase }, { on := 14, ground := Ground.phase }, { on := 15, ground := Ground.phase }, { on := 16, ground := Ground.phase }, { on := 17, ground := Ground.phase }, { on := 18, ground := Ground.phase }, { on := 19, ground := Ground.phase }, { on := 20, ground := Ground.phase }, { on := 21, ground := Ground.phase }, { on := 22, ground := Ground.phase }, { on := 23, ground := Ground.phase }, { on := 24, ground := Ground.phase }, { on := 25, ground := Ground.phase }, { on := 26, ground := Ground.phase }, { on := 27, ground := Ground.phase }, { on := 28, ground := Ground.phase }, { on := 29, ground := Ground.phase }, { on := 30, ground := Ground.phase }, { on := 31, ground := Ground.phase }, { on := 32, ground := Ground.phase }], guard := none }) (v := ?vfxd33) rfl (by kernel_rfl) (by kernel_rfl) (by kernel_rfl) (fun _ _ _ h => h) (Or.inl ⟨by rfl, ?yfxd33⟩) hS ?rfxd33
    case yfxd33 => (intro w hS; go_simp; try with_reducible rfl)
    refine wpAnyH_done (by kernel_rfl) ?_ _
    have HR11 := Lib.hid hS
    clear hS E1 E2
    go_wp2
    go_ret
    exact ⟨rfl, HR11.out.b⟩
  · have HQ := Lib.hid fun W (h : Tp W) => aQuo1 W a b 100 HSM.out.1 HSM.out.2.1 (by decide) (by decide) h hb
    have HN := Lib.hid fun W => aNe W b 0 true (by rw [decide_eq_false hb]; rfl)
    have HM := Lib.hid (And.intro (fun W (h : Tp W) => aMul W (a / b) b 100 ((SmQ_div HAB.out.1 HAB.out.2 hb).mono (by decide)) HSM.out.2.1 (by decide) (by decide) h) (fun W => aEq W (a / b * b) a (Rat.div_mul_cancel hb)))
    clear hb
    have rA := HR8.out.row (p := p3) (cs := qcells a) (by simp)
    have rB := HR8.out.row (p := p5) (cs := qcells b) (by simp)
    have c0 : w'.cell? ⟨p3, 0, none⟩ = some (.bool (decide (a.num < 0))) := cell_of_row _ _ 0 _ _ _ rA
    have c1 : w'.cell? ⟨p3, 1, none⟩ = some (.string (NB a.num.natAbs)) := cell_of_row _ _ 1 _ _ _ rA
    have c2 : w'.cell? ⟨p3, 2, none⟩ = some (.string (NB a.den)) := cell_of_row _ _ 2 _ _ _ rA
    have c3 : w'.cell? ⟨p5, 0, none⟩ = some (.bool (decide (b.num < 0))) := cell_of_row _ _ 0 _ _ _ rB
    have c4 : w'.cell? ⟨p5, 1, none⟩ = some (.string (NB b.num.natAbs)) := cell_of_row _ _ 1 _ _ _ rB
    have c5 : w'.cell? ⟨p5, 2, none⟩ = some (.string (NB b.den)) := cell_of_row _ _ 2 _ _ _ rB
    clear rA rB
    go_wp2_with fail
    refine (HQ.out _ HR8.out.t).mono ?_
    rintro e u41 ⟨rfl, b⟩
    have HS41 := Lib.hid (HR8.out.next b)
    clear c0 c1 c2 c3 c4 c5
    clear b
    go_upto_region 10 with (refine wpList_store_row rfl 26 (.tmp 15) (.tmp 108) rfl u41.heap.size (qcells (a / b)) rfl rfl 26 zrow (heap_alloc_new _ _) info26.out rfl (qone _) ?_)
    change Code.wp _ _ _ _ ((u41.alloc (.cells zrow 26)).setRow u41.heap.size (qcells (a / b)))
    rw [World.setRow_alloc_new u41 zrow (qcells (a / b)) 26]
    have hx := HS41.out.push (qcells (a / b))
    have hbx := Lib.hid ((Below.refl u41.heap.size u41).alloc (Nat.le_refl _) (.cells (qcells (a / b)) 26))
    generalize u41.alloc (.cells (qcells (a / b)) 26) = u42 at *
    obtain ⟨p42, hp⟩ : ∃ p, u41.heap.size = p := ⟨_, rfl⟩
    rw [hp] at hx ⊢
    clear hp hbx
    have HS42 := Lib.hid hx
    clear hx
    go_upto_region 10 with fail
    have N1 := HN.out
    have E1 := HM.out.2
    refine wp_region_held_drew (S := KB w [(p42, qcells (a / b)), (p11, qcells 1), (p9, qcells 0), (p7, qcells c), (p5, qcells b), (p3, qcells a)]) (by kernel_rfl) HS42.out.drew (fun hS => ?_)
    clear HS42
    refine wpAnyH_take (i := 0) (oi := { dst := some 110, op := Op.move (Operand.tmp 16), type := 4, pos := "law.go:79", after := #[], guard := none }) (v := ?vfyc0) rfl (by kernel_rfl) (by kernel_rfl) (by kernel_rfl) (fun _ _ _ h => h) (Or.inl ⟨by rfl, ?yfyc0⟩) hS ?rfyc0
    case yfyc0 => (intro w hS; go_simp; try with_reducible rfl)
    refine wpAnyH_take (i := 1) (oi := { dst := some 111, op := Op.load 26 (Operand.tmp 9), type := 26, pos := "law.go:79", after := #[], guard := none }) (v := .agg (qcells b)) rfl (by kernel_rfl) (by kernel_rfl) (by kernel_rfl) (fun _ _ _ h => h) (Or.inl ⟨by rfl, ?yfyc1⟩) hS ?rfyc1
    case yfyc1 => exact fun w' hS => exec_load_row w' 26 (.tmp 9) rfl p5 (by first | rfl | (simp [Act.eval])) 26 (qcells b) (0, 0) _ (hS.row (by simp)) Tryz.underlying26 rfl info26.out
    refine wpAnyH_take (i := 2) (oi := { dst := some 112, op := Op.load 26 (Operand.tmp 11), type := 26, pos := "law.go:79", after := #[], guard := none }) (v := .agg (qcells 0)) rfl (by kernel_rfl) (by kernel_rfl) (by kernel_rfl) (fun _ _ _ h => h) (Or.inl ⟨by rfl, ?yfyc2⟩) hS ?rfyc2
    case yfyc2 => exact fun w' hS => exec_load_row w' 26 (.tmp 11) rfl p9 (by first | rfl | (simp [Act.eval])) 26 (qcells 0) (0, 0) _ (hS.row (by simp)) Tryz.underlying26 rfl info26.out
    go_simp
    refine wpAnyH_take (i := 3) (oi := { dst := some 113, op := Op.binOp BinOp.neq 26 (Operand.tmp 111) (Operand.tmp 112) 26, type := 4, pos := "law.go:79", after := #[{ on := 1, ground := Ground.data }, { on := 2, ground := Ground.data }], guard := none }) (v := ?vfyc3) rfl (by kernel_rfl) (by kernel_rfl) (by kernel_rfl) (fun _ _ _ h => h) (Or.inl ⟨by rfl, ?yfyc3⟩) hS ?rfyc3
    case yfyc3 => (intro w hS; go_simp; try with_reducible rfl)
    go_simp
    refine wpAnyH_take (i := 4) (oi := { dst := some 114, op := Op.binOp BinOp.eql 4 (Operand.tmp 110) (Operand.tmp 113) 4, type := 4, pos := "law.go:79", after := #[{ on := 0, ground := Ground.data }, { on := 3, ground := Ground.data }], guard := none }) (v := ?vfyc4) rfl (by kernel_rfl) (by kernel_rfl) (by kernel_rfl) (fun _ _ _ h => h) (Or.inl ⟨by rfl, ?yfyc4⟩) hS ?rfyc4
    case yfyc4 => (intro w hS; go_simp; try with_reducible rfl)
    go_simp
    refine wpAnyH_take (i := 5) (oi := { dst := some 115, op := Op.move (Operand.tmp 114), type := 4, pos := "law.go:79", after := #[{ on := 4, ground := Ground.data }], guard := none }) (v := ?vfyc5) rfl (by kernel_rfl) (by kernel_rfl) (by kernel_rfl) (fun _ _ _ h => h) (Or.inl ⟨by rfl, ?yfyc5⟩) hS ?rfyc5
    case yfyc5 => (intro w hS; go_simp; try with_reducible rfl)
    go_simp
    refine wpAnyH_take (i := 6) (oi := { dst := some 116, op := Op.move (Operand.tmp 16), type := 4, pos := "law.go:79", after := #[{ on := 5, ground := Ground.guard }], guard := some (5, true) }) (v := ?vfyc6) rfl (by kernel_rfl) (by kernel_rfl) (by kernel_rfl) (fun _ _ _ h => h) (Or.inl ⟨by rfl, ?yfyc6⟩) hS ?rfyc6
    case yfyc6 => (intro w hS; go_simp; try with_reducible rfl)
    go_simp
    refine wpAnyH_take (i := 7) (oi := { dst := some 117, op := Op.unOp UnOp.not 4 (Operand.tmp 116), type := 4, pos := "law.go:79", after := #[{ on := 6, ground := Ground.data }, { on := 5, ground := Ground.guard }], guard := some (5, true) }) (v := ?vfyc7) rfl (by kernel_rfl) (by kernel_rfl) (by kernel_rfl) (fun _ _ _ h => h) (Or.inl ⟨by rfl, ?yfyc7⟩) hS ?rfyc7
    case yfyc7 => (intro w hS; go_simp; try with_reducible rfl)
    go_simp
    refine wpAnyH_take (i := 8) (oi := { dst := some 118, op := Op.move (Operand.tmp 117), type := 4, pos := "law.go:79", after := #[{ on := 7, ground := Ground.data }, { on := 5, ground := Ground.chain }, { on := 5, ground := Ground.guard }], guard := some (5, true) }) (v := ?vfyc8) rfl (by kernel_rfl) (by kernel_rfl) (by kernel_rfl) (fun _ _ _ h => h) (Or.inl ⟨by rfl, ?yfyc8⟩) hS ?rfyc8
    case yfyc8 => (intro w hS; go_simp; try with_reducible rfl)
    go_simp
    refine wpAnyH_take (i := 9) (oi := { dst := some 119, op := Op.load 26 (Operand.tmp 15), type := 26, pos := "law.go:79", after := #[{ on := 8, ground := Ground.guard }], guard := some (8, false) }) (v := .agg (qcells (a / b))) rfl (by kernel_rfl) (by kernel_rfl) (by kernel_rfl) (fun _ _ _ h => h) (Or.inl ⟨by rfl, ?yfyc9⟩) hS ?rfyc9
    case yfyc9 => exact fun w' hS => exec_load_row w' 26 (.tmp 15) rfl p42 (by first | rfl | (simp [Act.eval])) 26 (qcells (a / b)) (0, 0) _ (hS.row (by simp)) Tryz.underlying26 rfl info26.out
    refine wpAnyH_take (i := 10) (oi := { dst := some 120, op := Op.load 26 (Operand.tmp 9), type := 26, pos := "law.go:79", after := #[{ on := 8, ground := Ground.guard }], guard := some (8, false) }) (v := .agg (qcells b)) rfl (by kernel_rfl) (by kernel_rfl) (by kernel_rfl) (fun _ _ _ h => h) (Or.inl ⟨by rfl, ?yfyc10⟩) hS ?rfyc10
    case yfyc10 => exact fun w' hS => exec_load_row w' 26 (.tmp 9) rfl p5 (by first | rfl | (simp [Act.eval])) 26 (qcells b) (0, 0) _ (hS.row (by simp)) Tryz.underlying26 rfl info26.out
    refine wpAnyH_take (i := 12) (oi := { dst := some 122, op := Op.load 26 (Operand.tmp 8), type := 26, pos := "law.go:79", after := #[{ on := 8, ground := Ground.guard }], guard := some (8, false) }) (v := .agg (qcells a)) rfl (by kernel_rfl) (by kernel_rfl) (by kernel_rfl) (fun _ _ _ h => h) (Or.inl ⟨by rfl, ?yfyc12⟩) hS ?rfyc12
    case yfyc12 => exact fun w' hS => exec_load_row w' 26 (.tmp 8) rfl p3 (by first | rfl | (simp [Act.eval])) 26 (qcells a) (0, 0) _ (hS.row (by simp)) Tryz.underlying26 rfl info26.out
    go_simp
    refine wpAnyH_ready (rs := [11]) (by kernel_rfl) (by simp) ?_
    refine AllReadyH.cons (o := { dst := some 121, op := Op.call { callee := Callee.value (Operand.func 18), args := #[Operand.tmp 119, Operand.tmp 120], argTypes := #[26, 26] }, type := 26, pos := "law.go:79", after := #[{ on := 9, ground := Ground.data }, { on := 10, ground := Ground.data }, { on := 8, ground := Ground.chain }, { on := 8, ground := Ground.guard }], guard := some (8, false) }) rfl (fun K hK => ?_) AllReadyH.nil
    go_simp
    go_at_call 18
    refine (HM.out.1 _ hS.t).mono ?_
    rintro e w' ⟨rfl, b⟩
    have hS2 := hS.next b
    clear b hS
    try go_simp
    refine hK.out _ _ hS2 (fun hS => ?_)
    clear hK K hS2
    refine wpAnyH_take (i := 13) (oi := { dst := some 123, op := Op.binOp BinOp.eql 26 (Operand.tmp 121) (Operand.tmp 122) 26, type := 4, pos := "law.go:79", after := #[{ on := 11, ground := Ground.data }, { on := 12, ground := Ground.data }, { on := 8, ground := Ground.guard }], guard := some (8, false) }) (v := ?vfyc13) rfl (by kernel_rfl) (by kernel_rfl) (by kernel_rfl) (fun _ _ _ h => h) (Or.inl ⟨by rfl, ?yfyc13⟩) hS ?rfyc13
    case yfyc13 => (intro w hS; go_simp; try with_reducible rfl)
    go_simp
    refine wpAnyH_take (i := 14) (oi := { dst := some 124, op := Op.pick (Operand.tmp 118) (Operand.const (Value.bool true)) (Operand.tmp 123), type := 4, pos := "law.go:79", after := #[{ on := 8, ground := Ground.data }, { on := 13, ground := Ground.data }, { on := 5, ground := Ground.guard }], guard := some (5, true) }) (v := ?vfyc14) rfl (by kernel_rfl) (by kernel_rfl) (by kernel_rfl) (fun _ _ _ h => h) (Or.inl ⟨by rfl, ?yfyc14⟩) hS ?rfyc14
    case yfyc14 => (intro w hS; go_simp; try with_reducible rfl)
    go_simp
    refine wpAnyH_take (i := 15) (oi := { dst := some 125, op := Op.pick (Operand.tmp 115) (Operand.tmp 124) (Operand.const (Value.bool false)), type := 4, pos := "law.go:79", after := #[{ on := 5, ground := Ground.data }, { on := 14, ground := Ground.data }], guard := none }) (v := ?vfyc15) rfl (by kernel_rfl) (by kernel_rfl) (by kernel_rfl) (fun _ _ _ h => h) (Or.inl ⟨by rfl, ?yfyc15⟩) hS ?rfyc15
    case yfyc15 => (intro w hS; go_simp; try with_reducible rfl)
    go_simp
    refine wpAnyH_take (i := 16) (oi := { dst := some 17, op := Op.assign (Operand.tmp 125), type := 4, pos := "law.go:79", after := #[{ on := 15, ground := Ground.data }, { on := 11, ground := Ground.chain }, { on := 0, ground := Ground.phase }, { on := 1, ground := Ground.phase }, { on := 2, ground := Ground.phase }, { on := 3, ground := Ground.phase }, { on := 4, ground := Ground.phase }, { on := 5, ground := Ground.phase }, { on := 6, ground := Ground.phase }, { on := 7, ground := Ground.phase }, { on := 8, ground := Ground.phase }, { on := 9, ground := Ground.phase }, { on := 10, ground := Ground.phase }, { on := 11, ground := Ground.phase }, { on := 12, ground := Ground.phase }, { on := 13, ground := Ground.phase }, { on := 14, ground := Ground.phase }, { on := 15, ground := Ground.phase }], guard := none }) (v := ?vfyc16) rfl (by kernel_rfl) (by kernel_rfl) (by kernel_rfl) (fun _ _ _ h => h) (Or.inl ⟨by rfl, ?yfyc16⟩) hS ?rfyc16
    case yfyc16 => (intro w hS; go_simp; try with_reducible rfl)
    refine wpAnyH_done (by kernel_rfl) ?_ _
    have HR10 := Lib.hid hS
    clear hS N1 E1
    go_upto_region 11 with fail
    have E1 := HE2.out.1
    have E2 := HE2.out.2
    refine wp_region_held_drew (S := KB w [(p42, qcells (a / b)), (p11, qcells 1), (p9, qcells 0), (p7, qcells c), (p5, qcells b), (p3, qcells a)]) (by kernel_rfl) HR10.out.drew (fun hS => ?_)
    clear HR10
    refine wpAnyH_take (i := 0) (oi := { dst := some 126, op := Op.move (Operand.tmp 7), type := 4, pos := "law.go:80", after := #[], guard := none }) (v := ?vfyd0) rfl (by kernel_rfl) (by kernel_rfl) (by kernel_rfl) (fun _ _ _ h => h) (Or.inl ⟨by rfl, ?yfyd0⟩) hS ?rfyd0
    case yfyd0 => (intro w hS; go_simp; try with_reducible rfl)
    go_simp
    refine wpAnyH_take (i := 1) (oi := { dst := some 127, op := Op.move (Operand.tmp 126), type := 4, pos := "law.go:80", after := #[{ on := 0, ground := Ground.data }], guard := none }) (v := ?vfyd1) rfl (by kernel_rfl) (by kernel_rfl) (by kernel_rfl) (fun _ _ _ h => h) (Or.inl ⟨by rfl, ?yfyd1⟩) hS ?rfyd1
    case yfyd1 => (intro w hS; go_simp; try with_reducible rfl)
    go_simp
    refine wpAnyH_take (i := 2) (oi := { dst := some 128, op := Op.move (Operand.tmp 13), type := 4, pos := "law.go:80", after := #[{ on := 1, ground := Ground.guard }], guard := some (1, true) }) (v := ?vfyd2) rfl (by kernel_rfl) (by kernel_rfl) (by kernel_rfl) (fun _ _ _ h => h) (Or.inl ⟨by rfl, ?yfyd2⟩) hS ?rfyd2
    case yfyd2 => (intro w hS; go_simp; try with_reducible rfl)
    go_simp
    refine wpAnyH_take (i := 3) (oi := { dst := some 129, op := Op.pick (Operand.tmp 127) (Operand.tmp 128) (Operand.const (Value.bool false)), type := 4, pos := "law.go:80", after := #[{ on := 1, ground := Ground.data }, { on := 2, ground := Ground.data }], guard := none }) (v := ?vfyd3) rfl (by kernel_rfl) (by kernel_rfl) (by kernel_rfl) (fun _ _ _ h => h) (Or.inl ⟨by rfl, ?yfyd3⟩) hS ?rfyd3
    case yfyd3 => (intro w hS; go_simp; try with_reducible rfl)
    go_simp
    refine wpAnyH_take (i := 4) (oi := { dst := some 130, op := Op.move (Operand.tmp 129), type := 4, pos := "law.go:80", after := #[{ on := 3, ground := Ground.data }, { on := 1, ground := Ground.chain }], guard := none }) (v := ?vfyd4) rfl (by kernel_rfl) (by kernel_rfl) (by kernel_rfl) (fun _ _ _ h => h) (Or.inl ⟨by rfl, ?yfyd4⟩) hS ?rfyd4
    case yfyd4 => (intro w hS; go_simp; try with_reducible rfl)
    go_simp
    refine wpAnyH_take (i := 5) (oi := { dst := some 131, op := Op.move (Operand.tmp 14), type := 4, pos := "law.go:80", after := #[{ on := 4, ground := Ground.guard }], guard := some (4, true) }) (v := ?vfyd5) rfl (by kernel_rfl) (by kernel_rfl) (by kernel_rfl) (fun _ _ _ h => h) (Or.inl ⟨by rfl, ?yfyd5⟩) hS ?rfyd5
    case yfyd5 => (intro w hS; go_simp; try with_reducible rfl)
    go_simp
    refine wpAnyH_take (i := 6) (oi := { dst := some 132, op := Op.pick (Operand.tmp 130) (Operand.tmp 131) (Operand.const (Value.bool false)), type := 4, pos := "law.go:80", after := #[{ on := 4, ground := Ground.data }, { on := 5, ground := Ground.data }], guard := none }) (v := ?vfyd6) rfl (by kernel_rfl) (by kernel_rfl) (by kernel_rfl) (fun _ _ _ h => h) (Or.inl ⟨by rfl, ?yfyd6⟩) hS ?rfyd6
    case yfyd6 => (intro w hS; go_simp; try with_reducible rfl)
    go_simp
    refine wpAnyH_take (i := 7) (oi := { dst := some 133, op := Op.move (Operand.tmp 132), type := 4, pos := "law.go:80", after := #[{ on := 6, ground := Ground.data }, { on := 4, ground := Ground.chain }], guard := none }) (v := ?vfyd7) rfl (by kernel_rfl) (by kernel_rfl) (by kernel_rfl) (fun _ _ _ h => h) (Or.inl ⟨by rfl, ?yfyd7⟩) hS ?rfyd7
    case yfyd7 => (intro w hS; go_simp; try with_reducible rfl)
    go_simp
    refine wpAnyH_take (i := 8) (oi := { dst := some 134, op := Op.move (Operand.tmp 17), type := 4, pos := "law.go:80", after := #[{ on := 7, ground := Ground.guard }], guard := some (7, true) }) (v := ?vfyd8) rfl (by kernel_rfl) (by kernel_rfl) (by kernel_rfl) (fun _ _ _ h => h) (Or.inl ⟨by rfl, ?yfyd8⟩) hS ?rfyd8
    case yfyd8 => (intro w hS; go_simp; try with_reducible rfl)
    go_simp
    refine wpAnyH_take (i := 9) (oi := { dst := some 135, op := Op.pick (Operand.tmp 133) (Operand.tmp 134) (Operand.const (Value.bool false)), type := 4, pos := "law.go:80", after := #[{ on := 7, ground := Ground.data }, { on := 8, ground := Ground.data }], guard := none }) (v := ?vfyd9) rfl (by kernel_rfl) (by kernel_rfl) (by kernel_rfl) (fun _ _ _ h => h) (Or.inl ⟨by rfl, ?yfyd9⟩) hS ?rfyd9
    case yfyd9 => (intro w hS; go_simp; try with_reducible rfl)
    go_simp
    refine wpAnyH_take (i := 10) (oi := { dst := some 136, op := Op.move (Operand.tmp 135), type := 4, pos := "law.go:80", after := #[{ on := 9, ground := Ground.data }, { on := 7, ground := Ground.chain }], guard := none }) (v := ?vfyd10) rfl (by kernel_rfl) (by kernel_rfl) (by kernel_rfl) (fun _ _ _ h => h) (Or.inl ⟨by rfl, ?yfyd10⟩) hS ?rfyd10
    case yfyd10 => (intro w hS; go_simp; try with_reducible rfl)
    go_simp
    refine wpAnyH_take (i := 11) (oi := { dst := some 137, op := Op.load 26 (Operand.tmp 8), type := 26, pos := "law.go:80", after := #[{ on := 10, ground := Ground.guard }], guard := some (10, true) }) (v := .agg (#[.bool (decide (a.num < 0)), .string (NB a.num.natAbs), .string (NB a.den)])) rfl (by kernel_rfl) (by kernel_rfl) (by kernel_rfl) (fun _ _ _ h => h) (Or.inl ⟨by rfl, ?yfyd11⟩) hS ?rfyd11
    case yfyd11 => exact fun w' hS => exec_load_row w' 26 (.tmp 8) rfl p3 (by first | rfl | (simp [Act.eval])) 26 (#[.bool (decide (a.num < 0)), .string (NB a.num.natAbs), .string (NB a.den)]) (0, 0) _ (hS.row (cs := qcells a) (by simp)) Tryz.underlying26 rfl info26.out
    refine wpAnyH_take (i := 12) (oi := { dst := some 138, op := Op.load 26 (Operand.tmp 9), type := 26, pos := "law.go:80", after := #[{ on := 10, ground := Ground.guard }], guard := some (10, true) }) (v := .agg (#[.bool (decide (b.num < 0)), .string (NB b.num.natAbs), .string (NB b.den)])) rfl (by kernel_rfl) (by kernel_rfl) (by kernel_rfl) (fun _ _ _ h => h) (Or.inl ⟨by rfl, ?yfyd12⟩) hS ?rfyd12
    case yfyd12 => exact fun w' hS => exec_load_row w' 26 (.tmp 9) rfl p5 (by first | rfl | (simp [Act.eval])) 26 (#[.bool (decide (b.num < 0)), .string (NB b.num.natAbs), .string (NB b.den)]) (0, 0) _ (hS.row (cs := qcells b) (by simp)) Tryz.underlying26 rfl info26.out
    refine wpAnyH_take (i := 14) (oi := { dst := some 140, op := Op.load 26 (Operand.tmp 8), type := 26, pos := "law.go:80", after := #[{ on := 10, ground := Ground.guard }], guard := some (10, true) }) (v := .agg (#[.bool (decide (a.num < 0)), .string (NB a.num.natAbs), .string (NB a.den)])) rfl (by kernel_rfl) (by kernel_rfl) (by kernel_rfl) (fun _ _ _ h => h) (Or.inl ⟨by rfl, ?yfyd14⟩) hS ?rfyd14
    case yfyd14 => exact fun w' hS => exec_load_row w' 26 (.tmp 8) rfl p3 (by first | rfl | (simp [Act.eval])) 26 (#[.bool (decide (a.num < 0)), .string (NB a.num.natAbs), .string (NB a.den)]) (0, 0) _ (hS.row (cs := qcells a) (by simp)) Tryz.underlying26 rfl info26.out
    refine wpAnyH_take (i := 15) (oi := { dst := some 141, op := Op.load 26 (Operand.tmp 9), type := 26, pos := "law.go:80", after := #[{ on := 10, ground := Ground.guard }], guard := some (10, true) }) (v := .agg (#[.bool (decide (b.num < 0)), .string (NB b.num.natAbs), .string (NB b.den)])) rfl (by kernel_rfl) (by kernel_rfl) (by kernel_rfl) (fun _ _ _ h => h) (Or.inl ⟨by rfl, ?yfyd15⟩) hS ?rfyd15
    case yfyd15 => exact fun w' hS => exec_load_row w' 26 (.tmp 9) rfl p5 (by first | rfl | (simp [Act.eval])) 26 (#[.bool (decide (b.num < 0)), .string (NB b.num.natAbs), .string (NB b.den)]) (0, 0) _ (hS.row (cs := qcells b) (by simp)) Tryz.underlying26 rfl info26.out
    go_simp
    refine wpAnyH_ready (rs := [13]) (by kernel_rfl) (by simp) ?_
    refine AllReadyH.cons (o := { dst := some 139, op := Op.call { callee := Callee.value (Operand.func 16), args := #[Operand.tmp 137, Operand.tmp 138], argTypes := #[26, 26] }, type := 26, pos := "law.go:80", after := #[{ on := 11, ground := Ground.data }, { on := 12, ground := Ground.data }, { on := 10, ground := Ground.chain }, { on := 10, ground := Ground.guard }], guard := some (10, true) }) rfl (fun K hK => ?_) AllReadyH.nil
    go_simp
    go_at_call 16
    refine (H11.out.1 _ hS.t).mono ?_
    rintro e w' ⟨rfl, b⟩
    have hS2 := hS.next b
    clear b hS
    try go_simp
    refine hK.out _ _ hS2 (fun hS => ?_)
    clear hK K hS2
    refine wpAnyH_ready (rs := [16]) (by kernel_rfl) (by simp) ?_
    refine AllReadyH.cons (o := { dst := some 142, op := Op.call { callee := Callee.value (Operand.func 24), args := #[Operand.tmp 141], argTypes := #[26] }, type := 26, pos := "law.go:80", after := #[{ on := 15, ground := Ground.data }, { on := 13, ground := Ground.chain }, { on := 10, ground := Ground.guard }], guard := some (10, true) }) rfl (fun K hK => ?_) AllReadyH.nil
    go_simp
    go_at_call 24
    refine (H11.out.2.1 _ hS.t).mono ?_
    rintro e w' ⟨rfl, b⟩
    have hS2 := hS.next b
    clear b hS
    try go_simp
    refine hK.out _ _ hS2 (fun hS => ?_)
    clear hK K hS2
    refine wpAnyH_ready (rs := [17]) (by kernel_rfl) (by simp) ?_
    refine AllReadyH.cons (o := { dst := some 143, op := Op.call { callee := Callee.value (Operand.func 14), args := #[Operand.tmp 140, Operand.tmp 142], argTypes := #[26, 26] }, type := 26, pos := "law.go:80", after := #[{ on := 14, ground := Ground.data }, { on := 16, ground := Ground.data }, { on := 16, ground := Ground.chain }, { on := 10, ground := Ground.guard }], guard := some (10, true) }) rfl (fun K hK => ?_) AllReadyH.nil
    go_simp
    go_at_call 14
    refine (H11.out.2.2.1 _ hS.t).mono ?_
    rintro e w' ⟨rfl, b⟩
    have hS2 := hS.next b
    clear b hS
    try go_simp
    refine hK.out _ _ hS2 (fun hS => ?_)
    clear hK K hS2
    refine wpAnyH_take (i := 18) (oi := { dst := some 144, op := Op.binOp BinOp.eql 26 (Operand.tmp 139) (Operand.tmp 143) 26, type := 4, pos := "law.go:80", after := #[{ on := 13, ground := Ground.data }, { on := 17, ground := Ground.data }, { on := 10, ground := Ground.guard }], guard := some (10, true) }) (v := ?vfyd18) rfl (by kernel_rfl) (by kernel_rfl) (by kernel_rfl) (fun _ _ _ h => h) (Or.inl ⟨by rfl, ?yfyd18⟩) hS ?rfyd18
    case yfyd18 => (intro w hS; go_simp; try with_reducible rfl)
    go_simp
    refine wpAnyH_take (i := 19) (oi := { dst := some 145, op := Op.pick (Operand.tmp 136) (Operand.tmp 144) (Operand.const (Value.bool false)), type := 4, pos := "law.go:80", after := #[{ on := 10, ground := Ground.data }, { on := 18, ground := Ground.data }], guard := none }) (v := ?vfyd19) rfl (by kernel_rfl) (by kernel_rfl) (by kernel_rfl) (fun _ _ _ h => h) (Or.inl ⟨by rfl, ?yfyd19⟩) hS ?rfyd19
    case yfyd19 => (intro w hS; go_simp; try with_reducible rfl)
    go_simp
    refine wpAnyH_take (i := 20) (oi := { dst := some 146, op := Op.move (Operand.tmp 145), type := 4, pos := "law.go:80", after := #[{ on := 19, ground := Ground.data }, { on := 17, ground := Ground.chain }], guard := none }) (v := ?vfyd20) rfl (by kernel_rfl) (by kernel_rfl) (by kernel_rfl) (fun _ _ _ h => h) (Or.inl ⟨by rfl, ?yfyd20⟩) hS ?rfyd20
    case yfyd20 => (intro w hS; go_simp; try with_reducible rfl)
    go_simp
    refine wpAnyH_take (i := 21) (oi := { dst := some 147, op := Op.load 26 (Operand.tmp 8), type := 26, pos := "law.go:80", after := #[{ on := 20, ground := Ground.guard }], guard := some (20, true) }) (v := .agg (#[.bool (decide (a.num < 0)), .string (NB a.num.natAbs), .string (NB a.den)])) rfl (by kernel_rfl) (by kernel_rfl) (by kernel_rfl) (fun _ _ _ h => h) (Or.inl ⟨by rfl, ?yfyd21⟩) hS ?rfyd21
    case yfyd21 => exact fun w' hS => exec_load_row w' 26 (.tmp 8) rfl p3 (by first | rfl | (simp [Act.eval])) 26 (#[.bool (decide (a.num < 0)), .string (NB a.num.natAbs), .string (NB a.den)]) (0, 0) _ (hS.row (cs := qcells a) (by simp)) Tryz.underlying26 rfl info26.out
    refine wpAnyH_take (i := 22) (oi := { dst := some 148, op := Op.load 26 (Operand.tmp 9), type := 26, pos := "law.go:80", after := #[{ on := 20, ground := Ground.guard }], guard := some (20, true) }) (v := .agg (#[.bool (decide (b.num < 0)), .string (NB b.num.natAbs), .string (NB b.den)])) rfl (by kernel_rfl) (by kernel_rfl) (by kernel_rfl) (fun _ _ _ h => h) (Or.inl ⟨by rfl, ?yfyd22⟩) hS ?rfyd22
    case yfyd22 => exact fun w' hS => exec_load_row w' 26 (.tmp 9) rfl p5 (by first | rfl | (simp [Act.eval])) 26 (#[.bool (decide (b.num < 0)), .string (NB b.num.natAbs), .string (NB b.den)]) (0, 0) _ (hS.row (cs := qcells b) (by simp)) Tryz.underlying26 rfl info26.out
    refine wpAnyH_take (i := 23) (oi := { dst := some 149, op := Op.load 26 (Operand.tmp 10), type := 26, pos := "law.go:80", after := #[{ on := 20, ground := Ground.guard }], guard := some (20, true) }) (v := .agg (#[.bool (decide (c.num < 0)), .string (NB c.num.natAbs), .string (NB c.den)])) rfl (by kernel_rfl) (by kernel_rfl) (by kernel_rfl) (fun _ _ _ h => h) (Or.inl ⟨by rfl, ?yfyd23⟩) hS ?rfyd23
    case yfyd23 => exact fun w' hS => exec_load_row w' 26 (.tmp 10) rfl p7 (by first | rfl | (simp [Act.eval])) 26 (#[.bool (decide (c.num < 0)), .string (NB c.num.natAbs), .string (NB c.den)]) (0, 0) _ (hS.row (cs := qcells c) (by simp)) Tryz.underlying26 rfl info26.out
    refine wpAnyH_take (i := 26) (oi := { dst := some 152, op := Op.load 26 (Operand.tmp 8), type := 26, pos := "law.go:80", after := #[{ on := 20, ground := Ground.guard }], guard := some (20, true) }) (v := .agg (#[.bool (decide (a.num < 0)), .string (NB a.num.natAbs), .string (NB a.den)])) rfl (by kernel_rfl) (by kernel_rfl) (by kernel_rfl) (fun _ _ _ h => h) (Or.inl ⟨by rfl, ?yfyd26⟩) hS ?rfyd26
    case yfyd26 => exact fun w' hS => exec_load_row w' 26 (.tmp 8) rfl p3 (by first | rfl | (simp [Act.eval])) 26 (#[.bool (decide (a.num < 0)), .string (NB a.num.natAbs), .string (NB a.den)]) (0, 0) _ (hS.row (cs := qcells a) (by simp)) Tryz.underlying26 rfl info26.out
    refine wpAnyH_take (i := 27) (oi := { dst := some 153, op := Op.load 26 (Operand.tmp 9), type := 26, pos := "law.go:80", after := #[{ on := 20, ground := Ground.guard }], guard := some (20, true) }) (v := .agg (#[.bool (decide (b.num < 0)), .string (NB b.num.natAbs), .string (NB b.den)])) rfl (by kernel_rfl) (by kernel_rfl) (by kernel_rfl) (fun _ _ _ h => h) (Or.inl ⟨by rfl, ?yfyd27⟩) hS ?rfyd27
    case yfyd27 => exact fun w' hS => exec_load_row w' 26 (.tmp 9) rfl p5 (by first | rfl | (simp [Act.eval])) 26 (#[.bool (decide (b.num < 0)), .string (NB b.num.natAbs), .string (NB b.den)]) (0, 0) _ (hS.row (cs := qcells b) (by simp)) Tryz.underlying26 rfl info26.out
    refine wpAnyH_take (i := 29) (oi := { dst := some 155, op := Op.load 26 (Operand.tmp 10), type := 26, pos := "law.go:80", after := #[{ on := 20, ground := Ground.guard }], guard := some (20, true) }) (v := .agg (#[.bool (decide (c.num < 0)), .string (NB c.num.natAbs), .string (NB c.den)])) rfl (by kernel_rfl) (by kernel_rfl) (by kernel_rfl) (fun _ _ _ h => h) (Or.inl ⟨by rfl, ?yfyd29⟩) hS ?rfyd29
    case yfyd29 => exact fun w' hS => exec_load_row w' 26 (.tmp 10) rfl p7 (by first | rfl | (simp [Act.eval])) 26 (#[.bool (decide (c.num < 0)), .string (NB c.num.natAbs), .string (NB c.den)]) (0, 0) _ (hS.row (cs := qcells c) (by simp)) Tryz.underlying26 rfl info26.out
    go_simp
    refine wpAnyH_ready (rs := [24]) (by kernel_rfl) (by simp) ?_
    refine AllReadyH.cons (o := { dst := some 150, op := Op.buildSlice 38 3 #[(0, Operand.tmp 147), (1, Operand.tmp 148), (2, Operand.tmp 149)], type := 38, pos := "law.go:80", after := #[{ on := 21, ground := Ground.data }, { on := 22, ground := Ground.data }, { on := 23, ground := Ground.data }, { on := 20, ground := Ground.guard }], guard := some (20, true) }) rfl (fun K hK => ?_) AllReadyH.nil
    go_simp
    have hRL := rl3 w' 26 (t3 a) (t3 b) (t3 c)
    have hRl : w'.heap.size < (w'.alloc (.cells #[.bool (t3 a).1, .string (t3 a).2.1, .string (t3 a).2.2, .bool (t3 b).1, .string (t3 b).2.1, .string (t3 b).2.2, .bool (t3 c).1, .string (t3 c).2.1, .string (t3 c).2.2] 26)).heap.size := by simp
    have hS2 := hS.next ((Below.refl w'.heap.size w').alloc (Nat.le_refl _) (.cells #[.bool (t3 a).1, .string (t3 a).2.1, .string (t3 a).2.2, .bool (t3 b).1, .string (t3 b).2.1, .string (t3 b).2.2, .bool (t3 c).1, .string (t3 c).2.1, .string (t3 c).2.2] 26))
    clear hS
    refine hK.out _ _ hS2 (fun hS => ?_)
    clear hK K hS2
    obtain ⟨pz, hpz⟩ : ∃ pz, w'.heap.size = pz := ⟨_, rfl⟩
    rw [hpz] at hRL hRl ⊢
    clear hpz
    refine wpAnyH_ready (rs := [25]) (by kernel_rfl) (by simp) ?_
    refine AllReadyH.cons (o := { dst := some 151, op := Op.call { callee := Callee.value (Operand.func 30), args := #[Operand.tmp 150], argTypes := #[38] }, type := 26, pos := "law.go:80", after := #[{ on := 24, ground := Ground.data }, { on := 20, ground := Ground.chain }, { on := 20, ground := Ground.guard }], guard := some (20, true) }) rfl (fun K hK => ?_) AllReadyH.nil
    go_simp
    go_at_call 30
    refine (aSum3 _ pz a b c hRL hRl HSM.out.1 HSM.out.2.1 HSM.out.2.2 hS.t).mono ?_
    rintro e w' ⟨rfl, b⟩
    have hS2 := hS.next b
    clear b hS
    try go_simp
    refine hK.out _ _ hS2 (fun hS => ?_)
    clear hK K hS2
    refine wpAnyH_ready (rs := [28]) (by kernel_rfl) (by simp) ?_
    refine AllReadyH.cons (o := { dst := some 154, op := Op.call { callee := Callee.value (Operand.func 14), args := #[Operand.tmp 152, Operand.tmp 153], argTypes := #[26, 26] }, type := 26, pos := "law.go:80", after := #[{ on := 26, ground := Ground.data }, { on := 27, ground := Ground.data }, { on := 25, ground := Ground.chain }, { on := 20, ground := Ground.guard }], guard := some (20, true) }) rfl (fun K hK => ?_) AllReadyH.nil
    go_simp
    go_at_call 14
    refine (H11.out.2.2.2.1 _ hS.t).mono ?_
    rintro e w' ⟨rfl, b⟩
    have hS2 := hS.next b
    clear b hS
    try go_simp
    refine hK.out _ _ hS2 (fun hS => ?_)
    clear hK K hS2
    refine wpAnyH_ready (rs := [30]) (by kernel_rfl) (by simp) ?_
    refine AllReadyH.cons (o := { dst := some 156, op := Op.call { callee := Callee.value (Operand.func 14), args := #[Operand.tmp 154, Operand.tmp 155], argTypes := #[26, 26] }, type := 26, pos := "law.go:80", after := #[{ on := 28, ground := Ground.data }, { on := 29, ground := Ground.data }, { on := 28, ground := Ground.chain }, { on := 20, ground := Ground.guard }], guard := some (20, true) }) rfl (fun K hK => ?_) AllReadyH.nil
    go_simp
    go_at_call 14
    refine (H11.out.2.2.2.2 _ hS.t).mono ?_
    rintro e w' ⟨rfl, b⟩
    have hS2 := hS.next b
    clear b hS
    try go_simp
    refine hK.out _ _ hS2 (fun hS => ?_)
    clear hK K hS2
    refine wpAnyH_take (i := 31) (oi := { dst := some 157, op := Op.binOp BinOp.eql 26 (Operand.tmp 151) (Operand.tmp 156) 26, type := 4, pos := "law.go:80", after := #[{ on := 25, ground := Ground.data }, { on := 30, ground := Ground.data }, { on := 20, ground := Ground.guard }], guard := some (20, true) }) (v := ?vfyd31) rfl (by kernel_rfl) (by kernel_rfl) (by kernel_rfl) (fun _ _ _ h => h) (Or.inl ⟨by rfl, ?yfyd31⟩) hS ?rfyd31
    case yfyd31 => (intro w hS; go_simp; try with_reducible rfl)
    go_simp
    refine wpAnyH_take (i := 32) (oi := { dst := some 158, op := Op.pick (Operand.tmp 146) (Operand.tmp 157) (Operand.const (Value.bool false)), type := 4, pos := "law.go:80", after := #[{ on := 20, ground := Ground.data }, { on := 31, ground := Ground.data }], guard := none }) (v := ?vfyd32) rfl (by kernel_rfl) (by kernel_rfl) (by kernel_rfl) (fun _ _ _ h => h) (Or.inl ⟨by rfl, ?yfyd32⟩) hS ?rfyd32
    case yfyd32 => (intro w hS; go_simp; try with_reducible rfl)
    go_simp
    refine wpAnyH_take (i := 33) (oi := { dst := some 6, op := Op.assign (Operand.tmp 158), type := 4, pos := "law.go:80", after := #[{ on := 32, ground := Ground.data }, { on := 30, ground := Ground.chain }, { on := 0, ground := Ground.phase }, { on := 1, ground := Ground.phase }, { on := 2, ground := Ground.phase }, { on := 3, ground := Ground.phase }, { on := 4, ground := Ground.phase }, { on := 5, ground := Ground.phase }, { on := 6, ground := Ground.phase }, { on := 7, ground := Ground.phase }, { on := 8, ground := Ground.phase }, { on := 9, ground := Ground.phase }, { on := 10, ground := Ground.phase }, { on := 11, ground := Ground.phase }, { on := 12, ground := Ground.phase }, { on := 13, ground := Ground.phase }, { on := 14, ground := Ground.phase }, { on := 15, ground := Ground.phase }, { on := 16, ground := Ground.phase }, { on := 17, ground := Ground.phase }, { on := 18, ground := Ground.phase }, { on := 19, ground := Ground.phase }, { on := 20, ground := Ground.phase }, { on := 21, ground := Ground.phase }, { on := 22, ground := Ground.phase }, { on := 23, ground := Ground.phase }, { on := 24, ground := Ground.phase }, { on := 25, ground := Ground.phase }, { on := 26, ground := Ground.phase }, { on := 27, ground := Ground.phase }, { on := 28, ground := Ground.phase }, { on := 29, ground := Ground.phase }, { on := 30, ground := Ground.phase }, { on := 31, ground := Ground.phase }, { on := 32, ground := Ground.phase }], guard := none }) (v := ?vfyd33) rfl (by kernel_rfl) (by kernel_rfl) (by kernel_rfl) (fun _ _ _ h => h) (Or.inl ⟨by rfl, ?yfyd33⟩) hS ?rfyd33
    case yfyd33 => (intro w hS; go_simp; try with_reducible rfl)
    refine wpAnyH_done (by kernel_rfl) ?_ _
    have HR11 := Lib.hid hS
    clear hS E1 E2
    go_wp2
    go_ret
    exact ⟨rfl, HR11.out.b⟩
end Go.Proofs.YteccbedmpjeamaaGreatDoor
