/-
  The walks of ratio.Add, Sub, Mul, for any parts.
  The walks of ratio.Neg, Of, Sign, Quo, for any parts.
  The walks of the reference's lowest, Right, value, Of.
  The walks of the reference's value, Of, Quo, and of the law's frac.
  The walks of the reference's Mod and Made: a number that three numbers determine.
-/
import Derived.Test.YteccbedmpjeamaaGreatDoorQB
import Derived.Test.YteccbedmpjeamaaGreatDoorRefMul2
import Derived.Test.YteccbedmpjeamaaGreatDoorRefQuo
import Derived.Test.YteccbedmpjeamaaGreatDoorRefGcd
import Derived.Test.YteccbedmpjeamaaGreatDoorRefAdd
namespace Go.Proofs.YteccbedmpjeamaaGreatDoor
open Go.RowKit NM QM
set_option maxRecDepth 100000 in
set_option maxHeartbeats 4000000 in
theorem qAdd (w : World) (g1 g2 : Bool) (A1 B1 A2 B2 : ByteArray) (N : Nat) (hA1 : A1.size ≤ N) (hB1 : B1.size ≤ N) (hA2 : A2.size ≤ N) (hB2 : B2.size ≤ N) (hN1 : 1 ≤ N) (hN : N ≤ 1000000) (hT : Tb w) :
    Calls Tryz.prog 14 #[RW g1 A1 B1, RW g2 A2 B2] w fun e w' => e = .returned (QV (rvq g1 A1 B1 + rvq g2 A2 B2)) ∧ Below w.heap.size w w' := by
  have V1 := fun W (h : Tb W) => valid_any W g1 A1 B1 N hA1 hB1 hN h
  have V2 := fun W (h : Tb W) => valid_any W g2 A2 B2 N hA2 hB2 hN h
  have s1 := SmQ_rvq g1 A1 B1 N hA1 hB1 hN1
  have s2 := SmQ_rvq g2 A2 B2 N hA2 hB2 hN1
  generalize rvq g1 A1 B1 = a at *
  generalize rvq g2 A2 B2 = b at *
  have PP := fun W (h : Tb W) => plus_q W a b N s1 s2 hN h.t h.g
  unfold QV at *
  have HV := Lib.hid (And.intro V1 V2)
  have h0 := d2_start w (rrow g1 A1 B1) (rrow g2 A2 B2) hT
  have hz := d2_z w (rrow g1 A1 B1) (rrow g2 A2 B2)
  obtain ⟨W, hW⟩ : ∃ W, ((w.alloc (.cells (rrow g1 A1 B1) 26)).alloc (.cells (rrow g2 A2 B2) 26)).alloc (.cells zrow 26) = W := ⟨_, rfl⟩
  rw [hW] at h0 hz
  have HW := Lib.hid hW
  have HT := Lib.hid hT
  have HZ := Lib.hid hz
  have HP := Lib.hid PP
  clear hW V1 V2 PP hz hT s1 s2
  unfold RW
  go_enter Tryz.func14, Tryz.ntmps14
  go_upto_region 1 with fail
  change Code.wp _ _ _ _ (((w.alloc (.cells (rrow g1 A1 B1) 26)).alloc (.cells (rrow g2 A2 B2) 26)).alloc (.cells zrow 26))
  rw [HW.out]
  have hz : W.drew.heap[w.heap.size + 2]? = _ := HZ.out
  refine wp_region_held_drew (S := D2 w (rrow g1 A1 B1) (rrow g2 A2 B2)) (by kernel_rfl) h0.drew (fun hS => ?_)
  clear HW HZ h0
  refine wpAnyH_take (i := 0) (oi := { dst := some 5, op := Op.load 26 (Operand.tmp 2), type := 26, pos := "ratio.go:76", after := #[], guard := none }) (v := .agg (rrow g1 A1 B1)) rfl (by kernel_rfl) (by kernel_rfl) (by kernel_rfl) (fun _ _ _ h => h) (Or.inl ⟨by rfl, ?yad0⟩) hS ?rad0
  case yad0 => exact fun w' hS => exec_load_row w' 26 (.tmp 2) rfl w.heap.size (by first | rfl | (simp [Act.eval])) 26 (rrow g1 A1 B1) (0, 0) _ hS.a Tryz.underlying26 rfl info26.out
  refine wpAnyH_take (i := 2) (oi := { dst := some 7, op := Op.load 26 (Operand.tmp 3), type := 26, pos := "ratio.go:76", after := #[], guard := none }) (v := .agg (rrow g2 A2 B2)) rfl (by kernel_rfl) (by kernel_rfl) (by kernel_rfl) (fun _ _ _ h => h) (Or.inl ⟨by rfl, ?yad2⟩) hS ?rad2
  case yad2 => exact fun w' hS => exec_load_row w' 26 (.tmp 3) rfl (w.heap.size + 1) (by first | rfl | (simp [Act.eval])) 26 (rrow g2 A2 B2) (0, 0) _ hS.c Tryz.underlying26 rfl info26.out
  go_simp
  refine wpAnyH_ready (rs := [1]) (by kernel_rfl) (by simp) ?_
  refine AllReadyH.cons (o := { dst := some 6, op := Op.call { callee := Callee.value (Operand.func 47), args := #[Operand.tmp 5], argTypes := #[26] }, type := 26, pos := "ratio.go:76", after := #[{ on := 0, ground := Ground.data }], guard := none }) rfl (fun K hK => ?_) AllReadyH.nil
  go_simp
  go_at_call 47
  refine (HV.out.1 _ hS.t).mono ?_
  rintro e w' ⟨rfl, b⟩
  have hS2 := hS.next b
  have hz2 := (b.block _ hS.lt).trans hz
  clear hz
  have hz := hz2
  clear hz2
  clear b hS
  try go_simp
  refine hK.out _ _ hS2 (fun hS => ?_)
  clear hK K hS2
  refine wpAnyH_ready (rs := [3]) (by kernel_rfl) (by simp) ?_
  refine AllReadyH.cons (o := { dst := some 8, op := Op.call { callee := Callee.value (Operand.func 47), args := #[Operand.tmp 7], argTypes := #[26] }, type := 26, pos := "ratio.go:76", after := #[{ on := 2, ground := Ground.data }, { on := 1, ground := Ground.chain }], guard := none }) rfl (fun K hK => ?_) AllReadyH.nil
  go_simp
  go_at_call 47
  refine (HV.out.2 _ hS.t).mono ?_
  rintro e w' ⟨rfl, b⟩
  have hS2 := hS.next b
  have hz2 := (b.block _ hS.lt).trans hz
  clear hz
  have hz := hz2
  clear hz2
  clear b hS
  try go_simp
  refine hK.out _ _ hS2 (fun hS => ?_)
  clear hK K hS2
  refine wpAnyH_ready (rs := [4]) (by kernel_rfl) (by simp) ?_
  refine AllReadyH.cons (o := { dst := some 9, op := Op.call { callee := Callee.value (Operand.func 50), args := #[Operand.tmp 6, Operand.tmp 8], argTypes := #[26, 26] }, type := 26, pos := "ratio.go:76", after := #[{ on := 1, ground := Ground.data }, { on := 3, ground := Ground.data }, { on := 3, ground := Ground.chain }], guard := none }) rfl (fun K hK => ?_) AllReadyH.nil
  go_simp
  go_at_call 50
  refine (HP.out _ hS.t).mono ?_
  rintro e w' ⟨rfl, b⟩
  have hS2 := hS.next b
  have hz2 := (b.block _ hS.lt).trans hz
  clear hz
  have hz := hz2
  clear hz2
  clear b hS
  try go_simp
  refine hK.out _ _ hS2 (fun hS => ?_)
  clear hK K hS2
  refine wpAnyH_ready (rs := [5]) (by kernel_rfl) (by simp) ?_
  refine AllReadyH.cons (o := { dst := none, op := Op.store 26 (Operand.tmp 4) (Operand.tmp 9), type := 0, pos := "ratio.go:76", after := #[{ on := 4, ground := Ground.data }, { on := 4, ground := Ground.chain }, { on := 0, ground := Ground.phase }, { on := 1, ground := Ground.phase }, { on := 2, ground := Ground.phase }, { on := 3, ground := Ground.phase }, { on := 4, ground := Ground.phase }], guard := none }) rfl (fun K hK => ?_) AllReadyH.nil
  rw [if_pos (by rfl)]
  refine wp_store_row 26 (.tmp 4) (.tmp 9) rfl (w.heap.size + 2) (qcells (a + b)) (by first | rfl | (simp [Act.eval])) (by first | rfl | (simp [Act.eval])) 26 zrow hz info26.out rfl (qone _) ?_
  have hS2 := hS.store HT.out (qcells (a + b))
  clear hS
  refine hK.out _ _ hS2 (fun hS => ?_)
  clear hK K hS2
  refine wpAnyH_done (by kernel_rfl) ?_ _
  go_wp2
  refine bodyPost_ret (results_cell_row rfl _ _ (w.heap.size + 2) _ (qcells (a + b)) _ _ rfl (setRow_heap _ _ _ _ _ _ hz) Tryz.underlying26 rfl info26.out) rfl ?_
  exact ⟨rfl, hS.b⟩
set_option maxRecDepth 100000 in
set_option maxHeartbeats 4000000 in
theorem qMul (w : World) (g1 g2 : Bool) (A1 B1 A2 B2 : ByteArray) (N : Nat) (hA1 : A1.size ≤ N) (hB1 : B1.size ≤ N) (hA2 : A2.size ≤ N) (hB2 : B2.size ≤ N) (hN1 : 1 ≤ N) (hN : N ≤ 1000000) (hT : Tb w) :
    Calls Tryz.prog 18 #[RW g1 A1 B1, RW g2 A2 B2] w fun e w' => e = .returned (QV (rvq g1 A1 B1 * rvq g2 A2 B2)) ∧ Below w.heap.size w w' := by
  have V1 := fun W (h : Tb W) => valid_any W g1 A1 B1 N hA1 hB1 hN h
  have V2 := fun W (h : Tb W) => valid_any W g2 A2 B2 N hA2 hB2 hN h
  have s1 := SmQ_rvq g1 A1 B1 N hA1 hB1 hN1
  have s2 := SmQ_rvq g2 A2 B2 N hA2 hB2 hN1
  generalize rvq g1 A1 B1 = a at *
  generalize rvq g2 A2 B2 = b at *
  have PP := fun W (h : Tb W) => times_q W a b N s1 s2 hN h.t h.g
  unfold QV at *
  have HV := Lib.hid (And.intro V1 V2)
  have h0 := d2_start w (rrow g1 A1 B1) (rrow g2 A2 B2) hT
  have hz := d2_z w (rrow g1 A1 B1) (rrow g2 A2 B2)
  obtain ⟨W, hW⟩ : ∃ W, ((w.alloc (.cells (rrow g1 A1 B1) 26)).alloc (.cells (rrow g2 A2 B2) 26)).alloc (.cells zrow 26) = W := ⟨_, rfl⟩
  rw [hW] at h0 hz
  have HW := Lib.hid hW
  have HT := Lib.hid hT
  have HZ := Lib.hid hz
  have HP := Lib.hid PP
  clear hW V1 V2 PP hz hT s1 s2
  unfold RW
  go_enter Tryz.func18, Tryz.ntmps18
  go_upto_region 1 with fail
  change Code.wp _ _ _ _ (((w.alloc (.cells (rrow g1 A1 B1) 26)).alloc (.cells (rrow g2 A2 B2) 26)).alloc (.cells zrow 26))
  rw [HW.out]
  have hz : W.drew.heap[w.heap.size + 2]? = _ := HZ.out
  refine wp_region_held_drew (S := D2 w (rrow g1 A1 B1) (rrow g2 A2 B2)) (by kernel_rfl) h0.drew (fun hS => ?_)
  clear HW HZ h0
  refine wpAnyH_take (i := 0) (oi := { dst := some 5, op := Op.load 26 (Operand.tmp 2), type := 26, pos := "ratio.go:86", after := #[], guard := none }) (v := .agg (rrow g1 A1 B1)) rfl (by kernel_rfl) (by kernel_rfl) (by kernel_rfl) (fun _ _ _ h => h) (Or.inl ⟨by rfl, ?ymu0⟩) hS ?rmu0
  case ymu0 => exact fun w' hS => exec_load_row w' 26 (.tmp 2) rfl w.heap.size (by first | rfl | (simp [Act.eval])) 26 (rrow g1 A1 B1) (0, 0) _ hS.a Tryz.underlying26 rfl info26.out
  refine wpAnyH_take (i := 2) (oi := { dst := some 7, op := Op.load 26 (Operand.tmp 3), type := 26, pos := "ratio.go:86", after := #[], guard := none }) (v := .agg (rrow g2 A2 B2)) rfl (by kernel_rfl) (by kernel_rfl) (by kernel_rfl) (fun _ _ _ h => h) (Or.inl ⟨by rfl, ?ymu2⟩) hS ?rmu2
  case ymu2 => exact fun w' hS => exec_load_row w' 26 (.tmp 3) rfl (w.heap.size + 1) (by first | rfl | (simp [Act.eval])) 26 (rrow g2 A2 B2) (0, 0) _ hS.c Tryz.underlying26 rfl info26.out
  go_simp
  refine wpAnyH_ready (rs := [1]) (by kernel_rfl) (by simp) ?_
  refine AllReadyH.cons (o := { dst := some 6, op := Op.call { callee := Callee.value (Operand.func 47), args := #[Operand.tmp 5], argTypes := #[26] }, type := 26, pos := "ratio.go:86", after := #[{ on := 0, ground := Ground.data }], guard := none }) rfl (fun K hK => ?_) AllReadyH.nil
  go_simp
  go_at_call 47
  refine (HV.out.1 _ hS.t).mono ?_
  rintro e w' ⟨rfl, b⟩
  have hS2 := hS.next b
  have hz2 := (b.block _ hS.lt).trans hz
  clear hz
  have hz := hz2
  clear hz2
  clear b hS
  try go_simp
  refine hK.out _ _ hS2 (fun hS => ?_)
  clear hK K hS2
  refine wpAnyH_ready (rs := [3]) (by kernel_rfl) (by simp) ?_
  refine AllReadyH.cons (o := { dst := some 8, op := Op.call { callee := Callee.value (Operand.func 47), args := #[Operand.tmp 7], argTypes := #[26] }, type := 26, pos := "ratio.go:86", after := #[{ on := 2, ground := Ground.data }, { on := 1, ground := Ground.chain }], guard := none }) rfl (fun K hK => ?_) AllReadyH.nil
  go_simp
  go_at_call 47
  refine (HV.out.2 _ hS.t).mono ?_
  rintro e w' ⟨rfl, b⟩
  have hS2 := hS.next b
  have hz2 := (b.block _ hS.lt).trans hz
  clear hz
  have hz := hz2
  clear hz2
  clear b hS
  try go_simp
  refine hK.out _ _ hS2 (fun hS => ?_)
  clear hK K hS2
  refine wpAnyH_ready (rs := [4]) (by kernel_rfl) (by simp) ?_
  refine AllReadyH.cons (o := { dst := some 9, op := Op.call { callee := Callee.value (Operand.func 48), args := #[Operand.tmp 6, Operand.tmp 8], argTypes := #[26, 26] }, type := 26, pos := "ratio.go:86", after := #[{ on := 1, ground := Ground.data }, { on := 3, ground := Ground.data }, { on := 3, ground := Ground.chain }], guard := none }) rfl (fun K hK => ?_) AllReadyH.nil
  go_simp
  go_at_call 48
  refine (HP.out _ hS.t).mono ?_
  rintro e w' ⟨rfl, b⟩
  have hS2 := hS.next b
  have hz2 := (b.block _ hS.lt).trans hz
  clear hz
  have hz := hz2
  clear hz2
  clear b hS
  try go_simp
  refine hK.out _ _ hS2 (fun hS => ?_)
  clear hK K hS2
  refine wpAnyH_ready (rs := [5]) (by kernel_rfl) (by simp) ?_
  refine AllReadyH.cons (o := { dst := none, op := Op.store 26 (Operand.tmp 4) (Operand.tmp 9), type := 0, pos := "ratio.go:86", after := #[{ on := 4, ground := Ground.data }, { on := 4, ground := Ground.chain }, { on := 0, ground := Ground.phase }, { on := 1, ground := Ground.phase }, { on := 2, ground := Ground.phase }, { on := 3, ground := Ground.phase }, { on := 4, ground := Ground.phase }], guard := none }) rfl (fun K hK => ?_) AllReadyH.nil
  rw [if_pos (by rfl)]
  refine wp_store_row 26 (.tmp 4) (.tmp 9) rfl (w.heap.size + 2) (qcells (a * b)) (by first | rfl | (simp [Act.eval])) (by first | rfl | (simp [Act.eval])) 26 zrow hz info26.out rfl (qone _) ?_
  have hS2 := hS.store HT.out (qcells (a * b))
  clear hS
  refine hK.out _ _ hS2 (fun hS => ?_)
  clear hK K hS2
  refine wpAnyH_done (by kernel_rfl) ?_ _
  go_wp2
  refine bodyPost_ret (results_cell_row rfl _ _ (w.heap.size + 2) _ (qcells (a * b)) _ _ rfl (setRow_heap _ _ _ _ _ _ hz) Tryz.underlying26 rfl info26.out) rfl ?_
  exact ⟨rfl, hS.b⟩
set_option maxRecDepth 100000 in
set_option maxHeartbeats 4000000 in
theorem qSub (w : World) (g1 g2 : Bool) (A1 B1 A2 B2 : ByteArray) (N : Nat) (hA1 : A1.size ≤ N) (hB1 : B1.size ≤ N) (hA2 : A2.size ≤ N) (hB2 : B2.size ≤ N) (hN1 : 1 ≤ N) (hN : N ≤ 1000000) (hT : Tb w) :
    Calls Tryz.prog 16 #[RW g1 A1 B1, RW g2 A2 B2] w fun e w' => e = .returned (QV (rvq g1 A1 B1 - rvq g2 A2 B2)) ∧ Below w.heap.size w w' := by
  have V1 := fun W (h : Tb W) => valid_any W g1 A1 B1 N hA1 hB1 hN h
  have V2 := fun W (h : Tb W) => valid_any W g2 A2 B2 N hA2 hB2 hN h
  have s1 := SmQ_rvq g1 A1 B1 N hA1 hB1 hN1
  have s2 := SmQ_rvq g2 A2 B2 N hA2 hB2 hN1
  generalize rvq g1 A1 B1 = a at *
  generalize rvq g2 A2 B2 = b at *
  have s3 : SmQ N (-b) := ⟨by rw [Rat.neg_num, Int.natAbs_neg]; exact s2.1, by rw [Rat.neg_den]; exact s2.2⟩
  have P1 := fun W => minus_q W b
  have P2 := fun W (h : Tb W) => plus_q W a (-b) N s1 s3 hN h.t h.g
  rw [← Rat.sub_eq_add_neg] at P2
  have PP := And.intro P1 P2
  clear P1 P2 s3
  unfold QV at *
  have HV := Lib.hid (And.intro V1 V2)
  have h0 := d2_start w (rrow g1 A1 B1) (rrow g2 A2 B2) hT
  have hz := d2_z w (rrow g1 A1 B1) (rrow g2 A2 B2)
  obtain ⟨W, hW⟩ : ∃ W, ((w.alloc (.cells (rrow g1 A1 B1) 26)).alloc (.cells (rrow g2 A2 B2) 26)).alloc (.cells zrow 26) = W := ⟨_, rfl⟩
  rw [hW] at h0 hz
  have HW := Lib.hid hW
  have HT := Lib.hid hT
  have HZ := Lib.hid hz
  have HP := Lib.hid PP
  clear hW V1 V2 PP hz hT s1 s2
  unfold RW
  go_enter Tryz.func16, Tryz.ntmps16
  go_upto_region 1 with fail
  change Code.wp _ _ _ _ (((w.alloc (.cells (rrow g1 A1 B1) 26)).alloc (.cells (rrow g2 A2 B2) 26)).alloc (.cells zrow 26))
  rw [HW.out]
  have hz : W.drew.heap[w.heap.size + 2]? = _ := HZ.out
  refine wp_region_held_drew (S := D2 w (rrow g1 A1 B1) (rrow g2 A2 B2)) (by kernel_rfl) h0.drew (fun hS => ?_)
  clear HW HZ h0
  refine wpAnyH_take (i := 0) (oi := { dst := some 5, op := Op.load 26 (Operand.tmp 2), type := 26, pos := "ratio.go:81", after := #[], guard := none }) (v := .agg (rrow g1 A1 B1)) rfl (by kernel_rfl) (by kernel_rfl) (by kernel_rfl) (fun _ _ _ h => h) (Or.inl ⟨by rfl, ?ysu0⟩) hS ?rsu0
  case ysu0 => exact fun w' hS => exec_load_row w' 26 (.tmp 2) rfl w.heap.size (by first | rfl | (simp [Act.eval])) 26 (rrow g1 A1 B1) (0, 0) _ hS.a Tryz.underlying26 rfl info26.out
  refine wpAnyH_take (i := 2) (oi := { dst := some 7, op := Op.load 26 (Operand.tmp 3), type := 26, pos := "ratio.go:81", after := #[], guard := none }) (v := .agg (rrow g2 A2 B2)) rfl (by kernel_rfl) (by kernel_rfl) (by kernel_rfl) (fun _ _ _ h => h) (Or.inl ⟨by rfl, ?ysu2⟩) hS ?rsu2
  case ysu2 => exact fun w' hS => exec_load_row w' 26 (.tmp 3) rfl (w.heap.size + 1) (by first | rfl | (simp [Act.eval])) 26 (rrow g2 A2 B2) (0, 0) _ hS.c Tryz.underlying26 rfl info26.out
  go_simp
  refine wpAnyH_ready (rs := [1]) (by kernel_rfl) (by simp) ?_
  refine AllReadyH.cons (o := { dst := some 6, op := Op.call { callee := Callee.value (Operand.func 47), args := #[Operand.tmp 5], argTypes := #[26] }, type := 26, pos := "ratio.go:81", after := #[{ on := 0, ground := Ground.data }], guard := none }) rfl (fun K hK => ?_) AllReadyH.nil
  go_simp
  go_at_call 47
  refine (HV.out.1 _ hS.t).mono ?_
  rintro e w' ⟨rfl, b⟩
  have hS2 := hS.next b
  have hz2 := (b.block _ hS.lt).trans hz
  clear hz
  have hz := hz2
  clear hz2
  clear b hS
  try go_simp
  refine hK.out _ _ hS2 (fun hS => ?_)
  clear hK K hS2
  refine wpAnyH_ready (rs := [3]) (by kernel_rfl) (by simp) ?_
  refine AllReadyH.cons (o := { dst := some 8, op := Op.call { callee := Callee.value (Operand.func 47), args := #[Operand.tmp 7], argTypes := #[26] }, type := 26, pos := "ratio.go:81", after := #[{ on := 2, ground := Ground.data }, { on := 1, ground := Ground.chain }], guard := none }) rfl (fun K hK => ?_) AllReadyH.nil
  go_simp
  go_at_call 47
  refine (HV.out.2 _ hS.t).mono ?_
  rintro e w' ⟨rfl, b⟩
  have hS2 := hS.next b
  have hz2 := (b.block _ hS.lt).trans hz
  clear hz
  have hz := hz2
  clear hz2
  clear b hS
  try go_simp
  refine hK.out _ _ hS2 (fun hS => ?_)
  clear hK K hS2
  refine wpAnyH_ready (rs := [4]) (by kernel_rfl) (by simp) ?_
  refine AllReadyH.cons (o := { dst := some 9, op := Op.call { callee := Callee.value (Operand.func 54), args := #[Operand.tmp 8], argTypes := #[26] }, type := 26, pos := "ratio.go:81", after := #[{ on := 3, ground := Ground.data }, { on := 3, ground := Ground.chain }], guard := none }) rfl (fun K hK => ?_) AllReadyH.nil
  go_simp
  go_at_call 54
  refine (HP.out.1 _).mono ?_
  rintro e w' ⟨rfl, b⟩
  have hS2 := hS.next b
  have hz2 := (b.block _ hS.lt).trans hz
  clear hz
  have hz := hz2
  clear hz2
  clear b hS
  try go_simp
  refine hK.out _ _ hS2 (fun hS => ?_)
  clear hK K hS2
  refine wpAnyH_ready (rs := [5]) (by kernel_rfl) (by simp) ?_
  refine AllReadyH.cons (o := { dst := some 10, op := Op.call { callee := Callee.value (Operand.func 50), args := #[Operand.tmp 6, Operand.tmp 9], argTypes := #[26, 26] }, type := 26, pos := "ratio.go:81", after := #[{ on := 1, ground := Ground.data }, { on := 4, ground := Ground.data }, { on := 4, ground := Ground.chain }], guard := none }) rfl (fun K hK => ?_) AllReadyH.nil
  go_simp
  go_at_call 50
  refine (HP.out.2 _ hS.t).mono ?_
  rintro e w' ⟨rfl, b⟩
  have hS2 := hS.next b
  have hz2 := (b.block _ hS.lt).trans hz
  clear hz
  have hz := hz2
  clear hz2
  clear b hS
  try go_simp
  refine hK.out _ _ hS2 (fun hS => ?_)
  clear hK K hS2
  refine wpAnyH_ready (rs := [6]) (by kernel_rfl) (by simp) ?_
  refine AllReadyH.cons (o := { dst := none, op := Op.store 26 (Operand.tmp 4) (Operand.tmp 10), type := 0, pos := "ratio.go:81", after := #[{ on := 5, ground := Ground.data }, { on := 5, ground := Ground.chain }, { on := 0, ground := Ground.phase }, { on := 1, ground := Ground.phase }, { on := 2, ground := Ground.phase }, { on := 3, ground := Ground.phase }, { on := 4, ground := Ground.phase }, { on := 5, ground := Ground.phase }], guard := none }) rfl (fun K hK => ?_) AllReadyH.nil
  rw [if_pos (by rfl)]
  refine wp_store_row 26 (.tmp 4) (.tmp 10) rfl (w.heap.size + 2) (qcells (a - b)) (by first | rfl | (simp [Act.eval])) (by first | rfl | (simp [Act.eval])) 26 zrow hz info26.out rfl (qone _) ?_
  have hS2 := hS.store HT.out (qcells (a - b))
  clear hS
  refine hK.out _ _ hS2 (fun hS => ?_)
  clear hK K hS2
  refine wpAnyH_done (by kernel_rfl) ?_ _
  go_wp2
  refine bodyPost_ret (results_cell_row rfl _ _ (w.heap.size + 2) _ (qcells (a - b)) _ _ rfl (setRow_heap _ _ _ _ _ _ hz) Tryz.underlying26 rfl info26.out) rfl ?_
  exact ⟨rfl, hS.b⟩
end Go.Proofs.YteccbedmpjeamaaGreatDoor
namespace Go.Proofs.YteccbedmpjeamaaGreatDoor
open Go.RowKit NM QM
/-- a number and a block for the result; the tables -/
structure D1 (w : World) (ca : Array Value) (W : World) : Prop where
  a : W.heap[w.heap.size]? = some (.cells ca 26 (0, 0))
  z : W.heap[w.heap.size + 1]? = some (.cells zrow 26 (0, 0))
  lt : w.heap.size + 1 < W.heap.size
  b : Below w.heap.size w W
  t : Tb W
theorem D1.next {w u v : World} {ca : Array Value} (h : D1 w ca u) (k : Below u.heap.size u v) : D1 w ca v :=
  ⟨(k.block _ (by have := h.lt; omega)).trans h.a, (k.block _ h.lt).trans h.z, Nat.lt_of_lt_of_le h.lt k.size, h.b.trans (k.mono h.b.size), h.t.below k⟩
theorem d1_start (w : World) (ca : Array Value) (hw : Tb w) : D1 w ca ((w.alloc (.cells ca 26)).alloc (.cells zrow 26)) := by
  have hb : Below w.heap.size w ((w.alloc (.cells ca 26)).alloc (.cells zrow 26)) := ((Below.refl _ w).alloc (Nat.le_refl _) _).alloc (by simp) _
  exact ⟨heap_alloc2_old _ _ _, heap_alloc2_new _ _ _, by simp, hb, hw.below hb⟩
set_option maxRecDepth 100000 in
set_option maxHeartbeats 4000000 in
theorem qNeg (w : World) (g : Bool) (A B : ByteArray) (N : Nat) (hA : A.size ≤ N) (hB : B.size ≤ N) (hN : N ≤ 1000000) (hT : Tb w) :
    Calls Tryz.prog 24 #[RW g A B] w fun e w' => e = .returned (QV (-rvq g A B)) ∧ Below w.heap.size w w' := by
  have V1 := fun W (h : Tb W) => valid_any W g A B N hA hB hN h
  generalize rvq g A B = a at *
  have P1 := fun W => minus_q W a
  have h0 := d1_start w (rrow g A B) hT
  obtain ⟨W, hW⟩ : ∃ W, (w.alloc (.cells (rrow g A B) 26)).alloc (.cells zrow 26) = W := ⟨_, rfl⟩
  rw [hW] at h0
  unfold QV at *
  have HP := Lib.hid (And.intro V1 P1)
  have HW := Lib.hid (And.intro hW h0)
  have c0 : W.cell? ⟨w.heap.size, 0, none⟩ = some (.bool g) := cell_of_row _ _ 0 _ _ _ h0.a
  have c1 : W.cell? ⟨w.heap.size, 1, none⟩ = some (.string A) := cell_of_row _ _ 1 _ _ _ h0.a
  have c2 : W.cell? ⟨w.heap.size, 2, none⟩ = some (.string B) := cell_of_row _ _ 2 _ _ _ h0.a
  clear V1 P1 hW h0 hT
  unfold RW
  go_enter Tryz.func24, Tryz.ntmps24
  go_upto_region 1 with fail
  change Code.wp _ _ _ _ ((w.alloc (.cells (rrow g A B) 26)).alloc (.cells zrow 26))
  rw [HW.out.1]
  go_wp2_with fail
  refine (HP.out.1 _ HW.out.2.t).mono ?_
  rintro e w1 ⟨rfl, b1⟩
  have H1 := Lib.hid (HW.out.2.next b1); clear b1
  go_wp2_with fail
  refine (HP.out.2 _).mono ?_
  rintro e w2 ⟨rfl, b2⟩
  have H2 := Lib.hid (H1.out.next b2); clear b2
  go_wp2_with (refine wpList_store_row rfl 26 (.tmp 2) (.tmp 5) rfl (w.heap.size + 1) (qcells (-a)) rfl rfl 26 zrow H2.out.z info26.out rfl (qone _) ?_)
  refine bodyPost_ret (results_cell_row rfl _ _ (w.heap.size + 1) _ (qcells (-a)) _ _ rfl (setRow_heap _ _ _ _ _ _ H2.out.z) Tryz.underlying26 rfl info26.out) rfl ?_
  exact ⟨rfl, Below.setRow' H2.out.b (by omega) _⟩
theorem intq (n : Int) : QV (n : Rat) = .agg #[.bool (decide (n < 0)), .string (NB n.natAbs), .string ⟨#[1]⟩] := by
  unfold QV qcells
  rw [Rat.num_intCast, Rat.den_intCast, NB_one]
theorem sv_one : sv ⟨#[1]⟩ = 1 := by rfl
set_option maxRecDepth 100000 in
set_option maxHeartbeats 4000000 in
theorem qOf (w : World) (n : Int) (h1 : -9223372036854775808 ≤ n) (h2 : n ≤ 9223372036854775807) :
    Calls Tryz.prog 36 #[.int .i64 n] w fun e w' => e = .returned (QV (n : Rat)) ∧ Below w.heap.size w w' := by
  rw [intq]
  have hs := z1_start w
  obtain ⟨W, hW⟩ : ∃ W, w.alloc (.cells zrow 26) = W := ⟨_, rfl⟩
  rw [hW] at hs
  have HW := Lib.hid (And.intro hW hs)
  clear hW hs
  by_cases h : n < 0
  · have e0 : decide (n < 0) = true := decide_eq_true h
    obtain ⟨m, hm⟩ : ∃ m : Nat, (m : Int) = -(n + 1) := ⟨(-(n + 1)).toNat, by omega⟩
    have O1 := fun W => Of_pos W m (by omega)
    have A1 := fun W => Add_any W (NB m) ⟨#[1]⟩ (Nat.le_trans (NB_size (show m < 256^8 by omega)) (by omega)) (by decide)
    rw [sv_NB, sv_one, show m + 1 = n.natAbs by omega] at A1
    rw [hm] at O1
    have w1 := IntWalk.i64_in (n + 1) (by omega)
    have w2 := IntWalk.i64_in (-(n + 1)) (by omega)
    rw [e0]
    generalize NB m = M at *
    generalize NB n.natAbs = R at *
    have HO := Lib.hid (And.intro O1 A1)
    have HM := Lib.hid hm
    clear O1 A1 hm
    go_enter Tryz.func36, Tryz.ntmps36
    go_upto_region 1 with fail
    change Code.wp _ _ _ _ (w.alloc (.cells zrow 26))
    rw [HW.out.1]
    go_wp2_with fail
    refine (HO.out.1 _).mono ?_
    rintro e w1 ⟨rfl, b1⟩
    have H1 := Lib.hid (HW.out.2.next b1); clear b1
    go_wp2_with fail
    refine (HO.out.2 _).mono ?_
    rintro e w2 ⟨rfl, b2⟩
    have H2 := Lib.hid (H1.out.next b2); clear b2
    go_wp2_with (refine wpList_store_row rfl 26 (.tmp 2) (.tmp 10) rfl w.heap.size #[.bool true, .string R, .string ⟨#[1]⟩] rfl rfl 26 zrow H2.out.z info26.out rfl (by simp [Value.oneCell']) ?_)
    refine bodyPost_ret (results_cell_row rfl _ _ w.heap.size _ #[.bool true, .string R, .string ⟨#[1]⟩] _ _ rfl (setRow_heap _ _ _ _ _ _ H2.out.z) Tryz.underlying26 rfl info26.out) rfl ?_
    exact ⟨rfl, Below.setRow' H2.out.b (Nat.le_refl _) _⟩
  · have e0 : decide (n < 0) = false := decide_eq_false h
    obtain ⟨m, rfl⟩ : ∃ m : Nat, n = (m : Int) := ⟨n.toNat, by omega⟩
    have O1 := fun W => Of_pos W m (by omega)
    rw [e0, Int.natAbs_natCast]
    generalize NB m = M at *
    have HO := Lib.hid O1
    clear O1 e0
    go_enter Tryz.func36, Tryz.ntmps36
    go_upto_region 1 with fail
    change Code.wp _ _ _ _ (w.alloc (.cells zrow 26))
    rw [HW.out.1]
    go_wp2_with fail
    refine (HO.out _).mono ?_
    rintro e w1 ⟨rfl, b1⟩
    have H1 := Lib.hid (HW.out.2.next b1); clear b1
    go_wp2_with (refine wpList_store_row rfl 26 (.tmp 2) (.tmp 13) rfl w.heap.size #[.bool false, .string M, .string ⟨#[1]⟩] rfl rfl 26 zrow H1.out.z info26.out rfl (by simp [Value.oneCell']) ?_)
    refine bodyPost_ret (results_cell_row rfl _ _ w.heap.size _ #[.bool false, .string M, .string ⟨#[1]⟩] _ _ rfl (setRow_heap _ _ _ _ _ _ H1.out.z) Tryz.underlying26 rfl info26.out) rfl ?_
    exact ⟨rfl, Below.setRow' H1.out.b (Nat.le_refl _) _⟩
/-- a store into the second block -/
theorem D2.storeB {w u : World} {ca cb : Array Value} (h : D2 w ca cb u) (hw : Tb w) (cs : Array Value) : D2 w ca cs (u.setRow (w.heap.size + 1) cs) :=
  ⟨(setRow_other _ _ _ _ (by omega)).trans h.a, setRow_heap _ _ _ _ _ _ h.c, by have := h.lt; rw [show (u.setRow (w.heap.size + 1) cs).heap.size = u.heap.size by simp]; exact this, Below.setRow' h.b (by omega) _,
    hw.below (Below.setRow' h.b (by omega) _)⟩
theorem D2.storeA {w u : World} {ca cb : Array Value} (h : D2 w ca cb u) (hw : Tb w) (cs : Array Value) : D2 w cs cb (u.setRow w.heap.size cs) :=
  ⟨setRow_heap _ _ _ _ _ _ h.a, (setRow_other _ _ _ _ (by omega)).trans h.c, by have := h.lt; rw [show (u.setRow w.heap.size cs).heap.size = u.heap.size by simp]; exact this, Below.setRow' h.b (Nat.le_refl _) _,
    hw.below (Below.setRow' h.b (Nat.le_refl _) _)⟩
theorem inv_cells (b : Rat) (hb : b ≠ 0) : qcells (b⁻¹) = #[.bool (decide (b.num < 0)), .string (NB b.den), .string (NB b.num.natAbs)] := by
  unfold qcells; rw [inv_neg b hb, inv_numAbs b hb, inv_denN b hb]
theorem inv_small {N : Nat} {b : Rat} (h : SmQ N b) (hb : b ≠ 0) : SmQ N b⁻¹ := ⟨by rw [inv_numAbs b hb]; exact h.2, by rw [inv_denN b hb]; exact h.1⟩
theorem zc_q : qcells 0 = zc := by have h := QV_zero; unfold QV at h; injection h
set_option maxRecDepth 100000 in
set_option maxHeartbeats 4000000 in
theorem qQuo0 (w : World) (g1 g2 : Bool) (A1 B1 A2 B2 : ByteArray) (N : Nat) (hA2 : A2.size ≤ N) (hB2 : B2.size ≤ N) (hN : N ≤ 1000000) (hT : Tb w) (hb : rvq g2 A2 B2 = 0) :
    Calls Tryz.prog 12 #[RW g1 A1 B1, RW g2 A2 B2] w fun e w' => e = .returned (.tuple #[.agg zrow, .bool false]) ∧ Below w.heap.size w w' := by
  have V2 := fun W (h : Tb W) => valid_any W g2 A2 B2 N hA2 hB2 hN h
  rw [hb] at V2
  have h0 := d2_start w (rrow g1 A1 B1) (rrow g2 A2 B2) hT
  have hz := d2_z w (rrow g1 A1 B1) (rrow g2 A2 B2)
  obtain ⟨W, hW⟩ : ∃ W, ((w.alloc (.cells (rrow g1 A1 B1) 26)).alloc (.cells (rrow g2 A2 B2) 26)).alloc (.cells zrow 26) = W := ⟨_, rfl⟩
  rw [hW] at h0 hz
  rw [QV_zero] at V2
  have HV := Lib.hid V2
  have HW := Lib.hid (And.intro hW (And.intro h0 hz))
  have HT := Lib.hid hT
  clear V2 hW hz hT hb
  have c0 : W.cell? ⟨w.heap.size + 1, 0, none⟩ = some (.bool g2) := cell_of_row _ _ 0 _ _ _ h0.c
  have c1 : W.cell? ⟨w.heap.size + 1, 1, none⟩ = some (.string A2) := cell_of_row _ _ 1 _ _ _ h0.c
  have c2 : W.cell? ⟨w.heap.size + 1, 2, none⟩ = some (.string B2) := cell_of_row _ _ 2 _ _ _ h0.c
  clear h0
  unfold RW
  go_enter Tryz.func12, Tryz.ntmps12
  go_upto_region 1 with fail
  change Code.wp _ _ _ _ (((w.alloc (.cells (rrow g1 A1 B1) 26)).alloc (.cells (rrow g2 A2 B2) 26)).alloc (.cells zrow 26))
  rw [HW.out.1]
  go_wp2_with fail
  refine (HV.out _ HW.out.2.1.t).mono ?_
  rintro e w1 ⟨rfl, b1⟩
  have H1 := Lib.hid (HW.out.2.1.next b1)
  have Z1 := Lib.hid ((b1.block _ HW.out.2.1.lt).trans HW.out.2.2); clear b1
  go_upto_region 2 with (refine wpList_store_row rfl 26 (.tmp 3) (.tmp 7) rfl (w.heap.size + 1) zc rfl rfl 26 (rrow g2 A2 B2) H1.out.c info26.out rfl zcone ?_)
  have H2 := H1.out.storeB HT.out zc
  have Z2 := Lib.hid ((setRow_other w1 (w.heap.size + 1) (w.heap.size + 2) zc (by omega)).trans Z1.out)
  generalize w1.setRow (w.heap.size + 1) zc = Y at *
  obtain ⟨z0, z1, z2⟩ := H2.t.z
  have d0 : Y.cell? ⟨w.heap.size + 1, 0, none⟩ = some (.bool false) := cell_of_row _ _ 0 _ _ _ H2.c
  have d1 : Y.cell? ⟨w.heap.size + 1, 1, none⟩ = some (.string ⟨#[]⟩) := cell_of_row _ _ 1 _ _ _ H2.c
  have d2 : Y.cell? ⟨w.heap.size + 1, 2, none⟩ = some (.string ⟨#[1]⟩) := cell_of_row _ _ 2 _ _ _ H2.c
  have HB := Lib.hid H2.b
  clear H2 H1 Z1
  go_wp2_with (refine wpList_store_row rfl 26 (.tmp 4) (.tmp 11) rfl (w.heap.size + 2) zrow rfl rfl 26 zrow Z2.out info26.out rfl zone ?_)
  refine bodyPost_ret (results_row_tmp rfl _ _ (w.heap.size + 2) _ zrow _ _ rfl (setRow_heap _ _ _ _ _ _ Z2.out) Tryz.underlying26 rfl infoz.out) rfl ?_
  exact ⟨rfl, Below.setRow' HB.out (by omega) _⟩
theorem nz_parts {b : Rat} (hb : b ≠ 0) : ¬ ((NB b.num.natAbs).toList = []) := by
  intro h
  have h1 := str_ne (A := NB b.num.natAbs) (B := ⟨#[]⟩) (l := []) rfl (fun e => hb (Rat.num_eq_zero.1 (Int.natAbs_eq_zero.1 (NB_inj (e.trans NB_zero.symm)))))
  rw [h] at h1; exact absurd h1 (by decide)
set_option maxRecDepth 100000 in
set_option maxHeartbeats 8000000 in
theorem qQuo1 (w : World) (g1 g2 : Bool) (A1 B1 A2 B2 : ByteArray) (N : Nat) (hA1 : A1.size ≤ N) (hB1 : B1.size ≤ N) (hA2 : A2.size ≤ N) (hB2 : B2.size ≤ N) (hN1 : 1 ≤ N) (hN : N ≤ 1000000) (hT : Tb w) (hb : rvq g2 A2 B2 ≠ 0) :
    Calls Tryz.prog 12 #[RW g1 A1 B1, RW g2 A2 B2] w fun e w' => e = .returned (.tuple #[QV (rvq g1 A1 B1 / rvq g2 A2 B2), .bool true]) ∧ Below w.heap.size w w' := by
  have V1 := fun W (h : Tb W) => valid_any W g1 A1 B1 N hA1 hB1 hN h
  have V2 := fun W (h : Tb W) => valid_any W g2 A2 B2 N hA2 hB2 hN h
  have s1 := SmQ_rvq g1 A1 B1 N hA1 hB1 hN1
  have s2 := SmQ_rvq g2 A2 B2 N hA2 hB2 hN1
  generalize rvq g1 A1 B1 = a at *
  generalize rvq g2 A2 B2 = b at *
  have PP := fun W (h : Tb W) => times_q W a b⁻¹ N s1 (inv_small s2 hb) hN h.t h.g
  rw [← Rat.div_def] at PP
  unfold QV at *
  rw [inv_cells b hb] at PP
  have hne := nz_parts hb
  have h0 := d2_start w (rrow g1 A1 B1) (rrow g2 A2 B2) hT
  have hz := d2_z w (rrow g1 A1 B1) (rrow g2 A2 B2)
  obtain ⟨W, hW⟩ : ∃ W, ((w.alloc (.cells (rrow g1 A1 B1) 26)).alloc (.cells (rrow g2 A2 B2) 26)).alloc (.cells zrow 26) = W := ⟨_, rfl⟩
  rw [hW] at h0 hz
  have HV := Lib.hid (And.intro V1 V2)
  have HP := Lib.hid PP
  have HW := Lib.hid (And.intro hW (And.intro h0 hz))
  have HT := Lib.hid hT
  clear V1 V2 PP s1 s2 hW hz hT hb
  have c0 : W.cell? ⟨w.heap.size + 1, 0, none⟩ = some (.bool g2) := cell_of_row _ _ 0 _ _ _ h0.c
  have c1 : W.cell? ⟨w.heap.size + 1, 1, none⟩ = some (.string A2) := cell_of_row _ _ 1 _ _ _ h0.c
  have c2 : W.cell? ⟨w.heap.size + 1, 2, none⟩ = some (.string B2) := cell_of_row _ _ 2 _ _ _ h0.c
  clear h0
  unfold RW
  go_enter Tryz.func12, Tryz.ntmps12
  go_upto_region 1 with fail
  change Code.wp _ _ _ _ (((w.alloc (.cells (rrow g1 A1 B1) 26)).alloc (.cells (rrow g2 A2 B2) 26)).alloc (.cells zrow 26))
  rw [HW.out.1]
  go_wp2_with fail
  refine (HV.out.2 _ HW.out.2.1.t).mono ?_
  rintro e w1 ⟨rfl, b1⟩
  have H1 := Lib.hid (HW.out.2.1.next b1)
  have Z1 := Lib.hid ((b1.block _ HW.out.2.1.lt).trans HW.out.2.2); clear b1
  go_upto_region 2 with (refine wpList_store_row rfl 26 (.tmp 3) (.tmp 7) rfl (w.heap.size + 1) (qcells b) rfl rfl 26 (rrow g2 A2 B2) H1.out.c info26.out rfl (qone _) ?_)
  have H2 := H1.out.storeB HT.out (qcells b)
  have Z2 := Lib.hid ((setRow_other w1 (w.heap.size + 1) (w.heap.size + 2) (qcells b) (by omega)).trans Z1.out)
  generalize w1.setRow (w.heap.size + 1) (qcells b) = Y at *
  obtain ⟨z0, z1, z2⟩ := H2.t.z
  have d0 : Y.cell? ⟨w.heap.size + 1, 0, none⟩ = some (.bool (decide (b.num < 0))) := cell_of_row _ _ 0 _ _ _ H2.c
  have d1 : Y.cell? ⟨w.heap.size + 1, 1, none⟩ = some (.string (NB b.num.natAbs)) := cell_of_row _ _ 1 _ _ _ H2.c
  have d2 : Y.cell? ⟨w.heap.size + 1, 2, none⟩ = some (.string (NB b.den)) := cell_of_row _ _ 2 _ _ _ H2.c
  have HS := Lib.hid H2
  clear H2 H1 Z1 HW
  go_upto_region 4 with fail
  all_goals clear d0 d1 d2 z0 z1 z2 c0 c1 c2
  all_goals have hz : Y.drew.heap[w.heap.size + 2]? = _ := Z2.out
  all_goals refine wp_region_held_drew (S := D2 w (rrow g1 A1 B1) (qcells b)) (by kernel_rfl) HS.out.drew (fun hS => ?_)
  refine wpAnyH_take (i := 0) (oi := { dst := some 12, op := Op.load 26 (Operand.tmp 2), type := 26, pos := "ratio.go:95", after := #[], guard := none }) (v := .agg (rrow g1 A1 B1)) rfl (by kernel_rfl) (by kernel_rfl) (by kernel_rfl) (fun _ _ _ h => h) (Or.inl ⟨by rfl, ?yqu0⟩) hS ?rqu0
  case yqu0 => exact fun w' hS => exec_load_row w' 26 (.tmp 2) rfl w.heap.size (by first | rfl | (simp [Act.eval])) 26 (rrow g1 A1 B1) (0, 0) _ hS.a Tryz.underlying26 rfl info26.out
  refine wpAnyH_take (i := 2) (oi := { dst := some 14, op := Op.fieldAddr 26 (Operand.tmp 3) 0, type := 0, pos := "ratio.go:95", after := #[], guard := none }) (v := ?vqu2) rfl (by kernel_rfl) (by kernel_rfl) (by kernel_rfl) (fun _ _ _ h => h) (Or.inl ⟨by rfl, ?yqu2⟩) hS ?rqu2
  case yqu2 => (intro w hS; go_simp; try with_reducible rfl)
  refine wpAnyH_take (i := 4) (oi := { dst := some 16, op := Op.fieldAddr 26 (Operand.tmp 3) 2, type := 0, pos := "ratio.go:95", after := #[], guard := none }) (v := ?vqu4) rfl (by kernel_rfl) (by kernel_rfl) (by kernel_rfl) (fun _ _ _ h => h) (Or.inl ⟨by rfl, ?yqu4⟩) hS ?rqu4
  case yqu4 => (intro w hS; go_simp; try with_reducible rfl)
  refine wpAnyH_take (i := 6) (oi := { dst := some 18, op := Op.fieldAddr 26 (Operand.tmp 3) 1, type := 0, pos := "ratio.go:95", after := #[], guard := none }) (v := ?vqu6) rfl (by kernel_rfl) (by kernel_rfl) (by kernel_rfl) (fun _ _ _ h => h) (Or.inl ⟨by rfl, ?yqu6⟩) hS ?rqu6
  case yqu6 => (intro w hS; go_simp; try with_reducible rfl)
  go_simp
  refine wpAnyH_take (i := 3) (oi := { dst := some 15, op := Op.load 4 (Operand.tmp 14), type := 4, pos := "ratio.go:95", after := #[{ on := 2, ground := Ground.data }], guard := none }) (v := .bool (decide (b.num < 0))) rfl (by kernel_rfl) (by kernel_rfl) (by kernel_rfl) (fun _ _ _ h => h) (Or.inl ⟨by rfl, ?yqu3⟩) hS ?rqu3
  case yqu3 => (intro w' hS; have cf := (show w'.cell? ⟨(w.heap.size + 1), 0, none⟩ = some (.bool (decide (b.num < 0))) from cell_of_row _ _ 0 _ _ _ hS.c); go_simp; try with_reducible rfl)
  refine wpAnyH_take (i := 5) (oi := { dst := some 17, op := Op.load 24 (Operand.tmp 16), type := 24, pos := "ratio.go:95", after := #[{ on := 4, ground := Ground.data }], guard := none }) (v := .string (NB b.den)) rfl (by kernel_rfl) (by kernel_rfl) (by kernel_rfl) (fun _ _ _ h => h) (Or.inl ⟨by rfl, ?yqu5⟩) hS ?rqu5
  case yqu5 => (intro w' hS; have cf := (show w'.cell? ⟨(w.heap.size + 1), 2, none⟩ = some (.string (NB b.den)) from cell_of_row _ _ 2 _ _ _ hS.c); go_simp; try with_reducible rfl)
  refine wpAnyH_take (i := 7) (oi := { dst := some 19, op := Op.load 24 (Operand.tmp 18), type := 24, pos := "ratio.go:95", after := #[{ on := 6, ground := Ground.data }], guard := none }) (v := .string (NB b.num.natAbs)) rfl (by kernel_rfl) (by kernel_rfl) (by kernel_rfl) (fun _ _ _ h => h) (Or.inl ⟨by rfl, ?yqu7⟩) hS ?rqu7
  case yqu7 => (intro w' hS; have cf := (show w'.cell? ⟨(w.heap.size + 1), 1, none⟩ = some (.string (NB b.num.natAbs)) from cell_of_row _ _ 1 _ _ _ hS.c); go_simp; try with_reducible rfl)
  go_simp
  refine wpAnyH_take (i := 8) (oi := { dst := some 20, op := Op.build 26 #[(0, Operand.tmp 15), (1, Operand.tmp 17), (2, Operand.tmp 19)], type := 26, pos := "ratio.go:95", after := #[{ on := 3, ground := Ground.data }, { on := 5, ground := Ground.data }, { on := 7, ground := Ground.data }], guard := none }) (v := ?vqu8) rfl (by kernel_rfl) (by kernel_rfl) (by kernel_rfl) (fun _ _ _ h => h) (Or.inl ⟨by rfl, ?yqu8⟩) hS ?rqu8
  case yqu8 => (intro w hS; go_simp; try with_reducible rfl)
  go_simp
  refine wpAnyH_ready (rs := [1]) (by kernel_rfl) (by simp) ?_
  refine AllReadyH.cons (o := { dst := some 13, op := Op.call { callee := Callee.value (Operand.func 47), args := #[Operand.tmp 12], argTypes := #[26] }, type := 26, pos := "ratio.go:95", after := #[{ on := 0, ground := Ground.data }], guard := none }) rfl (fun K hK => ?_) AllReadyH.nil
  go_simp
  go_at_call 47
  refine (HV.out.1 _ hS.t).mono ?_
  rintro e w' ⟨rfl, b⟩
  have hS2 := hS.next b
  have hz2 := (b.block _ hS.lt).trans hz
  clear hz
  have hz := hz2
  clear hz2
  clear b hS
  try go_simp
  refine hK.out _ _ hS2 (fun hS => ?_)
  clear hK K hS2
  refine wpAnyH_ready (rs := [9]) (by kernel_rfl) (by simp) ?_
  refine AllReadyH.cons (o := { dst := some 21, op := Op.call { callee := Callee.value (Operand.func 48), args := #[Operand.tmp 13, Operand.tmp 20], argTypes := #[26, 26] }, type := 26, pos := "ratio.go:95", after := #[{ on := 1, ground := Ground.data }, { on := 8, ground := Ground.data }, { on := 1, ground := Ground.chain }], guard := none }) rfl (fun K hK => ?_) AllReadyH.nil
  go_simp
  go_at_call 48
  refine (HP.out _ hS.t).mono ?_
  rintro e w' ⟨rfl, b⟩
  have hS2 := hS.next b
  have hz2 := (b.block _ hS.lt).trans hz
  clear hz
  have hz := hz2
  clear hz2
  clear b hS
  try go_simp
  refine hK.out _ _ hS2 (fun hS => ?_)
  clear hK K hS2
  refine wpAnyH_ready (rs := [10]) (by kernel_rfl) (by simp) ?_
  refine AllReadyH.cons (o := { dst := none, op := Op.store 26 (Operand.tmp 4) (Operand.tmp 21), type := 0, pos := "ratio.go:95", after := #[{ on := 9, ground := Ground.data }, { on := 9, ground := Ground.chain }, { on := 0, ground := Ground.phase }, { on := 1, ground := Ground.phase }, { on := 2, ground := Ground.phase }, { on := 3, ground := Ground.phase }, { on := 4, ground := Ground.phase }, { on := 5, ground := Ground.phase }, { on := 6, ground := Ground.phase }, { on := 7, ground := Ground.phase }, { on := 8, ground := Ground.phase }, { on := 9, ground := Ground.phase }], guard := none }) rfl (fun K hK => ?_) AllReadyH.nil
  rw [if_pos (by rfl)]
  refine wp_store_row 26 (.tmp 4) (.tmp 21) rfl (w.heap.size + 2) (qcells (a / b)) (by first | rfl | (simp [Act.eval])) (by first | rfl | (simp [Act.eval])) 26 zrow hz info26.out rfl (qone _) ?_
  have hS2 := hS.store HT.out (qcells (a / b))
  clear hS
  refine hK.out _ _ hS2 (fun hS => ?_)
  clear hK K hS2
  refine wpAnyH_take (i := 11) (oi := { dst := some 5, op := Op.assign (Operand.const (Value.bool true)), type := 4, pos := "ratio.go:95", after := #[{ on := 10, ground := Ground.chain }, { on := 0, ground := Ground.phase }, { on := 1, ground := Ground.phase }, { on := 2, ground := Ground.phase }, { on := 3, ground := Ground.phase }, { on := 4, ground := Ground.phase }, { on := 5, ground := Ground.phase }, { on := 6, ground := Ground.phase }, { on := 7, ground := Ground.phase }, { on := 8, ground := Ground.phase }, { on := 9, ground := Ground.phase }, { on := 10, ground := Ground.phase }], guard := none }) (v := ?vqu11) rfl (by kernel_rfl) (by kernel_rfl) (by kernel_rfl) (fun _ _ _ h => h) (Or.inl ⟨by rfl, ?yqu11⟩) hS ?rqu11
  case yqu11 => (intro w hS; go_simp; try with_reducible rfl)
  refine wpAnyH_done (by kernel_rfl) ?_ _
  go_wp2
  refine bodyPost_ret (results_row_tmp rfl _ _ (w.heap.size + 2) _ (qcells (a / b)) _ _ rfl (setRow_heap _ _ _ _ _ _ hz) Tryz.underlying26 rfl info26.out) rfl ?_
  exact ⟨rfl, hS.b⟩
end Go.Proofs.YteccbedmpjeamaaGreatDoor
namespace Go.Proofs.YteccbedmpjeamaaGreatDoor
open Go.RowKit NM QM
theorem rof_q (w : World) (n : Int) (b : ByteArray) (h : NB n.toNat = b) (h1 : -9223372036854775808 ≤ n) (h2 : n < 9223372036854775808) :
    Calls Tryz.prog 34 #[.int .i64 n] w fun e w' => e = .returned (.string b) ∧ Below w.heap.size w w' := by
  rw [← h]; exact RefOf_any w n h1 h2
theorem rone_q (w : World) : Calls Tryz.prog 34 #[.int .i64 1] w fun e w' => e = .returned (.string ⟨#[1]⟩) ∧ Below w.heap.size w w' :=
  rof_q w 1 _ NB_one (by decide) (by decide)
theorem NB_bigR {x N : Nat} (hx : x < 256^N) (hN : N ≤ 4000000) : (NB x).size ≤ 1000000000 := Nat.le_trans (NB_size hx) (by omega)
theorem rgcd_q (w : World) (x y N : Nat) (hx : x < 256^N) (hy : y < 256^N) (hN : N ≤ 4000000) :
    Calls Tryz.prog 58 #[.string (NB x), .string (NB y)] w fun e w' => e = .returned (.string (NB (x.gcd y))) ∧ Below w.heap.size w w' := by
  have h := RefGcd_any w (NB x) (NB y) (NB_bigR hx hN) (NB_bigR hy hN)
  unfold GcdV at h
  rwa [sv_NB, sv_NB] at h
theorem rquo_q (w : World) (x y N : Nat) (hx : x < 256^N) (hy : y < 256^N) (hN : N ≤ 4000000) (h0 : y ≠ 0) :
    Calls Tryz.prog 74 #[.string (NB x), .string (NB y)] w fun e w' => e = .returned (.tuple #[.string (NB (x / y)), .string (NB (x % y)), .bool true]) ∧ Below w.heap.size w w' := by
  have h := RefQuo_any w (NB x) (NB y) (NB_bigR hx hN) (NB_bigR hy hN)
  unfold QuoV at h
  rwa [sv_NB, sv_NB, if_neg h0] at h
theorem rmul_q (w : World) (x y N : Nat) (hx : x < 256^N) (hy : y < 256^N) (hN : N ≤ 4000000) :
    Calls Tryz.prog 45 #[.string (NB x), .string (NB y)] w fun e w' => e = .returned (.string (NB (x * y))) ∧ Below w.heap.size w w' := by
  have h := RefMul_any w (NB x) (NB y) (NB_bigR hx hN) (NB_bigR hy hN)
  rwa [sv_NB, sv_NB] at h
theorem qcells_mk (g : Bool) (n d : Nat) (hd : d ≠ 0) (hn : n ≠ 0) : qcells (mk g n d) = #[.bool g, .string (NB (n / n.gcd d)), .string (NB (d / n.gcd d))] := by
  have h0 : n / n.gcd d ≠ 0 := by
    intro h
    have := Nat.div_mul_cancel (Nat.gcd_dvd_left n d)
    rw [h] at this; omega
  unfold qcells; rw [mk_neg g n d hd, mk_num g n d hd, mk_den g n d hd, decide_eq_true h0, Bool.and_true]
set_option maxRecDepth 100000 in
set_option maxHeartbeats 4000000 in
theorem lowest_q (w : World) (g : Bool) (n d N : Nat) (hn : n < 256^N) (hd : d < 256^N) (h0 : d ≠ 0) (hN : N ≤ 4000000) :
    Calls Tryz.prog 46 #[.bool g, .string (NB n), .string (NB d)] w fun e w' => e = .returned (QV (mk g n d)) ∧ Below w.heap.size w w' := by
  have hs := z1_start w
  obtain ⟨W, hW⟩ : ∃ W, w.alloc (.cells zrow 26) = W := ⟨_, rfl⟩
  rw [hW] at hs
  have HW := Lib.hid (And.intro hW hs)
  clear hW hs
  by_cases hz : n = 0
  · subst hz
    rw [mk_zero, QV_zero, NB_zero]
    have O1 := Lib.hid fun W => rone_q W
    generalize NB d = D at *
    clear hn hd h0
    go_enter Tryz.func46, Tryz.ntmps46
    go_upto_region 1 with fail
    change Code.wp _ _ _ _ (w.alloc (.cells zrow 26))
    rw [HW.out.1]
    go_wp2_with fail
    refine (O1.out _).mono ?_
    rintro e w1 ⟨rfl, b1⟩
    have H1 := Lib.hid (HW.out.2.next b1); clear b1
    go_wp2_with (refine wpList_store_row rfl 26 (.tmp 6) (.tmp 17) rfl w.heap.size zc rfl rfl 26 zrow H1.out.z info26.out rfl zcone ?_)
    refine bodyPost_ret (results_cell_row rfl _ _ w.heap.size _ zc _ _ rfl (setRow_heap _ _ _ _ _ _ H1.out.z) Tryz.underlying26 rfl info26.out) rfl ?_
    exact ⟨rfl, Below.setRow' H1.out.b (Nat.le_refl _) _⟩
  · have cp : 0 < n.gcd d := Nat.gcd_pos_of_pos_right _ (by omega)
    have cl : n.gcd d < 256^N := gcd_lt_r hd (by omega)
    have G1 := fun W' => rgcd_q W' n d N hn hd hN
    have O1 := fun W' => rquo_q W' n (n.gcd d) N hn cl hN (by omega)
    have O2 := fun W' => rquo_q W' d (n.gcd d) N hd cl hN (by omega)
    have hne : ((NB n).toList == []) = false := str_ne (B := ⟨#[]⟩) rfl (fun h => hz (NB_inj (h.trans NB_zero.symm)))
    unfold QV
    rw [qcells_mk g n d h0 hz]
    generalize NB (n / n.gcd d) = D1 at *
    generalize NB (d / n.gcd d) = D2 at *
    generalize NB (n % n.gcd d) = E1 at *
    generalize NB (d % n.gcd d) = E2 at *
    generalize NB (n.gcd d) = GC at *
    generalize NB n = A at *
    generalize NB d = B at *
    have HR := Lib.hid (And.intro G1 (And.intro O1 O2))
    clear G1 O1 O2 cp cl hn hd h0 hz
    go_enter Tryz.func46, Tryz.ntmps46
    go_upto_region 1 with fail
    change Code.wp _ _ _ _ (w.alloc (.cells zrow 26))
    rw [HW.out.1]
    go_wp2_with fail
    refine (HR.out.1 _).mono ?_
    rintro e w1 ⟨rfl, b1⟩
    have H1 := Lib.hid (HW.out.2.next b1); clear b1
    go_wp2_with fail
    refine (HR.out.2.1 _).mono ?_
    rintro e w2 ⟨rfl, b2⟩
    have H2 := Lib.hid (H1.out.next b2); clear b2
    go_wp2_with fail
    refine (HR.out.2.2 _).mono ?_
    rintro e w3 ⟨rfl, b3⟩
    have H3 := Lib.hid (H2.out.next b3); clear b3
    go_wp2_with (refine wpList_store_row rfl 26 (.tmp 6) (.tmp 38) rfl w.heap.size #[.bool g, .string D1, .string D2] rfl rfl 26 zrow H3.out.z info26.out rfl (by simp [Value.oneCell']) ?_)
    refine bodyPost_ret (results_cell_row rfl _ _ w.heap.size _ #[.bool g, .string D1, .string D2] _ _ rfl (setRow_heap _ _ _ _ _ _ H3.out.z) Tryz.underlying26 rfl info26.out) rfl ?_
    exact ⟨rfl, Below.setRow' H3.out.b (Nat.le_refl _) _⟩
/-- when a number is right, said by its parts -/
theorem okq_zero (g : Bool) (d : Nat) (hd : d ≠ 0) : okq g (NB 0) (NB d) = (!g && decide (d = 1)) := by
  unfold okq fitq
  rw [NB_rgt, NB_rgt, sv_NB, sv_NB, mk_zero, decide_eq_true hd]
  simp only [Bool.true_and]
  rw [show (0 : Rat).num = 0 from rfl, show (0 : Rat).den = 1 from rfl, show (0 : Int).natAbs = 0 from rfl]
  by_cases h1 : d = 1
  · subst h1; cases g <;> simp
  · have : ¬ NB d = NB 1 := fun h => h1 (NB_inj h)
    simp [h1, this]
theorem okq_pos (g : Bool) (n d : Nat) (hd : d ≠ 0) (hn : n ≠ 0) : okq g (NB n) (NB d) = decide (n.gcd d = 1) := by
  have h0 : n / n.gcd d ≠ 0 := by
    intro h
    have := Nat.div_mul_cancel (Nat.gcd_dvd_left n d)
    rw [h] at this; omega
  unfold okq fitq
  rw [NB_rgt, NB_rgt, sv_NB, sv_NB, mk_neg g n d hd, mk_num g n d hd, mk_den g n d hd, decide_eq_true h0, decide_eq_true hd]
  simp only [Bool.true_and, Bool.and_true]
  refine decide_eq_decide.2 ⟨fun ⟨_, h2, _⟩ => ?_, fun h => by rw [h, Nat.div_one, Nat.div_one]; simp⟩
  have h3 := NB_inj h2
  have h4 := Nat.div_mul_cancel (Nat.gcd_dvd_left n d)
  rw [← h3] at h4
  have h5 : n * n.gcd d = n * 1 := by omega
  exact Nat.eq_of_mul_eq_mul_left (by omega) h5
theorem R1.drew {w u : World} {cs : Array Value} (h : R1 w cs u) : R1 w cs u.drew := ⟨h.r, h.lt, h.b.drew⟩
theorem cmp_one (d : Nat) : decide (cmpv d 1 = 0) = decide (d = 1) := by
  refine decide_eq_decide.2 ?_
  unfold cmpv
  by_cases h : d < 1
  · rw [if_pos h]; omega
  · rw [if_neg h]
    by_cases h2 : 1 < d
    · rw [if_pos h2]; omega
    · rw [if_neg h2]; omega
theorem rcmp1_q (w : World) (d : Nat) (N : Nat) (hd : d < 256^N) (hN : N ≤ 4000000) :
    Calls Tryz.prog 52 #[.string (NB d), .string ⟨#[1]⟩] w fun e w' => e = .returned (.int .i64 (cmpv d 1)) ∧ Below w.heap.size w w' :=
  (RefCmp_any w (NB d) ⟨#[1]⟩ (NB_big hd hN) (by decide)).mono fun e w' ⟨h1, h2⟩ => ⟨by rw [h1, sv_NB]; rfl, by rw [← h2]; exact Below.refl _ _⟩
theorem rright_q (w : World) (A : ByteArray) (r : Bool) (h : rgt A = r) : Calls Tryz.prog 57 #[.string A] w fun e w' => e = .returned (.bool r) ∧ Below w.heap.size w w' :=
  (RefRight_any w A).mono fun e w' ⟨h1, h2⟩ => ⟨by rw [h1, h], by rw [← h2]; exact Below.refl _ _⟩
set_option maxRecDepth 100000 in
set_option maxHeartbeats 4000000 in
theorem rright_no (w : World) (g : Bool) (A B : ByteArray) (h : fitq A B = false) :
    Calls Tryz.prog 27 #[RW g A B] w fun e w' => e = .returned (.bool (okq g A B)) ∧ Below w.heap.size w w' := by
  rw [okq_nofit h]
  obtain ⟨ra, hra⟩ : ∃ r, rgt A = r := ⟨_, rfl⟩
  obtain ⟨rb, hrb⟩ : ∃ r, rgt B = r := ⟨_, rfl⟩
  have RA := fun W => rright_q W A ra hra
  have RB := fun W => rright_q W B rb hrb
  have hs := r1_start w (rrow g A B)
  obtain ⟨W, hW⟩ : ∃ W, w.alloc (.cells (rrow g A B) 26) = W := ⟨_, rfl⟩
  rw [hW] at hs
  have HW := Lib.hid (And.intro hW hs)
  have HR := Lib.hid (And.intro RA RB)
  have c1 : W.cell? ⟨w.heap.size, 1, none⟩ = some (.string A) := cell_of_row _ _ 1 _ _ _ hs.r
  have hemp : ra = true → rb = true → B = ⟨#[]⟩ := by
    intro h1 h2
    unfold fitq at h
    rw [hra, hrb, h1, h2] at h
    have h3 : sv B = 0 := by simpa using h
    rw [rgt_NB (hrb.trans h2), h3, NB_zero]
  have HE := Lib.hid hemp
  clear hW hs RA RB hra hrb h hemp
  unfold RW
  go_enter Tryz.func27, Tryz.ntmps27
  go_upto_region 1 with fail
  change Code.wp _ _ _ _ (w.alloc (.cells (rrow g A B) 26))
  rw [HW.out.1]
  go_wp2_with fail
  refine (HR.out.1 _).mono ?_
  rintro e w1 ⟨rfl, b1⟩
  have H1 := Lib.hid (HW.out.2.next b1); clear b1
  have c2 : w1.cell? ⟨w.heap.size, 2, none⟩ = some (.string B) := cell_of_row _ _ 2 _ _ _ H1.out.r
  go_wp2_with fail
  refine (HR.out.2 _).mono ?_
  rintro e w2 ⟨rfl, b2⟩
  have H2 := Lib.hid (H1.out.next b2); clear b2
  have c3 : w2.cell? ⟨w.heap.size, 2, none⟩ = some (.string B) := cell_of_row _ _ 2 _ _ _ H2.out.r
  clear HR HW
  cases ra <;> cases rb
  · go_wp2
    go_ret
    exact ⟨rfl, H2.out.b⟩
  · go_wp2
    go_ret
    exact ⟨rfl, H2.out.b⟩
  · go_wp2
    go_ret
    exact ⟨rfl, H2.out.b⟩
  · have hB := HE.out rfl rfl
    subst hB
    go_wp2
    go_ret
    exact ⟨rfl, H2.out.b⟩
set_option maxRecDepth 100000 in
set_option maxHeartbeats 4000000 in
theorem rright_pos (w : World) (g : Bool) (n d N : Nat) (hn : n < 256^N) (hd : d < 256^N) (h0 : d ≠ 0) (hN : N ≤ 4000000) (hz : n ≠ 0) :
    Calls Tryz.prog 27 #[RW g (NB n) (NB d)] w fun e w' => e = .returned (.bool (okq g (NB n) (NB d))) ∧ Below w.heap.size w w' := by
  rw [okq_pos g n d h0 hz, ← cmp_one]
  have RA := fun W => rright_q W (NB n) true (NB_rgt n)
  have RB := fun W => rright_q W (NB d) true (NB_rgt d)
  have cp : 0 < n.gcd d := Nat.gcd_pos_of_pos_right _ (by omega)
  have cl : n.gcd d < 256^N := gcd_lt_r hd (by omega)
  have C1 := fun W => rgcd_q W n d N hn hd hN
  have C2 := fun W => rcmp1_q W (n.gcd d) N cl hN
  generalize cmpv (n.gcd d) 1 = z at *
  generalize NB (n.gcd d) = GC at *
  have CC := And.intro C1 C2
  clear C1 C2 cp cl
  have hne : ((NB d).toList == []) = false := str_ne (B := ⟨#[]⟩) rfl (fun h => h0 (NB_inj (h.trans NB_zero.symm)))
  have hne2 : ((NB n).toList == []) = false := str_ne (B := ⟨#[]⟩) rfl (fun h => hz (NB_inj (h.trans NB_zero.symm)))
  have hs := r1_start w (rrow g (NB n) (NB d))
  obtain ⟨W, hW⟩ : ∃ W, w.alloc (.cells (rrow g (NB n) (NB d)) 26) = W := ⟨_, rfl⟩
  rw [hW] at hs
  generalize NB n = A at *
  generalize NB d = B at *
  have HW := Lib.hid (And.intro hW hs)
  have HR := Lib.hid (And.intro RA RB)
  have HC := Lib.hid CC
  have c1 : W.cell? ⟨w.heap.size, 1, none⟩ = some (.string A) := cell_of_row _ _ 1 _ _ _ hs.r
  clear hW hs RA RB CC hd h0 hz hn
  unfold RW
  go_enter Tryz.func27, Tryz.ntmps27
  go_upto_region 1 with fail
  change Code.wp _ _ _ _ (w.alloc (.cells (rrow g A B) 26))
  rw [HW.out.1]
  go_wp2_with fail
  refine (HR.out.1 _).mono ?_
  rintro e w1 ⟨rfl, b1⟩
  have H1 := Lib.hid (HW.out.2.next b1); clear b1
  have c2 : w1.cell? ⟨w.heap.size, 2, none⟩ = some (.string B) := cell_of_row _ _ 2 _ _ _ H1.out.r
  go_wp2_with fail
  refine (HR.out.2 _).mono ?_
  rintro e w2 ⟨rfl, b2⟩
  have H2 := Lib.hid (H1.out.next b2); clear b2
  have c3 : w2.cell? ⟨w.heap.size, 1, none⟩ = some (.string A) := cell_of_row _ _ 1 _ _ _ H2.out.r
  have c4 : w2.cell? ⟨w.heap.size, 2, none⟩ = some (.string B) := cell_of_row _ _ 2 _ _ _ H2.out.r
  clear HR HW
  go_wp2_with fail
  refine (HC.out.1 _).mono ?_
  rintro e w3 ⟨rfl, b3⟩
  have H3 := Lib.hid (H2.out.next b3); clear b3
  go_wp2_with fail
  refine (rone_q _).mono ?_
  rintro e w4 ⟨rfl, b4⟩
  have H4 := Lib.hid (H3.out.next b4); clear b4
  go_wp2_with fail
  refine (HC.out.2 _).mono ?_
  rintro e w5 ⟨rfl, b5⟩
  have H5 := Lib.hid (H4.out.next b5); clear b5
  go_wp2
  go_ret
  exact ⟨by first | rfl | (congr 2; exact (Bool.beq_eq_decide_eq z 0)) | (simp; rfl) | (by_cases hz : z = 0 <;> simp [hz]), H5.out.b⟩
set_option maxRecDepth 100000 in
set_option maxHeartbeats 4000000 in
theorem rright_zero_false (w : World) (d N : Nat) (hd : d < 256^N) (h0 : d ≠ 0) (hN : N ≤ 4000000) :
    Calls Tryz.prog 27 #[RW false (NB 0) (NB d)] w fun e w' => e = .returned (.bool (okq false (NB 0) (NB d))) ∧ Below w.heap.size w w' := by
  rw [okq_zero false d h0, ← cmp_one]
  have RA := fun W => rright_q W (NB 0) true (NB_rgt 0)
  have RB := fun W => rright_q W (NB d) true (NB_rgt d)
  have C2 := fun W => rcmp1_q W d N hd hN
  generalize cmpv d 1 = z at *
  have CC := And.intro (fun W => rone_q W) C2
  clear C2
  have hne : ((NB d).toList == []) = false := str_ne (B := ⟨#[]⟩) rfl (fun h => h0 (NB_inj (h.trans NB_zero.symm)))
  have e0 : NB 0 = ⟨#[]⟩ := NB_zero
  have hs := r1_start w (rrow false (NB 0) (NB d))
  obtain ⟨W, hW⟩ : ∃ W, w.alloc (.cells (rrow false (NB 0) (NB d)) 26) = W := ⟨_, rfl⟩
  rw [hW] at hs
  rw [e0] at RA hs hW ⊢
  clear e0
  generalize NB d = B at *
  have HW := Lib.hid (And.intro hW hs)
  have HR := Lib.hid (And.intro RA RB)
  have HC := Lib.hid CC
  have c1 : W.cell? ⟨w.heap.size, 1, none⟩ = some (.string ⟨#[]⟩) := cell_of_row _ _ 1 _ _ _ hs.r
  clear hW hs RA RB CC hd h0
  unfold RW
  go_enter Tryz.func27, Tryz.ntmps27
  go_upto_region 1 with fail
  change Code.wp _ _ _ _ (w.alloc (.cells (rrow false ⟨#[]⟩ B) 26))
  rw [HW.out.1]
  go_wp2_with fail
  refine (HR.out.1 _).mono ?_
  rintro e w1 ⟨rfl, b1⟩
  have H1 := Lib.hid (HW.out.2.next b1); clear b1
  have c2 : w1.cell? ⟨w.heap.size, 2, none⟩ = some (.string B) := cell_of_row _ _ 2 _ _ _ H1.out.r
  go_wp2_with fail
  refine (HR.out.2 _).mono ?_
  rintro e w2 ⟨rfl, b2⟩
  have H2 := Lib.hid (H1.out.next b2); clear b2
  have c3 : w2.cell? ⟨w.heap.size, 1, none⟩ = some (.string ⟨#[]⟩) := cell_of_row _ _ 1 _ _ _ H2.out.r
  have c4 : w2.cell? ⟨w.heap.size, 2, none⟩ = some (.string B) := cell_of_row _ _ 2 _ _ _ H2.out.r
  clear HR HW
  go_upto_region 6 with fail
  clear c1 c2 c3 c4
  refine wp_region_held_drew (S := R1 w (rrow false ⟨#[]⟩ B)) (by kernel_rfl) H2.out.drew (fun hS => ?_)
  clear H1 H2
  refine wpAnyH_take (i := 0) (oi := { dst := some 25, op := Op.fieldAddr 26 (Operand.tmp 1) 0, type := 0, pos := "ref.go:17", after := #[], guard := none }) (v := ?vrr0) rfl (by kernel_rfl) (by kernel_rfl) (by kernel_rfl) (fun _ _ _ h => h) (Or.inl ⟨by rfl, ?yrr0⟩) hS ?rrr0
  case yrr0 => (intro w hS; go_simp; try with_reducible rfl)
  go_simp
  refine wpAnyH_take (i := 1) (oi := { dst := some 26, op := Op.load 4 (Operand.tmp 25), type := 4, pos := "ref.go:17", after := #[{ on := 0, ground := Ground.data }], guard := none }) (v := .bool false) rfl (by kernel_rfl) (by kernel_rfl) (by kernel_rfl) (fun _ _ _ h => h) (Or.inl ⟨by rfl, ?yrr1⟩) hS ?rrr1
  case yrr1 => (intro w' hS; have cf := (show w'.cell? ⟨w.heap.size, 0, none⟩ = some (.bool false) from cell_of_row _ _ 0 _ _ _ hS.r); go_simp; try with_reducible rfl)
  go_simp
  refine wpAnyH_take (i := 2) (oi := { dst := some 27, op := Op.unOp UnOp.not 4 (Operand.tmp 26), type := 4, pos := "ref.go:17", after := #[{ on := 1, ground := Ground.data }], guard := none }) (v := ?vrr2) rfl (by kernel_rfl) (by kernel_rfl) (by kernel_rfl) (fun _ _ _ h => h) (Or.inl ⟨by rfl, ?yrr2⟩) hS ?rrr2
  case yrr2 => (intro w hS; go_simp; try with_reducible rfl)
  go_simp
  refine wpAnyH_take (i := 3) (oi := { dst := some 28, op := Op.move (Operand.tmp 27), type := 4, pos := "ref.go:17", after := #[{ on := 2, ground := Ground.data }], guard := none }) (v := ?vrr3) rfl (by kernel_rfl) (by kernel_rfl) (by kernel_rfl) (fun _ _ _ h => h) (Or.inl ⟨by rfl, ?yrr3⟩) hS ?rrr3
  case yrr3 => (intro w hS; go_simp; try with_reducible rfl)
  go_simp
  refine wpAnyH_take (i := 4) (oi := { dst := some 29, op := Op.fieldAddr 26 (Operand.tmp 1) 2, type := 0, pos := "ref.go:17", after := #[{ on := 3, ground := Ground.guard }], guard := some (3, true) }) (v := ?vrr4) rfl (by kernel_rfl) (by kernel_rfl) (by kernel_rfl) (fun _ _ _ h => h) (Or.inl ⟨by rfl, ?yrr4⟩) hS ?rrr4
  case yrr4 => (intro w hS; go_simp; try with_reducible rfl)
  go_simp
  refine wpAnyH_take (i := 5) (oi := { dst := some 30, op := Op.load 24 (Operand.tmp 29), type := 24, pos := "ref.go:17", after := #[{ on := 4, ground := Ground.data }, { on := 3, ground := Ground.guard }], guard := some (3, true) }) (v := .string B) rfl (by kernel_rfl) (by kernel_rfl) (by kernel_rfl) (fun _ _ _ h => h) (Or.inl ⟨by rfl, ?yrr5⟩) hS ?rrr5
  case yrr5 => (intro w' hS; have cf := (show w'.cell? ⟨w.heap.size, 2, none⟩ = some (.string B) from cell_of_row _ _ 2 _ _ _ hS.r); go_simp; try with_reducible rfl)
  go_simp
  refine wpAnyH_ready (rs := [6]) (by kernel_rfl) (by simp) ?_
  refine AllReadyH.cons (o := { dst := some 31, op := Op.call { callee := Callee.value (Operand.func 34), args := #[Operand.const (Value.int IntKind.i64 1)], argTypes := #[3] }, type := 24, pos := "ref.go:17", after := #[{ on := 3, ground := Ground.chain }, { on := 3, ground := Ground.guard }], guard := some (3, true) }) rfl (fun K hK => ?_) AllReadyH.nil
  go_simp
  go_at_call 34
  refine (HC.out.1 _).mono ?_
  rintro e w' ⟨rfl, b⟩
  have hS2 := hS.next b
  clear b hS
  try go_simp
  refine hK.out _ _ hS2 (fun hS => ?_)
  clear hK K hS2
  refine wpAnyH_ready (rs := [7]) (by kernel_rfl) (by simp) ?_
  refine AllReadyH.cons (o := { dst := some 32, op := Op.call { callee := Callee.value (Operand.func 52), args := #[Operand.tmp 30, Operand.tmp 31], argTypes := #[24, 24] }, type := 3, pos := "ref.go:17", after := #[{ on := 5, ground := Ground.data }, { on := 6, ground := Ground.data }, { on := 6, ground := Ground.chain }, { on := 3, ground := Ground.guard }], guard := some (3, true) }) rfl (fun K hK => ?_) AllReadyH.nil
  go_simp
  go_at_call 52
  refine (HC.out.2 _).mono ?_
  rintro e w' ⟨rfl, b⟩
  have hS2 := hS.next b
  clear b hS
  try go_simp
  refine hK.out _ _ hS2 (fun hS => ?_)
  clear hK K hS2
  refine wpAnyH_take (i := 8) (oi := { dst := some 33, op := Op.binOp BinOp.eql 3 (Operand.tmp 32) (Operand.const (Value.int IntKind.i64 0)) 3, type := 4, pos := "ref.go:17", after := #[{ on := 7, ground := Ground.data }, { on := 3, ground := Ground.guard }], guard := some (3, true) }) (v := ?vrr8) rfl (by kernel_rfl) (by kernel_rfl) (by kernel_rfl) (fun _ _ _ h => h) (Or.inl ⟨by rfl, ?yrr8⟩) hS ?rrr8
  case yrr8 => (intro w hS; go_simp; try with_reducible rfl)
  go_simp
  refine wpAnyH_take (i := 9) (oi := { dst := some 34, op := Op.pick (Operand.tmp 28) (Operand.tmp 33) (Operand.const (Value.bool false)), type := 4, pos := "ref.go:17", after := #[{ on := 3, ground := Ground.data }, { on := 8, ground := Ground.data }], guard := none }) (v := ?vrr9) rfl (by kernel_rfl) (by kernel_rfl) (by kernel_rfl) (fun _ _ _ h => h) (Or.inl ⟨by rfl, ?yrr9⟩) hS ?rrr9
  case yrr9 => (intro w hS; go_simp; try with_reducible rfl)
  go_simp
  refine wpAnyH_take (i := 10) (oi := { dst := some 2, op := Op.assign (Operand.tmp 34), type := 4, pos := "ref.go:17", after := #[{ on := 9, ground := Ground.data }, { on := 7, ground := Ground.chain }, { on := 0, ground := Ground.phase }, { on := 1, ground := Ground.phase }, { on := 2, ground := Ground.phase }, { on := 3, ground := Ground.phase }, { on := 4, ground := Ground.phase }, { on := 5, ground := Ground.phase }, { on := 6, ground := Ground.phase }, { on := 7, ground := Ground.phase }, { on := 8, ground := Ground.phase }, { on := 9, ground := Ground.phase }], guard := none }) (v := ?vrr10) rfl (by kernel_rfl) (by kernel_rfl) (by kernel_rfl) (fun _ _ _ h => h) (Or.inl ⟨by rfl, ?yrr10⟩) hS ?rrr10
  case yrr10 => (intro w hS; go_simp; try with_reducible rfl)
  refine wpAnyH_done (by kernel_rfl) ?_ _
  go_wp2
  go_ret
  exact ⟨by first | rfl | (by_cases hz : z = 0 <;> simp [hz]), hS.b⟩
set_option maxRecDepth 100000 in
set_option maxHeartbeats 4000000 in
theorem rright_zero_true (w : World) (d N : Nat) (hd : d < 256^N) (h0 : d ≠ 0) (hN : N ≤ 4000000) :
    Calls Tryz.prog 27 #[RW true (NB 0) (NB d)] w fun e w' => e = .returned (.bool (okq true (NB 0) (NB d))) ∧ Below w.heap.size w w' := by
  rw [okq_zero true d h0, ← cmp_one]
  have RA := fun W => rright_q W (NB 0) true (NB_rgt 0)
  have RB := fun W => rright_q W (NB d) true (NB_rgt d)
  have C2 := fun W => rcmp1_q W d N hd hN
  generalize cmpv d 1 = z at *
  have CC := And.intro (fun W => rone_q W) C2
  clear C2
  have hne : ((NB d).toList == []) = false := str_ne (B := ⟨#[]⟩) rfl (fun h => h0 (NB_inj (h.trans NB_zero.symm)))
  have e0 : NB 0 = ⟨#[]⟩ := NB_zero
  have hs := r1_start w (rrow true (NB 0) (NB d))
  obtain ⟨W, hW⟩ : ∃ W, w.alloc (.cells (rrow true (NB 0) (NB d)) 26) = W := ⟨_, rfl⟩
  rw [hW] at hs
  rw [e0] at RA hs hW ⊢
  clear e0
  generalize NB d = B at *
  have HW := Lib.hid (And.intro hW hs)
  have HR := Lib.hid (And.intro RA RB)
  have HC := Lib.hid CC
  have c1 : W.cell? ⟨w.heap.size, 1, none⟩ = some (.string ⟨#[]⟩) := cell_of_row _ _ 1 _ _ _ hs.r
  clear hW hs RA RB CC hd h0
  unfold RW
  go_enter Tryz.func27, Tryz.ntmps27
  go_upto_region 1 with fail
  change Code.wp _ _ _ _ (w.alloc (.cells (rrow true ⟨#[]⟩ B) 26))
  rw [HW.out.1]
  go_wp2_with fail
  refine (HR.out.1 _).mono ?_
  rintro e w1 ⟨rfl, b1⟩
  have H1 := Lib.hid (HW.out.2.next b1); clear b1
  have c2 : w1.cell? ⟨w.heap.size, 2, none⟩ = some (.string B) := cell_of_row _ _ 2 _ _ _ H1.out.r
  go_wp2_with fail
  refine (HR.out.2 _).mono ?_
  rintro e w2 ⟨rfl, b2⟩
  have H2 := Lib.hid (H1.out.next b2); clear b2
  have c3 : w2.cell? ⟨w.heap.size, 1, none⟩ = some (.string ⟨#[]⟩) := cell_of_row _ _ 1 _ _ _ H2.out.r
  have c4 : w2.cell? ⟨w.heap.size, 2, none⟩ = some (.string B) := cell_of_row _ _ 2 _ _ _ H2.out.r
  clear HR HW
  go_upto_region 6 with fail
  clear c1 c2 c3 c4
  refine wp_region_held_drew (S := R1 w (rrow true ⟨#[]⟩ B)) (by kernel_rfl) H2.out.drew (fun hS => ?_)
  clear H1 H2
  refine wpAnyH_take (i := 0) (oi := { dst := some 25, op := Op.fieldAddr 26 (Operand.tmp 1) 0, type := 0, pos := "ref.go:17", after := #[], guard := none }) (v := ?vrt0) rfl (by kernel_rfl) (by kernel_rfl) (by kernel_rfl) (fun _ _ _ h => h) (Or.inl ⟨by rfl, ?yrt0⟩) hS ?rrt0
  case yrt0 => (intro w hS; go_simp; try with_reducible rfl)
  go_simp
  refine wpAnyH_take (i := 1) (oi := { dst := some 26, op := Op.load 4 (Operand.tmp 25), type := 4, pos := "ref.go:17", after := #[{ on := 0, ground := Ground.data }], guard := none }) (v := .bool true) rfl (by kernel_rfl) (by kernel_rfl) (by kernel_rfl) (fun _ _ _ h => h) (Or.inl ⟨by rfl, ?yrt1⟩) hS ?rrt1
  case yrt1 => (intro w' hS; have cf := (show w'.cell? ⟨w.heap.size, 0, none⟩ = some (.bool true) from cell_of_row _ _ 0 _ _ _ hS.r); go_simp; try with_reducible rfl)
  go_simp
  refine wpAnyH_take (i := 2) (oi := { dst := some 27, op := Op.unOp UnOp.not 4 (Operand.tmp 26), type := 4, pos := "ref.go:17", after := #[{ on := 1, ground := Ground.data }], guard := none }) (v := ?vrt2) rfl (by kernel_rfl) (by kernel_rfl) (by kernel_rfl) (fun _ _ _ h => h) (Or.inl ⟨by rfl, ?yrt2⟩) hS ?rrt2
  case yrt2 => (intro w hS; go_simp; try with_reducible rfl)
  go_simp
  refine wpAnyH_take (i := 3) (oi := { dst := some 28, op := Op.move (Operand.tmp 27), type := 4, pos := "ref.go:17", after := #[{ on := 2, ground := Ground.data }], guard := none }) (v := ?vrt3) rfl (by kernel_rfl) (by kernel_rfl) (by kernel_rfl) (fun _ _ _ h => h) (Or.inl ⟨by rfl, ?yrt3⟩) hS ?rrt3
  case yrt3 => (intro w hS; go_simp; try with_reducible rfl)
  go_simp
  refine wpAnyH_take (i := 4) (oi := { dst := some 29, op := Op.fieldAddr 26 (Operand.tmp 1) 2, type := 0, pos := "ref.go:17", after := #[{ on := 3, ground := Ground.guard }], guard := some (3, true) }) (v := undef) rfl (by kernel_rfl) (by kernel_rfl) (by kernel_rfl) (fun _ _ _ h => h) (Or.inr ⟨by rfl, rfl⟩) hS ?rrt4
  refine wpAnyH_take (i := 6) (oi := { dst := some 31, op := Op.call { callee := Callee.value (Operand.func 34), args := #[Operand.const (Value.int IntKind.i64 1)], argTypes := #[3] }, type := 24, pos := "ref.go:17", after := #[{ on := 3, ground := Ground.chain }, { on := 3, ground := Ground.guard }], guard := some (3, true) }) (v := undef) rfl (by kernel_rfl) (by kernel_rfl) (by kernel_rfl) (fun _ _ _ h => h) (Or.inr ⟨by rfl, rfl⟩) hS ?rrt6
  go_simp
  refine wpAnyH_take (i := 5) (oi := { dst := some 30, op := Op.load 24 (Operand.tmp 29), type := 24, pos := "ref.go:17", after := #[{ on := 4, ground := Ground.data }, { on := 3, ground := Ground.guard }], guard := some (3, true) }) (v := undef) rfl (by kernel_rfl) (by kernel_rfl) (by kernel_rfl) (fun _ _ _ h => h) (Or.inr ⟨by rfl, rfl⟩) hS ?rrt5
  go_simp
  refine wpAnyH_take (i := 7) (oi := { dst := some 32, op := Op.call { callee := Callee.value (Operand.func 52), args := #[Operand.tmp 30, Operand.tmp 31], argTypes := #[24, 24] }, type := 3, pos := "ref.go:17", after := #[{ on := 5, ground := Ground.data }, { on := 6, ground := Ground.data }, { on := 6, ground := Ground.chain }, { on := 3, ground := Ground.guard }], guard := some (3, true) }) (v := undef) rfl (by kernel_rfl) (by kernel_rfl) (by kernel_rfl) (fun _ _ _ h => h) (Or.inr ⟨by rfl, rfl⟩) hS ?rrt7
  go_simp
  refine wpAnyH_take (i := 8) (oi := { dst := some 33, op := Op.binOp BinOp.eql 3 (Operand.tmp 32) (Operand.const (Value.int IntKind.i64 0)) 3, type := 4, pos := "ref.go:17", after := #[{ on := 7, ground := Ground.data }, { on := 3, ground := Ground.guard }], guard := some (3, true) }) (v := undef) rfl (by kernel_rfl) (by kernel_rfl) (by kernel_rfl) (fun _ _ _ h => h) (Or.inr ⟨by rfl, rfl⟩) hS ?rrt8
  go_simp
  refine wpAnyH_take (i := 9) (oi := { dst := some 34, op := Op.pick (Operand.tmp 28) (Operand.tmp 33) (Operand.const (Value.bool false)), type := 4, pos := "ref.go:17", after := #[{ on := 3, ground := Ground.data }, { on := 8, ground := Ground.data }], guard := none }) (v := ?vrt9) rfl (by kernel_rfl) (by kernel_rfl) (by kernel_rfl) (fun _ _ _ h => h) (Or.inl ⟨by rfl, ?yrt9⟩) hS ?rrt9
  case yrt9 => (intro w hS; go_simp; try with_reducible rfl)
  go_simp
  refine wpAnyH_take (i := 10) (oi := { dst := some 2, op := Op.assign (Operand.tmp 34), type := 4, pos := "ref.go:17", after := #[{ on := 9, ground := Ground.data }, { on := 7, ground := Ground.chain }, { on := 0, ground := Ground.phase }, { on := 1, ground := Ground.phase }, { on := 2, ground := Ground.phase }, { on := 3, ground := Ground.phase }, { on := 4, ground := Ground.phase }, { on := 5, ground := Ground.phase }, { on := 6, ground := Ground.phase }, { on := 7, ground := Ground.phase }, { on := 8, ground := Ground.phase }, { on := 9, ground := Ground.phase }], guard := none }) (v := ?vrt10) rfl (by kernel_rfl) (by kernel_rfl) (by kernel_rfl) (fun _ _ _ h => h) (Or.inl ⟨by rfl, ?yrt10⟩) hS ?rrt10
  case yrt10 => (intro w hS; go_simp; try with_reducible rfl)
  refine wpAnyH_done (by kernel_rfl) ?_ _
  go_wp2
  go_ret
  exact ⟨by first | rfl | (by_cases hz : z = 0 <;> simp [hz]), hS.b⟩
theorem rright_any (w : World) (g : Bool) (A B : ByteArray) (N : Nat) (hA : A.size ≤ N) (hB : B.size ≤ N) (hN : N ≤ 4000000) :
    Calls Tryz.prog 27 #[RW g A B] w fun e w' => e = .returned (.bool (okq g A B)) ∧ Below w.heap.size w w' := by
  by_cases h : fitq A B = true
  · obtain ⟨p1, p2, p3⟩ := fit_parts h
    have hn := sv_lt256 A N hA
    have hd := sv_lt256 B N hB
    by_cases hz : sv A = 0
    · cases g
      · have := rright_zero_false w (sv B) N hd p3 hN
        rwa [← show A = NB 0 from p1.trans (by rw [hz]), ← p2] at this
      · have := rright_zero_true w (sv B) N hd p3 hN
        rwa [← show A = NB 0 from p1.trans (by rw [hz]), ← p2] at this
    · have := rright_pos w g (sv A) (sv B) N hn hd p3 hN hz
      rwa [← p1, ← p2] at this
  · exact rright_no w g A B (by simpa using h)
end Go.Proofs.YteccbedmpjeamaaGreatDoor
namespace Go.Proofs.YteccbedmpjeamaaGreatDoor
open Go.RowKit NM QM
set_option maxRecDepth 100000 in
set_option maxHeartbeats 4000000 in
theorem value_q (w : World) (g : Bool) (A B : ByteArray) (N : Nat) (hA : A.size ≤ N) (hB : B.size ≤ N) (hN : N ≤ 1000000) :
    Calls Tryz.prog 49 #[RW g A B] w fun e w' => e = .returned (QV (rvq g A B)) ∧ Below w.heap.size w w' := by
  obtain ⟨W, hW⟩ : ∃ W, (w.alloc (.cells (rrow g A B) 26)).alloc (.cells zrow 26) = W := ⟨_, rfl⟩
  have hs0 : W.heap[w.heap.size]? = some (.cells (rrow g A B) 26 (0, 0)) := by rw [← hW]; exact heap_alloc2_old _ _ _
  have hs1 : W.heap[w.heap.size + 1]? = some (.cells zrow 26 (0, 0)) := by rw [← hW]; exact heap_alloc2_new _ _ _
  have hz : W.heap.size = w.heap.size + 2 := by rw [← hW]; simp
  have hb : Below w.heap.size w W := by rw [← hW]; exact ((Below.refl w.heap.size w).alloc (Nat.le_refl _) _).alloc (by simp) _
  have c0 : W.cell? ⟨w.heap.size, 0, none⟩ = some (.bool g) := cell_of_row _ _ 0 _ _ _ hs0
  have c1 : W.cell? ⟨w.heap.size, 1, none⟩ = some (.string A) := cell_of_row _ _ 1 _ _ _ hs0
  have c2 : W.cell? ⟨w.heap.size, 2, none⟩ = some (.string B) := cell_of_row _ _ 2 _ _ _ hs0
  have EE := rright_any W g A B N hA hB (by omega)
  have HW := Lib.hid (And.intro hW (And.intro hb (And.intro hz (And.intro hs0 hs1))))
  clear hW hb hz hs0 hs1
  by_cases hk : okq g A B = true
  · have hv := Lib.hid (ok_RW hk)
    rw [hk] at EE
    have HE := Lib.hid EE
    clear hk EE
    unfold RW
    go_enter Tryz.func49, Tryz.ntmps49
    go_upto_region 1 with fail
    change Code.wp _ _ _ _ ((w.alloc (.cells (rrow g A B) 26)).alloc (.cells zrow 26))
    rw [HW.out.1]
    go_wp2_with fail
    refine HE.out.mono ?_
    rintro e w1 ⟨rfl, b1⟩
    have hr0 := (b1.block w.heap.size (by have := HW.out.2.2.1; omega)).trans HW.out.2.2.2.1
    have hr1 := (b1.block (w.heap.size + 1) (by have := HW.out.2.2.1; omega)).trans HW.out.2.2.2.2
    have d0 : w1.cell? ⟨w.heap.size, 0, none⟩ = some (.bool g) := cell_of_row _ _ 0 _ _ _ hr0
    have d1 : w1.cell? ⟨w.heap.size, 1, none⟩ = some (.string A) := cell_of_row _ _ 1 _ _ _ hr0
    have d2 : w1.cell? ⟨w.heap.size, 2, none⟩ = some (.string B) := cell_of_row _ _ 2 _ _ _ hr0
    have HB := Lib.hid (HW.out.2.1.trans (b1.mono HW.out.2.1.size))
    have HZ := Lib.hid hr1
    clear b1 hr0 hr1
    go_wp2_with (refine wpList_store_row rfl 26 (.tmp 2) (.tmp 10) rfl (w.heap.size + 1) (rrow g A B) rfl rfl 26 zrow HZ.out info26.out rfl (rone g A B) ?_)
    refine bodyPost_ret (results_cell_row rfl _ _ (w.heap.size + 1) _ (rrow g A B) _ _ rfl (setRow_heap _ _ _ _ _ _ HZ.out) Tryz.underlying26 rfl info26.out) rfl ?_
    exact ⟨by rw [← hv.out]; rfl, Below.setRow' HB.out (by omega) _⟩
  · have hv := Lib.hid (show rvq g A B = 0 by unfold rvq; rw [if_neg hk])
    rw [show okq g A B = false by simpa using hk] at EE
    have HE := Lib.hid EE
    clear hk EE
    unfold RW
    go_enter Tryz.func49, Tryz.ntmps49
    go_upto_region 1 with fail
    change Code.wp _ _ _ _ ((w.alloc (.cells (rrow g A B) 26)).alloc (.cells zrow 26))
    rw [HW.out.1]
    go_wp2_with fail
    refine HE.out.mono ?_
    rintro e w1 ⟨rfl, b1⟩
    have hr1 := (b1.block (w.heap.size + 1) (by have := HW.out.2.2.1; omega)).trans HW.out.2.2.2.2
    have HL := Lib.hid (show w.heap.size + 1 < w1.heap.size by have h1 := b1.size; have h2 := HW.out.2.2.1; omega)
    have HB := Lib.hid (HW.out.2.1.trans (b1.mono HW.out.2.1.size))
    have HZ := Lib.hid hr1
    clear b1 hr1
    go_wp2_with fail
    refine (rone_q _).mono ?_
    rintro e w2 ⟨rfl, b2⟩
    have HZ2 := Lib.hid ((b2.block (w.heap.size + 1) HL.out).trans HZ.out)
    have HB2 := Lib.hid (HB.out.trans (b2.mono HB.out.size))
    clear b2
    go_wp2_with (refine wpList_store_row rfl 26 (.tmp 2) (.tmp 9) rfl (w.heap.size + 1) zc rfl rfl 26 zrow HZ2.out info26.out rfl zcone ?_)
    refine bodyPost_ret (results_cell_row rfl _ _ (w.heap.size + 1) _ zc _ _ rfl (setRow_heap _ _ _ _ _ _ HZ2.out) Tryz.underlying26 rfl info26.out) rfl ?_
    exact ⟨by rw [hv.out, QV_zero], Below.setRow' HB2.out (by omega) _⟩
set_option maxRecDepth 100000 in
set_option maxHeartbeats 4000000 in
theorem rOf_q (w : World) (n : Int) (h1 : -9223372036854775808 ≤ n) (h2 : n ≤ 9223372036854775807) :
    Calls Tryz.prog 37 #[.int .i64 n] w fun e w' => e = .returned (QV (n : Rat)) ∧ Below w.heap.size w w' := by
  rw [intq]
  have hs := z1_start w
  obtain ⟨W, hW⟩ : ∃ W, w.alloc (.cells zrow 26) = W := ⟨_, rfl⟩
  rw [hW] at hs
  have HW := Lib.hid (And.intro hW hs)
  clear hW hs
  have O2 := fun W => rone_q W
  by_cases h : n < 0
  · have e0 : decide (n < 0) = true := decide_eq_true h
    obtain ⟨m, hm⟩ : ∃ m : Nat, (m : Int) = -(n + 1) := ⟨(-(n + 1)).toNat, by omega⟩
    have O1 := fun W => rof_q W (-(n + 1)) (NB m) (by rw [show (-(n + 1)).toNat = m by omega]) (by omega) (by omega)
    have A1 := fun W => RefAdd_any W (NB m) ⟨#[1]⟩ (Nat.le_trans (NB_size (show m < 256^8 by omega)) (by omega)) (by decide)
    rw [sv_NB, sv_one, show m + 1 = n.natAbs by omega] at A1
    have w1 := IntWalk.i64_in (n + 1) (by omega)
    have w2 := IntWalk.i64_in (-(n + 1)) (by omega)
    rw [e0]
    generalize NB m = M at *
    generalize NB n.natAbs = R at *
    have HO := Lib.hid (And.intro O1 (And.intro O2 A1))
    clear O1 A1 O2 hm
    go_enter Tryz.func37, Tryz.ntmps37
    go_upto_region 1 with fail
    change Code.wp _ _ _ _ (w.alloc (.cells zrow 26))
    rw [HW.out.1]
    go_wp2_with fail
    refine (HO.out.1 _).mono ?_
    rintro e w1 ⟨rfl, b1⟩
    have H1 := Lib.hid (HW.out.2.next b1); clear b1
    go_wp2_with fail
    refine (HO.out.2.1 _).mono ?_
    rintro e w2 ⟨rfl, b2⟩
    have H2 := Lib.hid (H1.out.next b2); clear b2
    go_wp2_with fail
    refine (HO.out.2.2 _).mono ?_
    rintro e w3 ⟨rfl, b3⟩
    have H3 := Lib.hid (H2.out.next b3); clear b3
    go_wp2_with fail
    refine (HO.out.2.1 _).mono ?_
    rintro e w4 ⟨rfl, b4⟩
    have H4 := Lib.hid (H3.out.next b4); clear b4
    go_wp2_with (refine wpList_store_row rfl 26 (.tmp 2) (.tmp 16) rfl w.heap.size #[.bool true, .string R, .string ⟨#[1]⟩] rfl rfl 26 zrow H4.out.z info26.out rfl (by simp [Value.oneCell']) ?_)
    refine bodyPost_ret (results_cell_row rfl _ _ w.heap.size _ #[.bool true, .string R, .string ⟨#[1]⟩] _ _ rfl (setRow_heap _ _ _ _ _ _ H4.out.z) Tryz.underlying26 rfl info26.out) rfl ?_
    exact ⟨rfl, Below.setRow' H4.out.b (Nat.le_refl _) _⟩
  · have e0 : decide (n < 0) = false := decide_eq_false h
    have O1 := fun W => rof_q W n (NB n.natAbs) (by rw [show n.toNat = n.natAbs by omega]) h1 (by omega)
    have hge : 0 ≤ n := by omega
    rw [e0]
    generalize NB n.natAbs = M at *
    have HO := Lib.hid (And.intro O1 O2)
    clear O1 O2 e0
    go_enter Tryz.func37, Tryz.ntmps37
    go_upto_region 1 with fail
    change Code.wp _ _ _ _ (w.alloc (.cells zrow 26))
    rw [HW.out.1]
    go_wp2_with fail
    refine (HO.out.1 _).mono ?_
    rintro e w1 ⟨rfl, b1⟩
    have H1 := Lib.hid (HW.out.2.next b1); clear b1
    go_wp2_with fail
    refine (HO.out.2 _).mono ?_
    rintro e w2 ⟨rfl, b2⟩
    have H2 := Lib.hid (H1.out.next b2); clear b2
    go_wp2_with (refine wpList_store_row rfl 26 (.tmp 2) (.tmp 8) rfl w.heap.size #[.bool false, .string M, .string ⟨#[1]⟩] rfl rfl 26 zrow H2.out.z info26.out rfl (by simp [Value.oneCell']) ?_)
    refine bodyPost_ret (results_cell_row rfl _ _ w.heap.size _ #[.bool false, .string M, .string ⟨#[1]⟩] _ _ rfl (setRow_heap _ _ _ _ _ _ H2.out.z) Tryz.underlying26 rfl info26.out) rfl ?_
    exact ⟨rfl, Below.setRow' H2.out.b (Nat.le_refl _) _⟩
/-- the reference's Quo -/
theorem nz_str {b : Rat} (hb : b ≠ 0) : ((NB b.num.natAbs).toList == []) = false :=
  str_ne (B := ⟨#[]⟩) rfl (fun e => hb (Rat.num_eq_zero.1 (Int.natAbs_eq_zero.1 (NB_inj (e.trans NB_zero.symm)))))
set_option maxRecDepth 100000 in
set_option maxHeartbeats 8000000 in
theorem rQuo0 (w : World) (g1 g2 : Bool) (A1 B1 A2 B2 : ByteArray) (N : Nat) (hA1 : A1.size ≤ N) (hB1 : B1.size ≤ N) (hA2 : A2.size ≤ N) (hB2 : B2.size ≤ N) (hN1 : 1 ≤ N) (hN : N ≤ 1000000) (hT : Tb w) (hb : rvq g2 A2 B2 = 0) :
    Calls Tryz.prog 13 #[RW g1 A1 B1, RW g2 A2 B2] w fun e w' => e = .returned (.tuple #[.agg zrow, .bool false]) ∧ Below w.heap.size w w' := by
  have V1 := fun W => value_q W g1 A1 B1 N hA1 hB1 hN
  have V2 := fun W => value_q W g2 A2 B2 N hA2 hB2 hN
  have s1 := SmQ_rvq g1 A1 B1 N hA1 hB1 hN1
  have s2 := SmQ_rvq g2 A2 B2 N hA2 hB2 hN1
  generalize rvq g1 A1 B1 = a at *
  rw [hb, QV_zero] at V2
  unfold QV at *
  have h0 := d2_start w (rrow g1 A1 B1) (rrow g2 A2 B2) hT
  have hz := d2_z w (rrow g1 A1 B1) (rrow g2 A2 B2)
  obtain ⟨W, hW⟩ : ∃ W, ((w.alloc (.cells (rrow g1 A1 B1) 26)).alloc (.cells (rrow g2 A2 B2) 26)).alloc (.cells zrow 26) = W := ⟨_, rfl⟩
  rw [hW] at h0 hz
  have HV := Lib.hid (And.intro V1 V2)
  have HW := Lib.hid (And.intro hW (And.intro h0 hz))
  have HT := Lib.hid hT
  clear V1 V2 s1 s2 hW hz hT hb
  have c0 : W.cell? ⟨w.heap.size, 0, none⟩ = some (.bool g1) := cell_of_row _ _ 0 _ _ _ h0.a
  have c1 : W.cell? ⟨w.heap.size, 1, none⟩ = some (.string A1) := cell_of_row _ _ 1 _ _ _ h0.a
  have c2 : W.cell? ⟨w.heap.size, 2, none⟩ = some (.string B1) := cell_of_row _ _ 2 _ _ _ h0.a
  clear h0
  unfold RW
  go_enter Tryz.func13, Tryz.ntmps13
  go_upto_region 1 with fail
  change Code.wp _ _ _ _ (((w.alloc (.cells (rrow g1 A1 B1) 26)).alloc (.cells (rrow g2 A2 B2) 26)).alloc (.cells zrow 26))
  rw [HW.out.1]
  go_wp2_with fail
  refine (HV.out.1 _).mono ?_
  rintro e w1 ⟨rfl, b1⟩
  have H1 := Lib.hid (HW.out.2.1.next b1)
  have Z1 := Lib.hid ((b1.block _ HW.out.2.1.lt).trans HW.out.2.2); clear b1
  go_upto_region 2 with (refine wpList_store_row rfl 26 (.tmp 2) (.tmp 7) rfl w.heap.size (qcells a) rfl rfl 26 (rrow g1 A1 B1) H1.out.a info26.out rfl (qone _) ?_)
  have H2 := Lib.hid (H1.out.storeA HT.out (qcells a))
  have Z2 := Lib.hid ((setRow_other w1 w.heap.size (w.heap.size + 2) (qcells a) (by omega)).trans Z1.out)
  generalize w1.setRow w.heap.size (qcells a) = Y at *
  clear H1 Z1 c0 c1 c2 HW
  have c0 : Y.cell? ⟨w.heap.size + 1, 0, none⟩ = some (.bool g2) := cell_of_row _ _ 0 _ _ _ H2.out.c
  have c1 : Y.cell? ⟨w.heap.size + 1, 1, none⟩ = some (.string A2) := cell_of_row _ _ 1 _ _ _ H2.out.c
  have c2 : Y.cell? ⟨w.heap.size + 1, 2, none⟩ = some (.string B2) := cell_of_row _ _ 2 _ _ _ H2.out.c
  go_wp2_with fail
  refine (HV.out.2 _).mono ?_
  rintro e w3 ⟨rfl, b3⟩
  have H3 := Lib.hid (H2.out.next b3)
  have Z3 := Lib.hid ((b3.block _ H2.out.lt).trans Z2.out); clear b3
  go_upto_region 3 with (refine wpList_store_row rfl 26 (.tmp 3) (.tmp 9) rfl (w.heap.size + 1) (zc) rfl rfl 26 (rrow g2 A2 B2) H3.out.c info26.out rfl (zcone) ?_)
  have H4 := Lib.hid (H3.out.storeB HT.out (zc))
  have Z4 := Lib.hid ((setRow_other w3 (w.heap.size + 1) (w.heap.size + 2) (zc) (by omega)).trans Z3.out)
  generalize w3.setRow (w.heap.size + 1) (zc) = X at *
  clear H2 Z2 H3 Z3 c0 c1 c2
  have d1 : X.cell? ⟨w.heap.size + 1, 1, none⟩ = some (.string (⟨#[]⟩)) := cell_of_row _ _ 1 _ _ _ H4.out.c
  go_wp2_with (refine wpList_store_row rfl 26 (.tmp 4) (.tmp 13) rfl (w.heap.size + 2) zrow rfl rfl 26 zrow Z4.out info26.out rfl zone ?_)
  refine bodyPost_ret (results_row_tmp rfl _ _ (w.heap.size + 2) _ zrow _ _ rfl (setRow_heap _ _ _ _ _ _ Z4.out) Tryz.underlying26 rfl infoz.out) rfl ?_
  exact ⟨rfl, Below.setRow' H4.out.b (by omega) _⟩
set_option maxRecDepth 100000 in
set_option maxHeartbeats 8000000 in
theorem rQuo1 (w : World) (g1 g2 : Bool) (A1 B1 A2 B2 : ByteArray) (N : Nat) (hA1 : A1.size ≤ N) (hB1 : B1.size ≤ N) (hA2 : A2.size ≤ N) (hB2 : B2.size ≤ N) (hN1 : 1 ≤ N) (hN : N ≤ 1000000) (hT : Tb w) (hb : rvq g2 A2 B2 ≠ 0) :
    Calls Tryz.prog 13 #[RW g1 A1 B1, RW g2 A2 B2] w fun e w' => e = .returned (.tuple #[QV (rvq g1 A1 B1 / rvq g2 A2 B2), .bool true]) ∧ Below w.heap.size w w' := by
  have V1 := fun W => value_q W g1 A1 B1 N hA1 hB1 hN
  have V2 := fun W => value_q W g2 A2 B2 N hA2 hB2 hN
  have s1 := SmQ_rvq g1 A1 B1 N hA1 hB1 hN1
  have s2 := SmQ_rvq g2 A2 B2 N hA2 hB2 hN1
  generalize rvq g1 A1 B1 = a at *
  generalize rvq g2 A2 B2 = b at *
  have hbn : b.num.natAbs ≠ 0 := fun h => hb (Rat.num_eq_zero.1 (Int.natAbs_eq_zero.1 h))
  have M1 := fun W => rmul_q W a.num.natAbs b.den N s1.1 s2.2 (by omega)
  have M2 := fun W => rmul_q W a.den b.num.natAbs N s1.2 s2.1 (by omega)
  have L1 := fun W => lowest_q W (decide (a.num < 0) != decide (b.num < 0)) (a.num.natAbs * b.den) (a.den * b.num.natAbs) (N + N) (mul_lt s1.1 s2.2) (mul_lt s1.2 s2.1) (Nat.mul_ne_zero a.den_nz hbn) (by omega)
  rw [mk_quo a b hb] at L1
  unfold QV at *
  have HP := Lib.hid (And.intro M1 (And.intro M2 L1))
  have hne := nz_str hb
  clear M1 M2 L1 hbn
  have h0 := d2_start w (rrow g1 A1 B1) (rrow g2 A2 B2) hT
  have hz := d2_z w (rrow g1 A1 B1) (rrow g2 A2 B2)
  obtain ⟨W, hW⟩ : ∃ W, ((w.alloc (.cells (rrow g1 A1 B1) 26)).alloc (.cells (rrow g2 A2 B2) 26)).alloc (.cells zrow 26) = W := ⟨_, rfl⟩
  rw [hW] at h0 hz
  have HV := Lib.hid (And.intro V1 V2)
  have HW := Lib.hid (And.intro hW (And.intro h0 hz))
  have HT := Lib.hid hT
  clear V1 V2 s1 s2 hW hz hT hb
  have c0 : W.cell? ⟨w.heap.size, 0, none⟩ = some (.bool g1) := cell_of_row _ _ 0 _ _ _ h0.a
  have c1 : W.cell? ⟨w.heap.size, 1, none⟩ = some (.string A1) := cell_of_row _ _ 1 _ _ _ h0.a
  have c2 : W.cell? ⟨w.heap.size, 2, none⟩ = some (.string B1) := cell_of_row _ _ 2 _ _ _ h0.a
  clear h0
  unfold RW
  go_enter Tryz.func13, Tryz.ntmps13
  go_upto_region 1 with fail
  change Code.wp _ _ _ _ (((w.alloc (.cells (rrow g1 A1 B1) 26)).alloc (.cells (rrow g2 A2 B2) 26)).alloc (.cells zrow 26))
  rw [HW.out.1]
  go_wp2_with fail
  refine (HV.out.1 _).mono ?_
  rintro e w1 ⟨rfl, b1⟩
  have H1 := Lib.hid (HW.out.2.1.next b1)
  have Z1 := Lib.hid ((b1.block _ HW.out.2.1.lt).trans HW.out.2.2); clear b1
  go_upto_region 2 with (refine wpList_store_row rfl 26 (.tmp 2) (.tmp 7) rfl w.heap.size (qcells a) rfl rfl 26 (rrow g1 A1 B1) H1.out.a info26.out rfl (qone _) ?_)
  have H2 := Lib.hid (H1.out.storeA HT.out (qcells a))
  have Z2 := Lib.hid ((setRow_other w1 w.heap.size (w.heap.size + 2) (qcells a) (by omega)).trans Z1.out)
  generalize w1.setRow w.heap.size (qcells a) = Y at *
  clear H1 Z1 c0 c1 c2 HW
  have c0 : Y.cell? ⟨w.heap.size + 1, 0, none⟩ = some (.bool g2) := cell_of_row _ _ 0 _ _ _ H2.out.c
  have c1 : Y.cell? ⟨w.heap.size + 1, 1, none⟩ = some (.string A2) := cell_of_row _ _ 1 _ _ _ H2.out.c
  have c2 : Y.cell? ⟨w.heap.size + 1, 2, none⟩ = some (.string B2) := cell_of_row _ _ 2 _ _ _ H2.out.c
  go_wp2_with fail
  refine (HV.out.2 _).mono ?_
  rintro e w3 ⟨rfl, b3⟩
  have H3 := Lib.hid (H2.out.next b3)
  have Z3 := Lib.hid ((b3.block _ H2.out.lt).trans Z2.out); clear b3
  go_upto_region 3 with (refine wpList_store_row rfl 26 (.tmp 3) (.tmp 9) rfl (w.heap.size + 1) (qcells b) rfl rfl 26 (rrow g2 A2 B2) H3.out.c info26.out rfl (qone _) ?_)
  have H4 := Lib.hid (H3.out.storeB HT.out (qcells b))
  have Z4 := Lib.hid ((setRow_other w3 (w.heap.size + 1) (w.heap.size + 2) (qcells b) (by omega)).trans Z3.out)
  generalize w3.setRow (w.heap.size + 1) (qcells b) = X at *
  clear H2 Z2 H3 Z3 c0 c1 c2
  have d1 : X.cell? ⟨w.heap.size + 1, 1, none⟩ = some (.string (NB b.num.natAbs)) := cell_of_row _ _ 1 _ _ _ H4.out.c
  go_upto_region 5 with fail
  clear d1
  have hz : X.drew.heap[w.heap.size + 2]? = _ := Z4.out
  refine wp_region_held_drew (S := D2 w (qcells a) (qcells b)) (by kernel_rfl) H4.out.drew (fun hS => ?_)
  clear H4 Z4
  refine wpAnyH_take (i := 0) (oi := { dst := some 14, op := Op.fieldAddr 26 (Operand.tmp 2) 0, type := 0, pos := "ref.go:119", after := #[], guard := none }) (v := ?vrq0) rfl (by kernel_rfl) (by kernel_rfl) (by kernel_rfl) (fun _ _ _ h => h) (Or.inl ⟨by rfl, ?yrq0⟩) hS ?rrq0
  case yrq0 => (intro w hS; go_simp; try with_reducible rfl)
  refine wpAnyH_take (i := 2) (oi := { dst := some 16, op := Op.fieldAddr 26 (Operand.tmp 3) 0, type := 0, pos := "ref.go:119", after := #[], guard := none }) (v := ?vrq2) rfl (by kernel_rfl) (by kernel_rfl) (by kernel_rfl) (fun _ _ _ h => h) (Or.inl ⟨by rfl, ?yrq2⟩) hS ?rrq2
  case yrq2 => (intro w hS; go_simp; try with_reducible rfl)
  refine wpAnyH_take (i := 5) (oi := { dst := some 19, op := Op.fieldAddr 26 (Operand.tmp 2) 1, type := 0, pos := "ref.go:119", after := #[], guard := none }) (v := ?vrq5) rfl (by kernel_rfl) (by kernel_rfl) (by kernel_rfl) (fun _ _ _ h => h) (Or.inl ⟨by rfl, ?yrq5⟩) hS ?rrq5
  case yrq5 => (intro w hS; go_simp; try with_reducible rfl)
  refine wpAnyH_take (i := 7) (oi := { dst := some 21, op := Op.fieldAddr 26 (Operand.tmp 3) 2, type := 0, pos := "ref.go:119", after := #[], guard := none }) (v := ?vrq7) rfl (by kernel_rfl) (by kernel_rfl) (by kernel_rfl) (fun _ _ _ h => h) (Or.inl ⟨by rfl, ?yrq7⟩) hS ?rrq7
  case yrq7 => (intro w hS; go_simp; try with_reducible rfl)
  refine wpAnyH_take (i := 10) (oi := { dst := some 24, op := Op.fieldAddr 26 (Operand.tmp 2) 2, type := 0, pos := "ref.go:119", after := #[], guard := none }) (v := ?vrq10) rfl (by kernel_rfl) (by kernel_rfl) (by kernel_rfl) (fun _ _ _ h => h) (Or.inl ⟨by rfl, ?yrq10⟩) hS ?rrq10
  case yrq10 => (intro w hS; go_simp; try with_reducible rfl)
  refine wpAnyH_take (i := 12) (oi := { dst := some 26, op := Op.fieldAddr 26 (Operand.tmp 3) 1, type := 0, pos := "ref.go:119", after := #[], guard := none }) (v := ?vrq12) rfl (by kernel_rfl) (by kernel_rfl) (by kernel_rfl) (fun _ _ _ h => h) (Or.inl ⟨by rfl, ?yrq12⟩) hS ?rrq12
  case yrq12 => (intro w hS; go_simp; try with_reducible rfl)
  go_simp
  refine wpAnyH_take (i := 1) (oi := { dst := some 15, op := Op.load 4 (Operand.tmp 14), type := 4, pos := "ref.go:119", after := #[{ on := 0, ground := Ground.data }], guard := none }) (v := .bool (decide (a.num < 0))) rfl (by kernel_rfl) (by kernel_rfl) (by kernel_rfl) (fun _ _ _ h => h) (Or.inl ⟨by rfl, ?yrq1⟩) hS ?rrq1
  case yrq1 => (intro w' hS; have cf := (show w'.cell? ⟨w.heap.size, 0, none⟩ = some (.bool (decide (a.num < 0))) from cell_of_row _ _ 0 _ _ _ hS.a); go_simp; try with_reducible rfl)
  refine wpAnyH_take (i := 3) (oi := { dst := some 17, op := Op.load 4 (Operand.tmp 16), type := 4, pos := "ref.go:119", after := #[{ on := 2, ground := Ground.data }], guard := none }) (v := .bool (decide (b.num < 0))) rfl (by kernel_rfl) (by kernel_rfl) (by kernel_rfl) (fun _ _ _ h => h) (Or.inl ⟨by rfl, ?yrq3⟩) hS ?rrq3
  case yrq3 => (intro w' hS; have cf := (show w'.cell? ⟨(w.heap.size + 1), 0, none⟩ = some (.bool (decide (b.num < 0))) from cell_of_row _ _ 0 _ _ _ hS.c); go_simp; try with_reducible rfl)
  refine wpAnyH_take (i := 6) (oi := { dst := some 20, op := Op.load 24 (Operand.tmp 19), type := 24, pos := "ref.go:119", after := #[{ on := 5, ground := Ground.data }], guard := none }) (v := .string (NB a.num.natAbs)) rfl (by kernel_rfl) (by kernel_rfl) (by kernel_rfl) (fun _ _ _ h => h) (Or.inl ⟨by rfl, ?yrq6⟩) hS ?rrq6
  case yrq6 => (intro w' hS; have cf := (show w'.cell? ⟨w.heap.size, 1, none⟩ = some (.string (NB a.num.natAbs)) from cell_of_row _ _ 1 _ _ _ hS.a); go_simp; try with_reducible rfl)
  refine wpAnyH_take (i := 8) (oi := { dst := some 22, op := Op.load 24 (Operand.tmp 21), type := 24, pos := "ref.go:119", after := #[{ on := 7, ground := Ground.data }], guard := none }) (v := .string (NB b.den)) rfl (by kernel_rfl) (by kernel_rfl) (by kernel_rfl) (fun _ _ _ h => h) (Or.inl ⟨by rfl, ?yrq8⟩) hS ?rrq8
  case yrq8 => (intro w' hS; have cf := (show w'.cell? ⟨(w.heap.size + 1), 2, none⟩ = some (.string (NB b.den)) from cell_of_row _ _ 2 _ _ _ hS.c); go_simp; try with_reducible rfl)
  refine wpAnyH_take (i := 11) (oi := { dst := some 25, op := Op.load 24 (Operand.tmp 24), type := 24, pos := "ref.go:119", after := #[{ on := 10, ground := Ground.data }], guard := none }) (v := .string (NB a.den)) rfl (by kernel_rfl) (by kernel_rfl) (by kernel_rfl) (fun _ _ _ h => h) (Or.inl ⟨by rfl, ?yrq11⟩) hS ?rrq11
  case yrq11 => (intro w' hS; have cf := (show w'.cell? ⟨w.heap.size, 2, none⟩ = some (.string (NB a.den)) from cell_of_row _ _ 2 _ _ _ hS.a); go_simp; try with_reducible rfl)
  refine wpAnyH_take (i := 13) (oi := { dst := some 27, op := Op.load 24 (Operand.tmp 26), type := 24, pos := "ref.go:119", after := #[{ on := 12, ground := Ground.data }], guard := none }) (v := .string (NB b.num.natAbs)) rfl (by kernel_rfl) (by kernel_rfl) (by kernel_rfl) (fun _ _ _ h => h) (Or.inl ⟨by rfl, ?yrq13⟩) hS ?rrq13
  case yrq13 => (intro w' hS; have cf := (show w'.cell? ⟨(w.heap.size + 1), 1, none⟩ = some (.string (NB b.num.natAbs)) from cell_of_row _ _ 1 _ _ _ hS.c); go_simp; try with_reducible rfl)
  go_simp
  refine wpAnyH_take (i := 4) (oi := { dst := some 18, op := Op.binOp BinOp.neq 4 (Operand.tmp 15) (Operand.tmp 17) 4, type := 4, pos := "ref.go:119", after := #[{ on := 1, ground := Ground.data }, { on := 3, ground := Ground.data }], guard := none }) (v := ?vrq4) rfl (by kernel_rfl) (by kernel_rfl) (by kernel_rfl) (fun _ _ _ h => h) (Or.inl ⟨by rfl, ?yrq4⟩) hS ?rrq4
  case yrq4 => (intro w hS; go_simp; try with_reducible rfl)
  go_simp
  refine wpAnyH_ready (rs := [9]) (by kernel_rfl) (by simp) ?_
  refine AllReadyH.cons (o := { dst := some 23, op := Op.call { callee := Callee.value (Operand.func 45), args := #[Operand.tmp 20, Operand.tmp 22], argTypes := #[24, 24] }, type := 24, pos := "ref.go:119", after := #[{ on := 6, ground := Ground.data }, { on := 8, ground := Ground.data }], guard := none }) rfl (fun K hK => ?_) AllReadyH.nil
  go_simp
  go_at_call 45
  refine (HP.out.1 _).mono ?_
  rintro e w' ⟨rfl, b⟩
  have hS2 := hS.next b
  have hz2 := (b.block _ hS.lt).trans hz
  clear hz
  have hz := hz2
  clear hz2
  clear b hS
  try go_simp
  refine hK.out _ _ hS2 (fun hS => ?_)
  clear hK K hS2
  refine wpAnyH_ready (rs := [14]) (by kernel_rfl) (by simp) ?_
  refine AllReadyH.cons (o := { dst := some 28, op := Op.call { callee := Callee.value (Operand.func 45), args := #[Operand.tmp 25, Operand.tmp 27], argTypes := #[24, 24] }, type := 24, pos := "ref.go:119", after := #[{ on := 11, ground := Ground.data }, { on := 13, ground := Ground.data }, { on := 9, ground := Ground.chain }], guard := none }) rfl (fun K hK => ?_) AllReadyH.nil
  go_simp
  go_at_call 45
  refine (HP.out.2.1 _).mono ?_
  rintro e w' ⟨rfl, b⟩
  have hS2 := hS.next b
  have hz2 := (b.block _ hS.lt).trans hz
  clear hz
  have hz := hz2
  clear hz2
  clear b hS
  try go_simp
  refine hK.out _ _ hS2 (fun hS => ?_)
  clear hK K hS2
  refine wpAnyH_ready (rs := [15]) (by kernel_rfl) (by simp) ?_
  refine AllReadyH.cons (o := { dst := some 29, op := Op.call { callee := Callee.value (Operand.func 46), args := #[Operand.tmp 18, Operand.tmp 23, Operand.tmp 28], argTypes := #[4, 24, 24] }, type := 26, pos := "ref.go:119", after := #[{ on := 4, ground := Ground.data }, { on := 9, ground := Ground.data }, { on := 14, ground := Ground.data }, { on := 14, ground := Ground.chain }], guard := none }) rfl (fun K hK => ?_) AllReadyH.nil
  go_simp
  go_at_call 46
  refine (HP.out.2.2 _).mono ?_
  rintro e w' ⟨rfl, b⟩
  have hS2 := hS.next b
  have hz2 := (b.block _ hS.lt).trans hz
  clear hz
  have hz := hz2
  clear hz2
  clear b hS
  try go_simp
  refine hK.out _ _ hS2 (fun hS => ?_)
  clear hK K hS2
  refine wpAnyH_ready (rs := [16]) (by kernel_rfl) (by simp) ?_
  refine AllReadyH.cons (o := { dst := none, op := Op.store 26 (Operand.tmp 4) (Operand.tmp 29), type := 0, pos := "ref.go:119", after := #[{ on := 15, ground := Ground.data }, { on := 15, ground := Ground.chain }, { on := 0, ground := Ground.phase }, { on := 1, ground := Ground.phase }, { on := 2, ground := Ground.phase }, { on := 3, ground := Ground.phase }, { on := 4, ground := Ground.phase }, { on := 5, ground := Ground.phase }, { on := 6, ground := Ground.phase }, { on := 7, ground := Ground.phase }, { on := 8, ground := Ground.phase }, { on := 9, ground := Ground.phase }, { on := 10, ground := Ground.phase }, { on := 11, ground := Ground.phase }, { on := 12, ground := Ground.phase }, { on := 13, ground := Ground.phase }, { on := 14, ground := Ground.phase }, { on := 15, ground := Ground.phase }], guard := none }) rfl (fun K hK => ?_) AllReadyH.nil
  rw [if_pos (by rfl)]
  refine wp_store_row 26 (.tmp 4) (.tmp 29) rfl (w.heap.size + 2) (qcells (a / b)) (by first | rfl | (simp [Act.eval])) (by first | rfl | (simp [Act.eval])) 26 zrow hz info26.out rfl (qone _) ?_
  have hS2 := hS.store HT.out (qcells (a / b))
  clear hS
  refine hK.out _ _ hS2 (fun hS => ?_)
  clear hK K hS2
  refine wpAnyH_take (i := 17) (oi := { dst := some 5, op := Op.assign (Operand.const (Value.bool true)), type := 4, pos := "ref.go:119", after := #[{ on := 16, ground := Ground.chain }, { on := 0, ground := Ground.phase }, { on := 1, ground := Ground.phase }, { on := 2, ground := Ground.phase }, { on := 3, ground := Ground.phase }, { on := 4, ground := Ground.phase }, { on := 5, ground := Ground.phase }, { on := 6, ground := Ground.phase }, { on := 7, ground := Ground.phase }, { on := 8, ground := Ground.phase }, { on := 9, ground := Ground.phase }, { on := 10, ground := Ground.phase }, { on := 11, ground := Ground.phase }, { on := 12, ground := Ground.phase }, { on := 13, ground := Ground.phase }, { on := 14, ground := Ground.phase }, { on := 15, ground := Ground.phase }, { on := 16, ground := Ground.phase }], guard := none }) (v := ?vrq17) rfl (by kernel_rfl) (by kernel_rfl) (by kernel_rfl) (fun _ _ _ h => h) (Or.inl ⟨by rfl, ?yrq17⟩) hS ?rrq17
  case yrq17 => (intro w hS; go_simp; try with_reducible rfl)
  refine wpAnyH_done (by kernel_rfl) ?_ _
  go_wp2
  refine bodyPost_ret (results_row_tmp rfl _ _ (w.heap.size + 2) _ (qcells (a / b)) _ _ rfl (setRow_heap _ _ _ _ _ _ hz) Tryz.underlying26 rfl info26.out) rfl ?_
  exact ⟨rfl, hS.b⟩
end Go.Proofs.YteccbedmpjeamaaGreatDoor
namespace Go.Proofs.YteccbedmpjeamaaGreatDoor
open Go.RowKit NM QM
theorem tmod_bd (n : Int) (m : Nat) (hm : 0 < m) : -(m : Int) < n.tmod m ∧ n.tmod m < m := by
  have h := Int.natAbs_tmod n m
  have h2 : (n.tmod (m : Int)).natAbs < m := by
    rw [h, Int.natAbs_natCast]
    exact Nat.mod_lt _ hm
  omega
set_option maxRecDepth 100000 in
theorem mod_nat (n : Int) (m : Nat) (i : Int) (hi : i = (m : Nat)) (hm : 0 < m) (hm2 : m ≤ 4611686018427387904) (_hn : -9223372036854775808 ≤ n ∧ n ≤ 9223372036854775807) :
    ∃ r : Nat, r < m ∧ ∀ w, Calls Tryz.prog 35 #[.int .i64 n, .int .i64 i] w fun e w' => e = .returned (.int .i64 (r : Int)) ∧ w' = w := by
  subst hi
  have b := tmod_bd n m hm
  have hm0 : ¬ (m : Int) = 0 := by omega
  have hm1 : ((m : Int) == 0) = false := by simp; omega
  obtain ⟨t, ht⟩ : ∃ t, n.tmod m = t := ⟨_, rfl⟩
  rw [ht] at b
  by_cases h : t < 0
  · obtain ⟨u, hu⟩ : ∃ u : Nat, (u : Int) = t + m := ⟨(t + m).toNat, by omega⟩
    refine ⟨u, by omega, fun w => ?_⟩
    have v1 : IntKind.i64.wrap t = t := IntWalk.i64_in _ ⟨by omega, by omega⟩
    have v2 : wrap64 (t + m) = u := by rw [hu]; unfold wrap64; omega
    have v3 : IntKind.i64.wrap (t + m) = u := by rw [hu]; exact IntWalk.i64_in _ ⟨by omega, by omega⟩
    have e1 : decide (t < 0) = true := decide_eq_true h
    have HU := Lib.hid hu
    clear hu b hm hm2
    go_enter Tryz.func35, Tryz.ntmps35
    go_wp2
    go_ret
    exact ⟨by first | rfl | rw [HU.out], rfl⟩
  · obtain ⟨u, hu⟩ : ∃ u : Nat, (u : Int) = t := ⟨t.toNat, by omega⟩
    refine ⟨u, by omega, fun w => ?_⟩
    rw [← hu] at ht
    have v1 : IntKind.i64.wrap t = t := IntWalk.i64_in _ ⟨by omega, by omega⟩
    rw [← hu] at v1
    clear hu b hm hm2 h
    go_enter Tryz.func35, Tryz.ntmps35
    go_wp2
    go_ret
    exact ⟨rfl, rfl⟩
/-- three ints in the call's first block, a block for the result; the tables -/
structure M1 (w : World) (x y z : Int) (W : World) : Prop where
  a : W.heap[w.heap.size]? = some (.cells #[.int .i64 x, .int .i64 y, .int .i64 z] 22 (0, 0))
  z : W.heap[w.heap.size + 1]? = some (.cells zrow 26 (0, 0))
  lt : w.heap.size + 1 < W.heap.size
  b : Below w.heap.size w W
theorem M1.next {w u v : World} {x y z : Int} (h : M1 w x y z u) (k : Below u.heap.size u v) : M1 w x y z v :=
  ⟨(k.block _ (by have := h.lt; omega)).trans h.a, (k.block _ h.lt).trans h.z, Nat.lt_of_lt_of_le h.lt k.size, h.b.trans (k.mono h.b.size)⟩
theorem M1.drew {w u : World} {x y z : Int} (h : M1 w x y z u) : M1 w x y z u.drew := ⟨h.a, h.z, h.lt, h.b.drew⟩
theorem m1_start (w : World) (x y z : Int) : M1 w x y z ((w.alloc (.cells #[.int .i64 x, .int .i64 y, .int .i64 z] 22)).alloc (.cells zrow 26)) :=
  ⟨heap_alloc2_old _ _ _, heap_alloc2_new _ _ _, by simp, ((Below.refl _ w).alloc (Nat.le_refl _) _).alloc (by simp) _⟩
/-- what Made answers: some right number of at most 16 bytes each -/
def MadeR (w : World) (e : Ending) (w' : World) : Prop := ∃ q : Rat, SmQ 16 q ∧ e = .returned (QV q) ∧ Below w.heap.size w w'
theorem smq_mk (g : Bool) (n d N : Nat) (hn : n < 256^N) (hd : d < 256^N) (h0 : d ≠ 0) : SmQ N (mk g n d) :=
  ⟨by rw [mk_num g n d h0]; exact div_lt hn, by rw [mk_den g n d h0]; exact div_lt hd⟩
set_option maxRecDepth 100000 in
set_option maxHeartbeats 8000000 in
theorem made_0 (w : World) (x y z : Int) (hx : -9223372036854775808 ≤ x ∧ x ≤ 9223372036854775807) (hy : -9223372036854775808 ≤ y ∧ y ≤ 9223372036854775807)
    (K3 : ∀ W, Calls Tryz.prog 35 #[.int .i64 z, .int .i64 4] W fun e w' => e = .returned (.int .i64 0) ∧ w' = W) :
    Calls Tryz.prog 11 #[.agg #[.int .i64 x, .int .i64 y, .int .i64 z]] w (MadeR w) := by
  obtain ⟨r1, l1, K1⟩ := mod_nat x 1000 1000 rfl (by decide) (by decide) hx
  obtain ⟨r2, l2, K2⟩ := mod_nat y 60 60 rfl (by decide) (by decide) hy
  obtain ⟨r3, l3, K4⟩ := mod_nat x 4611686018427387904 4611686018427387904 rfl (by decide) (by decide) hx
  obtain ⟨r4, l4, K5⟩ := mod_nat y 4611686018427387904 4611686018427387904 rfl (by decide) (by decide) hy
  obtain ⟨r5, l5, K6⟩ := mod_nat x 2147483648 2147483648 rfl (by decide) (by decide) hx
  obtain ⟨r6, l6, K7⟩ := mod_nat x 7 7 rfl (by decide) (by decide) hx
  obtain ⟨r7, l7, K8⟩ := mod_nat y 7 7 rfl (by decide) (by decide) hy
  have O1 := fun W => rof_q W (r1 : Int) (NB r1) (by rw [Int.toNat_natCast]) (by omega) (by omega)
  have O2 := fun W => rof_q W (1 + (r2 : Int)) (NB (1 + r2)) (by rw [show (1 + (r2 : Int)).toNat = 1 + r2 by omega]) (by omega) (by omega)
  have O3 := fun W => rof_q W (r3 : Int) (NB r3) (by rw [Int.toNat_natCast]) (by omega) (by omega)
  have O4 := fun W => rof_q W (r4 : Int) (NB r4) (by rw [Int.toNat_natCast]) (by omega) (by omega)
  have O5 := fun W => rof_q W (1 + (r4 : Int)) (NB (1 + r4)) (by rw [show (1 + (r4 : Int)).toNat = 1 + r4 by omega]) (by omega) (by omega)
  have O6 := fun W => rof_q W (1 + (r5 : Int)) (NB (1 + r5)) (by rw [show (1 + (r5 : Int)).toNat = 1 + r5 by omega]) (by omega) (by omega)
  have O7 := fun W => rof_q W (r6 : Int) (NB r6) (by rw [Int.toNat_natCast]) (by omega) (by omega)
  have O8 := fun W => rof_q W (1 + (r7 : Int)) (NB (1 + r7)) (by rw [show (1 + (r7 : Int)).toNat = 1 + r7 by omega]) (by omega) (by omega)
  have q8 : (256 : Nat)^8 = 18446744073709551616 := by decide
  have X1 := fun W => rmul_q W r3 r4 8 (by omega) (by omega) (by decide)
  have X2 := fun W => rmul_q W (1 + r4) (1 + r5) 8 (by omega) (by omega) (by decide)
  have q16 : (256 : Nat)^16 = 340282366920938463463374607431768211456 := by decide
  have bn : r1 < 256^16 := by omega
  have bd : 1 + r2 < 256^16 := by omega
  have b0 : 1 + r2 ≠ 0 := by omega
  clear q16
  have LL := fun W => lowest_q W (decide (x < 0)) (r1) (1 + r2) 16 bn bd b0 (by decide)
  have ss := smq_mk (decide (x < 0)) (r1) (1 + r2) 16 bn bd b0
  generalize mk (decide (x < 0)) (r1) (1 + r2) = q at *
  unfold QV at LL
  generalize NB (r3 * r4) = X12 at *
  generalize NB ((1 + r4) * (1 + r5)) = X22 at *
  generalize NB r1 = N1 at *
  generalize NB (1 + r2) = N2 at *
  generalize NB r3 = N3 at *
  generalize NB r4 = N4 at *
  generalize NB (1 + r4) = N5 at *
  generalize NB (1 + r5) = N6 at *
  generalize NB r6 = N7 at *
  generalize NB (1 + r7) = N8 at *
  have HM := Lib.hid (And.intro K1 (And.intro K2 (And.intro K3 (And.intro K4 (And.intro K5 (And.intro K6 (And.intro K7 K8)))))))
  have HO := Lib.hid (And.intro O1 (And.intro O2 (And.intro O3 (And.intro O4 (And.intro O5 (And.intro O6 (And.intro O7 O8)))))))
  have HX := Lib.hid (And.intro X1 X2)
  have HL := Lib.hid (And.intro LL ss)
  clear K1 K2 K3 K4 K5 K6 K7 K8 O1 O2 O3 O4 O5 O6 O7 O8 X1 X2 LL ss bn bd b0 q8 l1 l3 l6
  have h0 := m1_start w x y z
  obtain ⟨W, hW⟩ : ∃ W, (w.alloc (.cells #[.int .i64 x, .int .i64 y, .int .i64 z] 22)).alloc (.cells zrow 26) = W := ⟨_, rfl⟩
  rw [hW] at h0
  have HW := Lib.hid (And.intro hW h0)
  have c0 : W.cell? ⟨w.heap.size, 0, none⟩ = some (.int .i64 x) := cell_of_row _ _ 0 _ _ _ h0.a
  clear hW h0
  go_enter Tryz.func11, Tryz.ntmps11
  go_upto_region 1 with fail
  change Code.wp _ _ _ _ ((w.alloc (.cells #[.int .i64 x, .int .i64 y, .int .i64 z] 22)).alloc (.cells zrow 26))
  rw [HW.out.1]
  go_wp2_with fail
  refine (HM.out.1 _).mono ?_
  rintro e w' ⟨rfl, rfl⟩
  go_wp2_with fail
  refine (HO.out.1 _).mono ?_
  rintro e w1 ⟨rfl, b1⟩
  have H1 := Lib.hid (HW.out.2.next b1); clear b1 c0
  have c1 : w1.cell? ⟨w.heap.size, 1, none⟩ = some (.int .i64 y) := cell_of_row _ _ 1 _ _ _ H1.out.a
  go_wp2_with fail
  refine (HM.out.2.1 _).mono ?_
  rintro e w' ⟨rfl, rfl⟩
  go_wp2_with fail
  refine (HO.out.2.1 _).mono ?_
  rintro e w2 ⟨rfl, b2⟩
  have H2 := Lib.hid (H1.out.next b2); clear b2 c1
  have c2 : w2.cell? ⟨w.heap.size, 2, none⟩ = some (.int .i64 z) := cell_of_row _ _ 2 _ _ _ H2.out.a
  have c3 : w2.cell? ⟨w.heap.size, 0, none⟩ = some (.int .i64 x) := cell_of_row _ _ 0 _ _ _ H2.out.a
  go_wp2_with fail
  refine (HM.out.2.2.1 _).mono ?_
  rintro e w' ⟨rfl, rfl⟩
  go_wp2_with fail
  refine (HL.out.1 _).mono ?_
  rintro e wz ⟨rfl, bz⟩
  have HZ := Lib.hid (H2.out.next bz); clear bz
  go_wp2_with (refine wpList_store_row rfl 26 (.tmp 2) (.tmp 66) rfl (w.heap.size + 1) (qcells q) rfl rfl 26 zrow HZ.out.z info26.out rfl (qone _) ?_)
  refine bodyPost_ret (results_cell_row rfl _ _ (w.heap.size + 1) _ (qcells q) _ _ rfl (setRow_heap _ _ _ _ _ _ HZ.out.z) Tryz.underlying26 rfl info26.out) rfl ?_
  exact ⟨q, HL.out.2, rfl, Below.setRow' HZ.out.b (by omega) _⟩
set_option maxRecDepth 100000 in
set_option maxHeartbeats 8000000 in
theorem made_1 (w : World) (x y z : Int) (hx : -9223372036854775808 ≤ x ∧ x ≤ 9223372036854775807) (hy : -9223372036854775808 ≤ y ∧ y ≤ 9223372036854775807)
    (K3 : ∀ W, Calls Tryz.prog 35 #[.int .i64 z, .int .i64 4] W fun e w' => e = .returned (.int .i64 1) ∧ w' = W) :
    Calls Tryz.prog 11 #[.agg #[.int .i64 x, .int .i64 y, .int .i64 z]] w (MadeR w) := by
  obtain ⟨r1, l1, K1⟩ := mod_nat x 1000 1000 rfl (by decide) (by decide) hx
  obtain ⟨r2, l2, K2⟩ := mod_nat y 60 60 rfl (by decide) (by decide) hy
  obtain ⟨r3, l3, K4⟩ := mod_nat x 4611686018427387904 4611686018427387904 rfl (by decide) (by decide) hx
  obtain ⟨r4, l4, K5⟩ := mod_nat y 4611686018427387904 4611686018427387904 rfl (by decide) (by decide) hy
  obtain ⟨r5, l5, K6⟩ := mod_nat x 2147483648 2147483648 rfl (by decide) (by decide) hx
  obtain ⟨r6, l6, K7⟩ := mod_nat x 7 7 rfl (by decide) (by decide) hx
  obtain ⟨r7, l7, K8⟩ := mod_nat y 7 7 rfl (by decide) (by decide) hy
  have O1 := fun W => rof_q W (r1 : Int) (NB r1) (by rw [Int.toNat_natCast]) (by omega) (by omega)
  have O2 := fun W => rof_q W (1 + (r2 : Int)) (NB (1 + r2)) (by rw [show (1 + (r2 : Int)).toNat = 1 + r2 by omega]) (by omega) (by omega)
  have O3 := fun W => rof_q W (r3 : Int) (NB r3) (by rw [Int.toNat_natCast]) (by omega) (by omega)
  have O4 := fun W => rof_q W (r4 : Int) (NB r4) (by rw [Int.toNat_natCast]) (by omega) (by omega)
  have O5 := fun W => rof_q W (1 + (r4 : Int)) (NB (1 + r4)) (by rw [show (1 + (r4 : Int)).toNat = 1 + r4 by omega]) (by omega) (by omega)
  have O6 := fun W => rof_q W (1 + (r5 : Int)) (NB (1 + r5)) (by rw [show (1 + (r5 : Int)).toNat = 1 + r5 by omega]) (by omega) (by omega)
  have O7 := fun W => rof_q W (r6 : Int) (NB r6) (by rw [Int.toNat_natCast]) (by omega) (by omega)
  have O8 := fun W => rof_q W (1 + (r7 : Int)) (NB (1 + r7)) (by rw [show (1 + (r7 : Int)).toNat = 1 + r7 by omega]) (by omega) (by omega)
  have q8 : (256 : Nat)^8 = 18446744073709551616 := by decide
  have X1 := fun W => rmul_q W r3 r4 8 (by omega) (by omega) (by decide)
  have X2 := fun W => rmul_q W (1 + r4) (1 + r5) 8 (by omega) (by omega) (by decide)
  have q16 : (256 : Nat)^16 = 340282366920938463463374607431768211456 := by decide
  have bn : r3 < 256^16 := by omega
  have bd : 1 + r4 < 256^16 := by omega
  have b0 : 1 + r4 ≠ 0 := by omega
  clear q16
  have LL := fun W => lowest_q W (decide (x < 0)) (r3) (1 + r4) 16 bn bd b0 (by decide)
  have ss := smq_mk (decide (x < 0)) (r3) (1 + r4) 16 bn bd b0
  generalize mk (decide (x < 0)) (r3) (1 + r4) = q at *
  unfold QV at LL
  generalize NB (r3 * r4) = X12 at *
  generalize NB ((1 + r4) * (1 + r5)) = X22 at *
  generalize NB r1 = N1 at *
  generalize NB (1 + r2) = N2 at *
  generalize NB r3 = N3 at *
  generalize NB r4 = N4 at *
  generalize NB (1 + r4) = N5 at *
  generalize NB (1 + r5) = N6 at *
  generalize NB r6 = N7 at *
  generalize NB (1 + r7) = N8 at *
  have HM := Lib.hid (And.intro K1 (And.intro K2 (And.intro K3 (And.intro K4 (And.intro K5 (And.intro K6 (And.intro K7 K8)))))))
  have HO := Lib.hid (And.intro O1 (And.intro O2 (And.intro O3 (And.intro O4 (And.intro O5 (And.intro O6 (And.intro O7 O8)))))))
  have HX := Lib.hid (And.intro X1 X2)
  have HL := Lib.hid (And.intro LL ss)
  clear K1 K2 K3 K4 K5 K6 K7 K8 O1 O2 O3 O4 O5 O6 O7 O8 X1 X2 LL ss bn bd b0 q8 l1 l3 l6
  have h0 := m1_start w x y z
  obtain ⟨W, hW⟩ : ∃ W, (w.alloc (.cells #[.int .i64 x, .int .i64 y, .int .i64 z] 22)).alloc (.cells zrow 26) = W := ⟨_, rfl⟩
  rw [hW] at h0
  have HW := Lib.hid (And.intro hW h0)
  have c0 : W.cell? ⟨w.heap.size, 0, none⟩ = some (.int .i64 x) := cell_of_row _ _ 0 _ _ _ h0.a
  clear hW h0
  go_enter Tryz.func11, Tryz.ntmps11
  go_upto_region 1 with fail
  change Code.wp _ _ _ _ ((w.alloc (.cells #[.int .i64 x, .int .i64 y, .int .i64 z] 22)).alloc (.cells zrow 26))
  rw [HW.out.1]
  go_wp2_with fail
  refine (HM.out.1 _).mono ?_
  rintro e w' ⟨rfl, rfl⟩
  go_wp2_with fail
  refine (HO.out.1 _).mono ?_
  rintro e w1 ⟨rfl, b1⟩
  have H1 := Lib.hid (HW.out.2.next b1); clear b1 c0
  have c1 : w1.cell? ⟨w.heap.size, 1, none⟩ = some (.int .i64 y) := cell_of_row _ _ 1 _ _ _ H1.out.a
  go_wp2_with fail
  refine (HM.out.2.1 _).mono ?_
  rintro e w' ⟨rfl, rfl⟩
  go_wp2_with fail
  refine (HO.out.2.1 _).mono ?_
  rintro e w2 ⟨rfl, b2⟩
  have H2 := Lib.hid (H1.out.next b2); clear b2 c1
  have c2 : w2.cell? ⟨w.heap.size, 2, none⟩ = some (.int .i64 z) := cell_of_row _ _ 2 _ _ _ H2.out.a
  have c3 : w2.cell? ⟨w.heap.size, 0, none⟩ = some (.int .i64 x) := cell_of_row _ _ 0 _ _ _ H2.out.a
  go_wp2_with fail
  refine (HM.out.2.2.1 _).mono ?_
  rintro e w' ⟨rfl, rfl⟩
  go_wp2_with fail
  refine (HM.out.2.2.2.1 _).mono ?_
  rintro e w' ⟨rfl, rfl⟩
  go_wp2_with fail
  refine (HO.out.2.2.1 _).mono ?_
  rintro e w3 ⟨rfl, b3⟩
  have H3 := Lib.hid (H2.out.next b3); clear b3 c2 c3
  have c4 : w3.cell? ⟨w.heap.size, 1, none⟩ = some (.int .i64 y) := cell_of_row _ _ 1 _ _ _ H3.out.a
  go_wp2_with fail
  refine (HM.out.2.2.2.2.1 _).mono ?_
  rintro e w' ⟨rfl, rfl⟩
  go_wp2_with fail
  refine (HO.out.2.2.2.2.1 _).mono ?_
  rintro e w4 ⟨rfl, b4⟩
  have H4 := Lib.hid (H3.out.next b4); clear b4 c4
  have c5 : w4.cell? ⟨w.heap.size, 0, none⟩ = some (.int .i64 x) := cell_of_row _ _ 0 _ _ _ H4.out.a
  go_wp2_with fail
  refine (HL.out.1 _).mono ?_
  rintro e wz ⟨rfl, bz⟩
  have HZ := Lib.hid (H4.out.next bz); clear bz
  go_wp2_with (refine wpList_store_row rfl 26 (.tmp 2) (.tmp 66) rfl (w.heap.size + 1) (qcells q) rfl rfl 26 zrow HZ.out.z info26.out rfl (qone _) ?_)
  refine bodyPost_ret (results_cell_row rfl _ _ (w.heap.size + 1) _ (qcells q) _ _ rfl (setRow_heap _ _ _ _ _ _ HZ.out.z) Tryz.underlying26 rfl info26.out) rfl ?_
  exact ⟨q, HL.out.2, rfl, Below.setRow' HZ.out.b (by omega) _⟩
set_option maxRecDepth 100000 in
set_option maxHeartbeats 8000000 in
theorem made_2 (w : World) (x y z : Int) (hx : -9223372036854775808 ≤ x ∧ x ≤ 9223372036854775807) (hy : -9223372036854775808 ≤ y ∧ y ≤ 9223372036854775807)
    (K3 : ∀ W, Calls Tryz.prog 35 #[.int .i64 z, .int .i64 4] W fun e w' => e = .returned (.int .i64 2) ∧ w' = W) :
    Calls Tryz.prog 11 #[.agg #[.int .i64 x, .int .i64 y, .int .i64 z]] w (MadeR w) := by
  obtain ⟨r1, l1, K1⟩ := mod_nat x 1000 1000 rfl (by decide) (by decide) hx
  obtain ⟨r2, l2, K2⟩ := mod_nat y 60 60 rfl (by decide) (by decide) hy
  obtain ⟨r3, l3, K4⟩ := mod_nat x 4611686018427387904 4611686018427387904 rfl (by decide) (by decide) hx
  obtain ⟨r4, l4, K5⟩ := mod_nat y 4611686018427387904 4611686018427387904 rfl (by decide) (by decide) hy
  obtain ⟨r5, l5, K6⟩ := mod_nat x 2147483648 2147483648 rfl (by decide) (by decide) hx
  obtain ⟨r6, l6, K7⟩ := mod_nat x 7 7 rfl (by decide) (by decide) hx
  obtain ⟨r7, l7, K8⟩ := mod_nat y 7 7 rfl (by decide) (by decide) hy
  have O1 := fun W => rof_q W (r1 : Int) (NB r1) (by rw [Int.toNat_natCast]) (by omega) (by omega)
  have O2 := fun W => rof_q W (1 + (r2 : Int)) (NB (1 + r2)) (by rw [show (1 + (r2 : Int)).toNat = 1 + r2 by omega]) (by omega) (by omega)
  have O3 := fun W => rof_q W (r3 : Int) (NB r3) (by rw [Int.toNat_natCast]) (by omega) (by omega)
  have O4 := fun W => rof_q W (r4 : Int) (NB r4) (by rw [Int.toNat_natCast]) (by omega) (by omega)
  have O5 := fun W => rof_q W (1 + (r4 : Int)) (NB (1 + r4)) (by rw [show (1 + (r4 : Int)).toNat = 1 + r4 by omega]) (by omega) (by omega)
  have O6 := fun W => rof_q W (1 + (r5 : Int)) (NB (1 + r5)) (by rw [show (1 + (r5 : Int)).toNat = 1 + r5 by omega]) (by omega) (by omega)
  have O7 := fun W => rof_q W (r6 : Int) (NB r6) (by rw [Int.toNat_natCast]) (by omega) (by omega)
  have O8 := fun W => rof_q W (1 + (r7 : Int)) (NB (1 + r7)) (by rw [show (1 + (r7 : Int)).toNat = 1 + r7 by omega]) (by omega) (by omega)
  have q8 : (256 : Nat)^8 = 18446744073709551616 := by decide
  have X1 := fun W => rmul_q W r3 r4 8 (by omega) (by omega) (by decide)
  have X2 := fun W => rmul_q W (1 + r4) (1 + r5) 8 (by omega) (by omega) (by decide)
  have bn : r3 * r4 < 256^16 := mul_lt (N := 8) (M := 8) (by omega) (by omega)
  have bd : (1 + r4) * (1 + r5) < 256^16 := mul_lt (N := 8) (M := 8) (by omega) (by omega)
  have b0 : (1 + r4) * (1 + r5) ≠ 0 := Nat.mul_ne_zero (by omega) (by omega)
  have LL := fun W => lowest_q W (decide (x < 0)) (r3 * r4) ((1 + r4) * (1 + r5)) 16 bn bd b0 (by decide)
  have ss := smq_mk (decide (x < 0)) (r3 * r4) ((1 + r4) * (1 + r5)) 16 bn bd b0
  generalize mk (decide (x < 0)) (r3 * r4) ((1 + r4) * (1 + r5)) = q at *
  unfold QV at LL
  generalize NB (r3 * r4) = X12 at *
  generalize NB ((1 + r4) * (1 + r5)) = X22 at *
  generalize NB r1 = N1 at *
  generalize NB (1 + r2) = N2 at *
  generalize NB r3 = N3 at *
  generalize NB r4 = N4 at *
  generalize NB (1 + r4) = N5 at *
  generalize NB (1 + r5) = N6 at *
  generalize NB r6 = N7 at *
  generalize NB (1 + r7) = N8 at *
  have HM := Lib.hid (And.intro K1 (And.intro K2 (And.intro K3 (And.intro K4 (And.intro K5 (And.intro K6 (And.intro K7 K8)))))))
  have HO := Lib.hid (And.intro O1 (And.intro O2 (And.intro O3 (And.intro O4 (And.intro O5 (And.intro O6 (And.intro O7 O8)))))))
  have HX := Lib.hid (And.intro X1 X2)
  have HL := Lib.hid (And.intro LL ss)
  clear K1 K2 K3 K4 K5 K6 K7 K8 O1 O2 O3 O4 O5 O6 O7 O8 X1 X2 LL ss bn bd b0 q8 l1 l3 l6
  have h0 := m1_start w x y z
  obtain ⟨W, hW⟩ : ∃ W, (w.alloc (.cells #[.int .i64 x, .int .i64 y, .int .i64 z] 22)).alloc (.cells zrow 26) = W := ⟨_, rfl⟩
  rw [hW] at h0
  have HW := Lib.hid (And.intro hW h0)
  have c0 : W.cell? ⟨w.heap.size, 0, none⟩ = some (.int .i64 x) := cell_of_row _ _ 0 _ _ _ h0.a
  clear hW h0
  go_enter Tryz.func11, Tryz.ntmps11
  go_upto_region 1 with fail
  change Code.wp _ _ _ _ ((w.alloc (.cells #[.int .i64 x, .int .i64 y, .int .i64 z] 22)).alloc (.cells zrow 26))
  rw [HW.out.1]
  go_wp2_with fail
  refine (HM.out.1 _).mono ?_
  rintro e w' ⟨rfl, rfl⟩
  go_wp2_with fail
  refine (HO.out.1 _).mono ?_
  rintro e w1 ⟨rfl, b1⟩
  have H1 := Lib.hid (HW.out.2.next b1); clear b1 c0
  have c1 : w1.cell? ⟨w.heap.size, 1, none⟩ = some (.int .i64 y) := cell_of_row _ _ 1 _ _ _ H1.out.a
  go_wp2_with fail
  refine (HM.out.2.1 _).mono ?_
  rintro e w' ⟨rfl, rfl⟩
  go_wp2_with fail
  refine (HO.out.2.1 _).mono ?_
  rintro e w2 ⟨rfl, b2⟩
  have H2 := Lib.hid (H1.out.next b2); clear b2 c1
  have c2 : w2.cell? ⟨w.heap.size, 2, none⟩ = some (.int .i64 z) := cell_of_row _ _ 2 _ _ _ H2.out.a
  have c3 : w2.cell? ⟨w.heap.size, 0, none⟩ = some (.int .i64 x) := cell_of_row _ _ 0 _ _ _ H2.out.a
  go_wp2_with fail
  refine (HM.out.2.2.1 _).mono ?_
  rintro e w' ⟨rfl, rfl⟩
  go_upto_region 8 with fail
  clear c2 c3
  refine wp_region_held_drew (S := M1 w x y z) (by kernel_rfl) H2.out.drew (fun hS => ?_)
  refine wpAnyH_take (i := 0) (oi := { dst := some 30, op := Op.indexAddr 22 (Operand.tmp 1) (Operand.const (Value.int IntKind.i64 0)), type := 0, pos := "ref.go:210", after := #[], guard := none }) (v := ?vma0) rfl (by kernel_rfl) (by kernel_rfl) (by kernel_rfl) (fun _ _ _ h => h) (Or.inl ⟨by rfl, ?yma0⟩) hS ?rma0
  case yma0 => (intro w hS; go_simp; try with_reducible rfl)
  refine wpAnyH_take (i := 4) (oi := { dst := some 34, op := Op.indexAddr 22 (Operand.tmp 1) (Operand.const (Value.int IntKind.i64 1)), type := 0, pos := "ref.go:210", after := #[], guard := none }) (v := ?vma4) rfl (by kernel_rfl) (by kernel_rfl) (by kernel_rfl) (fun _ _ _ h => h) (Or.inl ⟨by rfl, ?yma4⟩) hS ?rma4
  case yma4 => (intro w hS; go_simp; try with_reducible rfl)
  go_simp
  refine wpAnyH_take (i := 1) (oi := { dst := some 31, op := Op.load 3 (Operand.tmp 30), type := 3, pos := "ref.go:210", after := #[{ on := 0, ground := Ground.data }], guard := none }) (v := .int .i64 x) rfl (by kernel_rfl) (by kernel_rfl) (by kernel_rfl) (fun _ _ _ h => h) (Or.inl ⟨by rfl, ?yma1⟩) hS ?rma1
  case yma1 => (intro w' hS; have cf := (show w'.cell? ⟨w.heap.size, 0, none⟩ = some (.int .i64 x) from cell_of_row _ _ 0 _ _ _ hS.a); go_simp; try with_reducible rfl)
  refine wpAnyH_take (i := 5) (oi := { dst := some 35, op := Op.load 3 (Operand.tmp 34), type := 3, pos := "ref.go:210", after := #[{ on := 4, ground := Ground.data }], guard := none }) (v := .int .i64 y) rfl (by kernel_rfl) (by kernel_rfl) (by kernel_rfl) (fun _ _ _ h => h) (Or.inl ⟨by rfl, ?yma5⟩) hS ?rma5
  case yma5 => (intro w' hS; have cf := (show w'.cell? ⟨w.heap.size, 1, none⟩ = some (.int .i64 y) from cell_of_row _ _ 1 _ _ _ hS.a); go_simp; try with_reducible rfl)
  go_simp
  refine wpAnyH_ready (rs := [2]) (by kernel_rfl) (by simp) ?_
  refine AllReadyH.cons (o := { dst := some 32, op := Op.call { callee := Callee.value (Operand.func 35), args := #[Operand.tmp 31, Operand.const (Value.int IntKind.i64 4611686018427387904)], argTypes := #[3, 3] }, type := 3, pos := "ref.go:210", after := #[{ on := 1, ground := Ground.data }], guard := none }) rfl (fun K hK => ?_) AllReadyH.nil
  go_simp
  go_at_call 35
  refine (HM.out.2.2.2.1 _).mono ?_
  rintro e w' ⟨rfl, rfl⟩
  try go_simp
  refine hK.out _ _ hS (fun hS => ?_)
  clear hK K
  refine wpAnyH_ready (rs := [3]) (by kernel_rfl) (by simp) ?_
  refine AllReadyH.cons (o := { dst := some 33, op := Op.call { callee := Callee.value (Operand.func 34), args := #[Operand.tmp 32], argTypes := #[3] }, type := 24, pos := "ref.go:210", after := #[{ on := 2, ground := Ground.data }, { on := 2, ground := Ground.chain }], guard := none }) rfl (fun K hK => ?_) AllReadyH.nil
  go_simp
  go_at_call 34
  refine (HO.out.2.2.1 _).mono ?_
  rintro e w' ⟨rfl, b⟩
  have hS2 := hS.next b
  clear b hS
  try go_simp
  refine hK.out _ _ hS2 (fun hS => ?_)
  clear hK K hS2
  refine wpAnyH_ready (rs := [6]) (by kernel_rfl) (by simp) ?_
  refine AllReadyH.cons (o := { dst := some 36, op := Op.call { callee := Callee.value (Operand.func 35), args := #[Operand.tmp 35, Operand.const (Value.int IntKind.i64 4611686018427387904)], argTypes := #[3, 3] }, type := 3, pos := "ref.go:210", after := #[{ on := 5, ground := Ground.data }, { on := 3, ground := Ground.chain }], guard := none }) rfl (fun K hK => ?_) AllReadyH.nil
  go_simp
  go_at_call 35
  refine (HM.out.2.2.2.2.1 _).mono ?_
  rintro e w' ⟨rfl, rfl⟩
  try go_simp
  refine hK.out _ _ hS (fun hS => ?_)
  clear hK K
  refine wpAnyH_ready (rs := [7]) (by kernel_rfl) (by simp) ?_
  refine AllReadyH.cons (o := { dst := some 37, op := Op.call { callee := Callee.value (Operand.func 34), args := #[Operand.tmp 36], argTypes := #[3] }, type := 24, pos := "ref.go:210", after := #[{ on := 6, ground := Ground.data }, { on := 6, ground := Ground.chain }], guard := none }) rfl (fun K hK => ?_) AllReadyH.nil
  go_simp
  go_at_call 34
  refine (HO.out.2.2.2.1 _).mono ?_
  rintro e w' ⟨rfl, b⟩
  have hS2 := hS.next b
  clear b hS
  try go_simp
  refine hK.out _ _ hS2 (fun hS => ?_)
  clear hK K hS2
  refine wpAnyH_ready (rs := [8]) (by kernel_rfl) (by simp) ?_
  refine AllReadyH.cons (o := { dst := some 38, op := Op.call { callee := Callee.value (Operand.func 45), args := #[Operand.tmp 33, Operand.tmp 37], argTypes := #[24, 24] }, type := 24, pos := "ref.go:210", after := #[{ on := 3, ground := Ground.data }, { on := 7, ground := Ground.data }, { on := 7, ground := Ground.chain }], guard := none }) rfl (fun K hK => ?_) AllReadyH.nil
  go_simp
  go_at_call 45
  refine (HX.out.1 _).mono ?_
  rintro e w' ⟨rfl, b⟩
  have hS2 := hS.next b
  clear b hS
  try go_simp
  refine hK.out _ _ hS2 (fun hS => ?_)
  clear hK K hS2
  refine wpAnyH_take (i := 9) (oi := { dst := some 3, op := Op.assign (Operand.tmp 38), type := 24, pos := "ref.go:210", after := #[{ on := 8, ground := Ground.data }, { on := 8, ground := Ground.chain }, { on := 0, ground := Ground.phase }, { on := 1, ground := Ground.phase }, { on := 2, ground := Ground.phase }, { on := 3, ground := Ground.phase }, { on := 4, ground := Ground.phase }, { on := 5, ground := Ground.phase }, { on := 6, ground := Ground.phase }, { on := 7, ground := Ground.phase }, { on := 8, ground := Ground.phase }], guard := none }) (v := ?vma9) rfl (by kernel_rfl) (by kernel_rfl) (by kernel_rfl) (fun _ _ _ h => h) (Or.inl ⟨by rfl, ?yma9⟩) hS ?rma9
  case yma9 => (intro w hS; go_simp; try with_reducible rfl)
  refine wpAnyH_done (by kernel_rfl) ?_ _
  have hS8 := hS
  clear hS
  go_upto_region 9 with fail
  have v4 : IntKind.i64.wrap (1 + (r4 : Int)) = 1 + (r4 : Int) := IntWalk.i64_in _ (by omega)
  have v5 : IntKind.i64.wrap (1 + (r5 : Int)) = 1 + (r5 : Int) := IntWalk.i64_in _ (by omega)
  refine wp_region_held_drew (S := M1 w x y z) (by kernel_rfl) hS8.drew (fun hS => ?_)
  clear hS8
  refine wpAnyH_take (i := 0) (oi := { dst := some 39, op := Op.indexAddr 22 (Operand.tmp 1) (Operand.const (Value.int IntKind.i64 1)), type := 0, pos := "ref.go:211", after := #[], guard := none }) (v := ?vmb0) rfl (by kernel_rfl) (by kernel_rfl) (by kernel_rfl) (fun _ _ _ h => h) (Or.inl ⟨by rfl, ?ymb0⟩) hS ?rmb0
  case ymb0 => (intro w hS; go_simp; try with_reducible rfl)
  refine wpAnyH_take (i := 5) (oi := { dst := some 44, op := Op.indexAddr 22 (Operand.tmp 1) (Operand.const (Value.int IntKind.i64 0)), type := 0, pos := "ref.go:211", after := #[], guard := none }) (v := ?vmb5) rfl (by kernel_rfl) (by kernel_rfl) (by kernel_rfl) (fun _ _ _ h => h) (Or.inl ⟨by rfl, ?ymb5⟩) hS ?rmb5
  case ymb5 => (intro w hS; go_simp; try with_reducible rfl)
  go_simp
  refine wpAnyH_take (i := 1) (oi := { dst := some 40, op := Op.load 3 (Operand.tmp 39), type := 3, pos := "ref.go:211", after := #[{ on := 0, ground := Ground.data }], guard := none }) (v := .int .i64 y) rfl (by kernel_rfl) (by kernel_rfl) (by kernel_rfl) (fun _ _ _ h => h) (Or.inl ⟨by rfl, ?ymb1⟩) hS ?rmb1
  case ymb1 => (intro w' hS; have cf := (show w'.cell? ⟨w.heap.size, 1, none⟩ = some (.int .i64 y) from cell_of_row _ _ 1 _ _ _ hS.a); go_simp; try with_reducible rfl)
  refine wpAnyH_take (i := 6) (oi := { dst := some 45, op := Op.load 3 (Operand.tmp 44), type := 3, pos := "ref.go:211", after := #[{ on := 5, ground := Ground.data }], guard := none }) (v := .int .i64 x) rfl (by kernel_rfl) (by kernel_rfl) (by kernel_rfl) (fun _ _ _ h => h) (Or.inl ⟨by rfl, ?ymb6⟩) hS ?rmb6
  case ymb6 => (intro w' hS; have cf := (show w'.cell? ⟨w.heap.size, 0, none⟩ = some (.int .i64 x) from cell_of_row _ _ 0 _ _ _ hS.a); go_simp; try with_reducible rfl)
  go_simp
  refine wpAnyH_ready (rs := [2]) (by kernel_rfl) (by simp) ?_
  refine AllReadyH.cons (o := { dst := some 41, op := Op.call { callee := Callee.value (Operand.func 35), args := #[Operand.tmp 40, Operand.const (Value.int IntKind.i64 4611686018427387904)], argTypes := #[3, 3] }, type := 3, pos := "ref.go:211", after := #[{ on := 1, ground := Ground.data }], guard := none }) rfl (fun K hK => ?_) AllReadyH.nil
  go_simp
  go_at_call 35
  refine (HM.out.2.2.2.2.1 _).mono ?_
  rintro e w' ⟨rfl, rfl⟩
  try go_simp
  refine hK.out _ _ hS (fun hS => ?_)
  clear hK K
  refine wpAnyH_take (i := 3) (oi := { dst := some 42, op := Op.binOp BinOp.add 3 (Operand.const (Value.int IntKind.i64 1)) (Operand.tmp 41) 3, type := 3, pos := "ref.go:211", after := #[{ on := 2, ground := Ground.data }], guard := none }) (v := ?vmb3) rfl (by kernel_rfl) (by kernel_rfl) (by kernel_rfl) (fun _ _ _ h => h) (Or.inl ⟨by rfl, ?ymb3⟩) hS ?rmb3
  case ymb3 => (intro w hS; go_simp; try with_reducible rfl)
  go_simp
  refine wpAnyH_ready (rs := [4]) (by kernel_rfl) (by simp) ?_
  refine AllReadyH.cons (o := { dst := some 43, op := Op.call { callee := Callee.value (Operand.func 34), args := #[Operand.tmp 42], argTypes := #[3] }, type := 24, pos := "ref.go:211", after := #[{ on := 3, ground := Ground.data }, { on := 2, ground := Ground.chain }], guard := none }) rfl (fun K hK => ?_) AllReadyH.nil
  go_simp
  go_at_call 34
  refine (HO.out.2.2.2.2.1 _).mono ?_
  rintro e w' ⟨rfl, b⟩
  have hS2 := hS.next b
  clear b hS
  try go_simp
  refine hK.out _ _ hS2 (fun hS => ?_)
  clear hK K hS2
  refine wpAnyH_ready (rs := [7]) (by kernel_rfl) (by simp) ?_
  refine AllReadyH.cons (o := { dst := some 46, op := Op.call { callee := Callee.value (Operand.func 35), args := #[Operand.tmp 45, Operand.const (Value.int IntKind.i64 2147483648)], argTypes := #[3, 3] }, type := 3, pos := "ref.go:211", after := #[{ on := 6, ground := Ground.data }, { on := 4, ground := Ground.chain }], guard := none }) rfl (fun K hK => ?_) AllReadyH.nil
  go_simp
  go_at_call 35
  refine (HM.out.2.2.2.2.2.1 _).mono ?_
  rintro e w' ⟨rfl, rfl⟩
  try go_simp
  refine hK.out _ _ hS (fun hS => ?_)
  clear hK K
  refine wpAnyH_take (i := 8) (oi := { dst := some 47, op := Op.binOp BinOp.add 3 (Operand.const (Value.int IntKind.i64 1)) (Operand.tmp 46) 3, type := 3, pos := "ref.go:211", after := #[{ on := 7, ground := Ground.data }], guard := none }) (v := ?vmb8) rfl (by kernel_rfl) (by kernel_rfl) (by kernel_rfl) (fun _ _ _ h => h) (Or.inl ⟨by rfl, ?ymb8⟩) hS ?rmb8
  case ymb8 => (intro w hS; go_simp; try with_reducible rfl)
  go_simp
  refine wpAnyH_ready (rs := [9]) (by kernel_rfl) (by simp) ?_
  refine AllReadyH.cons (o := { dst := some 48, op := Op.call { callee := Callee.value (Operand.func 34), args := #[Operand.tmp 47], argTypes := #[3] }, type := 24, pos := "ref.go:211", after := #[{ on := 8, ground := Ground.data }, { on := 7, ground := Ground.chain }], guard := none }) rfl (fun K hK => ?_) AllReadyH.nil
  go_simp
  go_at_call 34
  refine (HO.out.2.2.2.2.2.1 _).mono ?_
  rintro e w' ⟨rfl, b⟩
  have hS2 := hS.next b
  clear b hS
  try go_simp
  refine hK.out _ _ hS2 (fun hS => ?_)
  clear hK K hS2
  refine wpAnyH_ready (rs := [10]) (by kernel_rfl) (by simp) ?_
  refine AllReadyH.cons (o := { dst := some 49, op := Op.call { callee := Callee.value (Operand.func 45), args := #[Operand.tmp 43, Operand.tmp 48], argTypes := #[24, 24] }, type := 24, pos := "ref.go:211", after := #[{ on := 4, ground := Ground.data }, { on := 9, ground := Ground.data }, { on := 9, ground := Ground.chain }], guard := none }) rfl (fun K hK => ?_) AllReadyH.nil
  go_simp
  go_at_call 45
  refine (HX.out.2 _).mono ?_
  rintro e w' ⟨rfl, b⟩
  have hS2 := hS.next b
  clear b hS
  try go_simp
  refine hK.out _ _ hS2 (fun hS => ?_)
  clear hK K hS2
  refine wpAnyH_take (i := 11) (oi := { dst := some 4, op := Op.assign (Operand.tmp 49), type := 24, pos := "ref.go:211", after := #[{ on := 10, ground := Ground.data }, { on := 10, ground := Ground.chain }, { on := 0, ground := Ground.phase }, { on := 1, ground := Ground.phase }, { on := 2, ground := Ground.phase }, { on := 3, ground := Ground.phase }, { on := 4, ground := Ground.phase }, { on := 5, ground := Ground.phase }, { on := 6, ground := Ground.phase }, { on := 7, ground := Ground.phase }, { on := 8, ground := Ground.phase }, { on := 9, ground := Ground.phase }, { on := 10, ground := Ground.phase }], guard := none }) (v := ?vmb11) rfl (by kernel_rfl) (by kernel_rfl) (by kernel_rfl) (fun _ _ _ h => h) (Or.inl ⟨by rfl, ?ymb11⟩) hS ?rmb11
  case ymb11 => (intro w hS; go_simp; try with_reducible rfl)
  refine wpAnyH_done (by kernel_rfl) ?_ _
  clear v4 v5
  have c5 : w'.cell? ⟨w.heap.size, 0, none⟩ = some (.int .i64 x) := cell_of_row _ _ 0 _ _ _ hS.a
  have H4 := Lib.hid hS
  clear hS
  go_wp2_with fail
  refine (HL.out.1 _).mono ?_
  rintro e wz ⟨rfl, bz⟩
  have HZ := Lib.hid (H4.out.next bz); clear bz
  go_wp2_with (refine wpList_store_row rfl 26 (.tmp 2) (.tmp 66) rfl (w.heap.size + 1) (qcells q) rfl rfl 26 zrow HZ.out.z info26.out rfl (qone _) ?_)
  refine bodyPost_ret (results_cell_row rfl _ _ (w.heap.size + 1) _ (qcells q) _ _ rfl (setRow_heap _ _ _ _ _ _ HZ.out.z) Tryz.underlying26 rfl info26.out) rfl ?_
  exact ⟨q, HL.out.2, rfl, Below.setRow' HZ.out.b (by omega) _⟩
set_option maxRecDepth 100000 in
set_option maxHeartbeats 8000000 in
theorem made_3 (w : World) (x y z : Int) (hx : -9223372036854775808 ≤ x ∧ x ≤ 9223372036854775807) (hy : -9223372036854775808 ≤ y ∧ y ≤ 9223372036854775807)
    (K3 : ∀ W, Calls Tryz.prog 35 #[.int .i64 z, .int .i64 4] W fun e w' => e = .returned (.int .i64 3) ∧ w' = W) :
    Calls Tryz.prog 11 #[.agg #[.int .i64 x, .int .i64 y, .int .i64 z]] w (MadeR w) := by
  obtain ⟨r1, l1, K1⟩ := mod_nat x 1000 1000 rfl (by decide) (by decide) hx
  obtain ⟨r2, l2, K2⟩ := mod_nat y 60 60 rfl (by decide) (by decide) hy
  obtain ⟨r3, l3, K4⟩ := mod_nat x 4611686018427387904 4611686018427387904 rfl (by decide) (by decide) hx
  obtain ⟨r4, l4, K5⟩ := mod_nat y 4611686018427387904 4611686018427387904 rfl (by decide) (by decide) hy
  obtain ⟨r5, l5, K6⟩ := mod_nat x 2147483648 2147483648 rfl (by decide) (by decide) hx
  obtain ⟨r6, l6, K7⟩ := mod_nat x 7 7 rfl (by decide) (by decide) hx
  obtain ⟨r7, l7, K8⟩ := mod_nat y 7 7 rfl (by decide) (by decide) hy
  have O1 := fun W => rof_q W (r1 : Int) (NB r1) (by rw [Int.toNat_natCast]) (by omega) (by omega)
  have O2 := fun W => rof_q W (1 + (r2 : Int)) (NB (1 + r2)) (by rw [show (1 + (r2 : Int)).toNat = 1 + r2 by omega]) (by omega) (by omega)
  have O3 := fun W => rof_q W (r3 : Int) (NB r3) (by rw [Int.toNat_natCast]) (by omega) (by omega)
  have O4 := fun W => rof_q W (r4 : Int) (NB r4) (by rw [Int.toNat_natCast]) (by omega) (by omega)
  have O5 := fun W => rof_q W (1 + (r4 : Int)) (NB (1 + r4)) (by rw [show (1 + (r4 : Int)).toNat = 1 + r4 by omega]) (by omega) (by omega)
  have O6 := fun W => rof_q W (1 + (r5 : Int)) (NB (1 + r5)) (by rw [show (1 + (r5 : Int)).toNat = 1 + r5 by omega]) (by omega) (by omega)
  have O7 := fun W => rof_q W (r6 : Int) (NB r6) (by rw [Int.toNat_natCast]) (by omega) (by omega)
  have O8 := fun W => rof_q W (1 + (r7 : Int)) (NB (1 + r7)) (by rw [show (1 + (r7 : Int)).toNat = 1 + r7 by omega]) (by omega) (by omega)
  have q8 : (256 : Nat)^8 = 18446744073709551616 := by decide
  have X1 := fun W => rmul_q W r3 r4 8 (by omega) (by omega) (by decide)
  have X2 := fun W => rmul_q W (1 + r4) (1 + r5) 8 (by omega) (by omega) (by decide)
  have q16 : (256 : Nat)^16 = 340282366920938463463374607431768211456 := by decide
  have bn : r6 < 256^16 := by omega
  have bd : 1 + r7 < 256^16 := by omega
  have b0 : 1 + r7 ≠ 0 := by omega
  clear q16
  have LL := fun W => lowest_q W (decide (x < 0)) (r6) (1 + r7) 16 bn bd b0 (by decide)
  have ss := smq_mk (decide (x < 0)) (r6) (1 + r7) 16 bn bd b0
  generalize mk (decide (x < 0)) (r6) (1 + r7) = q at *
  unfold QV at LL
  generalize NB (r3 * r4) = X12 at *
  generalize NB ((1 + r4) * (1 + r5)) = X22 at *
  generalize NB r1 = N1 at *
  generalize NB (1 + r2) = N2 at *
  generalize NB r3 = N3 at *
  generalize NB r4 = N4 at *
  generalize NB (1 + r4) = N5 at *
  generalize NB (1 + r5) = N6 at *
  generalize NB r6 = N7 at *
  generalize NB (1 + r7) = N8 at *
  have HM := Lib.hid (And.intro K1 (And.intro K2 (And.intro K3 (And.intro K4 (And.intro K5 (And.intro K6 (And.intro K7 K8)))))))
  have HO := Lib.hid (And.intro O1 (And.intro O2 (And.intro O3 (And.intro O4 (And.intro O5 (And.intro O6 (And.intro O7 O8)))))))
  have HX := Lib.hid (And.intro X1 X2)
  have HL := Lib.hid (And.intro LL ss)
  clear K1 K2 K3 K4 K5 K6 K7 K8 O1 O2 O3 O4 O5 O6 O7 O8 X1 X2 LL ss bn bd b0 q8 l1 l3 l6
  have h0 := m1_start w x y z
  obtain ⟨W, hW⟩ : ∃ W, (w.alloc (.cells #[.int .i64 x, .int .i64 y, .int .i64 z] 22)).alloc (.cells zrow 26) = W := ⟨_, rfl⟩
  rw [hW] at h0
  have HW := Lib.hid (And.intro hW h0)
  have c0 : W.cell? ⟨w.heap.size, 0, none⟩ = some (.int .i64 x) := cell_of_row _ _ 0 _ _ _ h0.a
  clear hW h0
  go_enter Tryz.func11, Tryz.ntmps11
  go_upto_region 1 with fail
  change Code.wp _ _ _ _ ((w.alloc (.cells #[.int .i64 x, .int .i64 y, .int .i64 z] 22)).alloc (.cells zrow 26))
  rw [HW.out.1]
  go_wp2_with fail
  refine (HM.out.1 _).mono ?_
  rintro e w' ⟨rfl, rfl⟩
  go_wp2_with fail
  refine (HO.out.1 _).mono ?_
  rintro e w1 ⟨rfl, b1⟩
  have H1 := Lib.hid (HW.out.2.next b1); clear b1 c0
  have c1 : w1.cell? ⟨w.heap.size, 1, none⟩ = some (.int .i64 y) := cell_of_row _ _ 1 _ _ _ H1.out.a
  go_wp2_with fail
  refine (HM.out.2.1 _).mono ?_
  rintro e w' ⟨rfl, rfl⟩
  go_wp2_with fail
  refine (HO.out.2.1 _).mono ?_
  rintro e w2 ⟨rfl, b2⟩
  have H2 := Lib.hid (H1.out.next b2); clear b2 c1
  have c2 : w2.cell? ⟨w.heap.size, 2, none⟩ = some (.int .i64 z) := cell_of_row _ _ 2 _ _ _ H2.out.a
  have c3 : w2.cell? ⟨w.heap.size, 0, none⟩ = some (.int .i64 x) := cell_of_row _ _ 0 _ _ _ H2.out.a
  go_wp2_with fail
  refine (HM.out.2.2.1 _).mono ?_
  rintro e w' ⟨rfl, rfl⟩
  go_wp2_with fail
  refine (HM.out.2.2.2.2.2.2.1 _).mono ?_
  rintro e w' ⟨rfl, rfl⟩
  go_wp2_with fail
  refine (HO.out.2.2.2.2.2.2.1 _).mono ?_
  rintro e w3 ⟨rfl, b3⟩
  have H3 := Lib.hid (H2.out.next b3); clear b3 c2 c3
  have c4 : w3.cell? ⟨w.heap.size, 1, none⟩ = some (.int .i64 y) := cell_of_row _ _ 1 _ _ _ H3.out.a
  go_wp2_with fail
  refine (HM.out.2.2.2.2.2.2.2 _).mono ?_
  rintro e w' ⟨rfl, rfl⟩
  go_wp2_with fail
  refine (HO.out.2.2.2.2.2.2.2 _).mono ?_
  rintro e w4 ⟨rfl, b4⟩
  have H4 := Lib.hid (H3.out.next b4); clear b4 c4
  have c5 : w4.cell? ⟨w.heap.size, 0, none⟩ = some (.int .i64 x) := cell_of_row _ _ 0 _ _ _ H4.out.a
  go_wp2_with fail
  refine (HL.out.1 _).mono ?_
  rintro e wz ⟨rfl, bz⟩
  have HZ := Lib.hid (H4.out.next bz); clear bz
  go_wp2_with (refine wpList_store_row rfl 26 (.tmp 2) (.tmp 66) rfl (w.heap.size + 1) (qcells q) rfl rfl 26 zrow HZ.out.z info26.out rfl (qone _) ?_)
  refine bodyPost_ret (results_cell_row rfl _ _ (w.heap.size + 1) _ (qcells q) _ _ rfl (setRow_heap _ _ _ _ _ _ HZ.out.z) Tryz.underlying26 rfl info26.out) rfl ?_
  exact ⟨q, HL.out.2, rfl, Below.setRow' HZ.out.b (by omega) _⟩
theorem made_q (w : World) (x y z : Int) (hx : -9223372036854775808 ≤ x ∧ x ≤ 9223372036854775807) (hy : -9223372036854775808 ≤ y ∧ y ≤ 9223372036854775807) (hz : -9223372036854775808 ≤ z ∧ z ≤ 9223372036854775807) :
    Calls Tryz.prog 11 #[.agg #[.int .i64 x, .int .i64 y, .int .i64 z]] w (MadeR w) := by
  obtain ⟨c, lc, K⟩ := mod_nat z 4 4 rfl (by decide) (by decide) hz
  match c, lc with
  | 0, _ => exact made_0 w x y z hx hy K
  | 1, _ => exact made_1 w x y z hx hy K
  | 2, _ => exact made_2 w x y z hx hy K
  | 3, _ => exact made_3 w x y z hx hy K
end Go.Proofs.YteccbedmpjeamaaGreatDoor
