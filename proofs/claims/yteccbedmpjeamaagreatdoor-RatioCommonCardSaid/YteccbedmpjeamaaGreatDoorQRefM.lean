/-
  The walks of the reference's Mul and Add.
-/
import Derived.Test.YteccbedmpjeamaaGreatDoorQC
import Derived.Test.YteccbedmpjeamaaGreatDoorRefAdd
namespace Go.Proofs.YteccbedmpjeamaaGreatDoor
open Go.RowKit NM QM
set_option maxRecDepth 100000 in
set_option maxHeartbeats 8000000 in
theorem rMul (w : World) (g1 g2 : Bool) (A1 B1 A2 B2 : ByteArray) (N : Nat) (hA1 : A1.size ≤ N) (hB1 : B1.size ≤ N) (hA2 : A2.size ≤ N) (hB2 : B2.size ≤ N) (hN1 : 1 ≤ N) (hN : N ≤ 1000000) (hT : Tb w) :
    Calls Tryz.prog 19 #[RW g1 A1 B1, RW g2 A2 B2] w fun e w' => e = .returned (QV (rvq g1 A1 B1 * rvq g2 A2 B2)) ∧ Below w.heap.size w w' := by
  have V1 := fun W => value_q W g1 A1 B1 N hA1 hB1 hN
  have V2 := fun W => value_q W g2 A2 B2 N hA2 hB2 hN
  have s1 := SmQ_rvq g1 A1 B1 N hA1 hB1 hN1
  have s2 := SmQ_rvq g2 A2 B2 N hA2 hB2 hN1
  generalize rvq g1 A1 B1 = a at *
  generalize rvq g2 A2 B2 = b at *
  have M1 := fun W => rmul_q W a.num.natAbs b.num.natAbs N s1.1 s2.1 (by omega)
  have M2 := fun W => rmul_q W a.den b.den N s1.2 s2.2 (by omega)
  have L1 := fun W => lowest_q W (decide (a.num < 0) != decide (b.num < 0)) (a.num.natAbs * b.num.natAbs) (a.den * b.den) (N + N) (mul_lt s1.1 s2.1) (mul_lt s1.2 s2.2) (Nat.mul_ne_zero a.den_nz b.den_nz) (by omega)
  rw [mk_prod a b] at L1
  unfold QV at *
  have HP := Lib.hid (And.intro M1 (And.intro M2 L1))
  clear M1 M2 L1 s1 s2
  have h0 := d2_start w (rrow g1 A1 B1) (rrow g2 A2 B2) hT
  have hz := d2_z w (rrow g1 A1 B1) (rrow g2 A2 B2)
  obtain ⟨W, hW⟩ : ∃ W, ((w.alloc (.cells (rrow g1 A1 B1) 26)).alloc (.cells (rrow g2 A2 B2) 26)).alloc (.cells zrow 26) = W := ⟨_, rfl⟩
  rw [hW] at h0 hz
  have HV := Lib.hid (And.intro V1 V2)
  have HW := Lib.hid (And.intro hW (And.intro h0 hz))
  have HT := Lib.hid hT
  clear V1 V2 hW hz hT
  have c0 : W.cell? ⟨w.heap.size, 0, none⟩ = some (.bool g1) := cell_of_row _ _ 0 _ _ _ h0.a
  have c1 : W.cell? ⟨w.heap.size, 1, none⟩ = some (.string A1) := cell_of_row _ _ 1 _ _ _ h0.a
  have c2 : W.cell? ⟨w.heap.size, 2, none⟩ = some (.string B1) := cell_of_row _ _ 2 _ _ _ h0.a
  clear h0
  unfold RW
  go_enter Tryz.func19, Tryz.ntmps19
  go_upto_region 1 with fail
  change Code.wp _ _ _ _ (((w.alloc (.cells (rrow g1 A1 B1) 26)).alloc (.cells (rrow g2 A2 B2) 26)).alloc (.cells zrow 26))
  rw [HW.out.1]
  go_wp2_with fail
  refine (HV.out.1 _).mono ?_
  rintro e w1 ⟨rfl, b1⟩
  have H1 := Lib.hid (HW.out.2.1.next b1)
  have Z1 := Lib.hid ((b1.block _ HW.out.2.1.lt).trans HW.out.2.2); clear b1
  go_upto_region 2 with (refine wpList_store_row rfl 26 (.tmp 2) (.tmp 6) rfl w.heap.size (qcells a) rfl rfl 26 (rrow g1 A1 B1) H1.out.a info26.out rfl (qone _) ?_)
  have H2 := Lib.hid (H1.out.storeA HT.out (qcells a))
  have Z2 := Lib.hid ((setRow_other w1 w.heap.size (w.heap.size + 2) (qcells a) (by omega)).trans Z1.out)
  generalize w1.setRow w.heap.size (qcells a) = Y at *
  clear H1 Z1 c0 c1 c2 HW
  have c0 : Y.cell? ⟨w.heap.size + 1, 0, none⟩ = some (.bool g2) := cell_of_row _ _ 0 _ _ _ H2.out.c
  have c1 : Y.cell? ⟨w.heap.size + 1, 1, none⟩ = some (.string A2) := cell_of_row _ _ 1 _ _ _ H2.out.c
  have c2 : Y.cell? ⟨w.heap.size + 1, 2, none⟩ = some (.string B2) := cell_of_row _ _ 2 _ _ _ H2.out.c
  go_wp2_with fail
  refine (HV.out.2 _).mono ?_
  rintro e w3 ⟨rfl, b3⟩
  have H3 := Lib.hid (H2.out.next b3)
  have Z3 := Lib.hid ((b3.block _ H2.out.lt).trans Z2.out); clear b3
  go_upto_region 3 with (refine wpList_store_row rfl 26 (.tmp 3) (.tmp 8) rfl (w.heap.size + 1) (qcells b) rfl rfl 26 (rrow g2 A2 B2) H3.out.c info26.out rfl (qone _) ?_)
  have H4 := Lib.hid (H3.out.storeB HT.out (qcells b))
  have Z4 := Lib.hid ((setRow_other w3 (w.heap.size + 1) (w.heap.size + 2) (qcells b) (by omega)).trans Z3.out)
  generalize w3.setRow (w.heap.size + 1) (qcells b) = X at *
  clear H2 Z2 H3 Z3 c0 c1 c2
  have hz : X.drew.heap[w.heap.size + 2]? = _ := Z4.out
  refine wp_region_held_drew (S := D2 w (qcells a) (qcells b)) (by kernel_rfl) H4.out.drew (fun hS => ?_)
  clear H4 Z4
  refine wpAnyH_take (i := 0) (oi := { dst := some 9, op := Op.fieldAddr 26 (Operand.tmp 2) 0, type := 0, pos := "ref.go:109", after := #[], guard := none }) (v := ?vrm0) rfl (by kernel_rfl) (by kernel_rfl) (by kernel_rfl) (fun _ _ _ h => h) (Or.inl ⟨by rfl, ?yrm0⟩) hS ?rrm0
  case yrm0 => (intro w hS; go_simp; try with_reducible rfl)
  refine wpAnyH_take (i := 2) (oi := { dst := some 11, op := Op.fieldAddr 26 (Operand.tmp 3) 0, type := 0, pos := "ref.go:109", after := #[], guard := none }) (v := ?vrm2) rfl (by kernel_rfl) (by kernel_rfl) (by kernel_rfl) (fun _ _ _ h => h) (Or.inl ⟨by rfl, ?yrm2⟩) hS ?rrm2
  case yrm2 => (intro w hS; go_simp; try with_reducible rfl)
  refine wpAnyH_take (i := 5) (oi := { dst := some 14, op := Op.fieldAddr 26 (Operand.tmp 2) 1, type := 0, pos := "ref.go:109", after := #[], guard := none }) (v := ?vrm5) rfl (by kernel_rfl) (by kernel_rfl) (by kernel_rfl) (fun _ _ _ h => h) (Or.inl ⟨by rfl, ?yrm5⟩) hS ?rrm5
  case yrm5 => (intro w hS; go_simp; try with_reducible rfl)
  refine wpAnyH_take (i := 7) (oi := { dst := some 16, op := Op.fieldAddr 26 (Operand.tmp 3) 1, type := 0, pos := "ref.go:109", after := #[], guard := none }) (v := ?vrm7) rfl (by kernel_rfl) (by kernel_rfl) (by kernel_rfl) (fun _ _ _ h => h) (Or.inl ⟨by rfl, ?yrm7⟩) hS ?rrm7
  case yrm7 => (intro w hS; go_simp; try with_reducible rfl)
  refine wpAnyH_take (i := 10) (oi := { dst := some 19, op := Op.fieldAddr 26 (Operand.tmp 2) 2, type := 0, pos := "ref.go:109", after := #[], guard := none }) (v := ?vrm10) rfl (by kernel_rfl) (by kernel_rfl) (by kernel_rfl) (fun _ _ _ h => h) (Or.inl ⟨by rfl, ?yrm10⟩) hS ?rrm10
  case yrm10 => (intro w hS; go_simp; try with_reducible rfl)
  refine wpAnyH_take (i := 12) (oi := { dst := some 21, op := Op.fieldAddr 26 (Operand.tmp 3) 2, type := 0, pos := "ref.go:109", after := #[], guard := none }) (v := ?vrm12) rfl (by kernel_rfl) (by kernel_rfl) (by kernel_rfl) (fun _ _ _ h => h) (Or.inl ⟨by rfl, ?yrm12⟩) hS ?rrm12
  case yrm12 => (intro w hS; go_simp; try with_reducible rfl)
  go_simp
  refine wpAnyH_take (i := 1) (oi := { dst := some 10, op := Op.load 4 (Operand.tmp 9), type := 4, pos := "ref.go:109", after := #[{ on := 0, ground := Ground.data }], guard := none }) (v := .bool (decide (a.num < 0))) rfl (by kernel_rfl) (by kernel_rfl) (by kernel_rfl) (fun _ _ _ h => h) (Or.inl ⟨by rfl, ?yrm1⟩) hS ?rrm1
  case yrm1 => (intro w' hS; have cf := (show w'.cell? ⟨w.heap.size, 0, none⟩ = some (.bool (decide (a.num < 0))) from cell_of_row _ _ 0 _ _ _ hS.a); go_simp; try with_reducible rfl)
  refine wpAnyH_take (i := 3) (oi := { dst := some 12, op := Op.load 4 (Operand.tmp 11), type := 4, pos := "ref.go:109", after := #[{ on := 2, ground := Ground.data }], guard := none }) (v := .bool (decide (b.num < 0))) rfl (by kernel_rfl) (by kernel_rfl) (by kernel_rfl) (fun _ _ _ h => h) (Or.inl ⟨by rfl, ?yrm3⟩) hS ?rrm3
  case yrm3 => (intro w' hS; have cf := (show w'.cell? ⟨(w.heap.size + 1), 0, none⟩ = some (.bool (decide (b.num < 0))) from cell_of_row _ _ 0 _ _ _ hS.c); go_simp; try with_reducible rfl)
  refine wpAnyH_take (i := 6) (oi := { dst := some 15, op := Op.load 24 (Operand.tmp 14), type := 24, pos := "ref.go:109", after := #[{ on := 5, ground := Ground.data }], guard := none }) (v := .string (NB a.num.natAbs)) rfl (by kernel_rfl) (by kernel_rfl) (by kernel_rfl) (fun _ _ _ h => h) (Or.inl ⟨by rfl, ?yrm6⟩) hS ?rrm6
  case yrm6 => (intro w' hS; have cf := (show w'.cell? ⟨w.heap.size, 1, none⟩ = some (.string (NB a.num.natAbs)) from cell_of_row _ _ 1 _ _ _ hS.a); go_simp; try with_reducible rfl)
  refine wpAnyH_take (i := 8) (oi := { dst := some 17, op := Op.load 24 (Operand.tmp 16), type := 24, pos := "ref.go:109", after := #[{ on := 7, ground := Ground.data }], guard := none }) (v := .string (NB b.num.natAbs)) rfl (by kernel_rfl) (by kernel_rfl) (by kernel_rfl) (fun _ _ _ h => h) (Or.inl ⟨by rfl, ?yrm8⟩) hS ?rrm8
  case yrm8 => (intro w' hS; have cf := (show w'.cell? ⟨(w.heap.size + 1), 1, none⟩ = some (.string (NB b.num.natAbs)) from cell_of_row _ _ 1 _ _ _ hS.c); go_simp; try with_reducible rfl)
  refine wpAnyH_take (i := 11) (oi := { dst := some 20, op := Op.load 24 (Operand.tmp 19), type := 24, pos := "ref.go:109", after := #[{ on := 10, ground := Ground.data }], guard := none }) (v := .string (NB a.den)) rfl (by kernel_rfl) (by kernel_rfl) (by kernel_rfl) (fun _ _ _ h => h) (Or.inl ⟨by rfl, ?yrm11⟩) hS ?rrm11
  case yrm11 => (intro w' hS; have cf := (show w'.cell? ⟨w.heap.size, 2, none⟩ = some (.string (NB a.den)) from cell_of_row _ _ 2 _ _ _ hS.a); go_simp; try with_reducible rfl)
  refine wpAnyH_take (i := 13) (oi := { dst := some 22, op := Op.load 24 (Operand.tmp 21), type := 24, pos := "ref.go:109", after := #[{ on := 12, ground := Ground.data }], guard := none }) (v := .string (NB b.den)) rfl (by kernel_rfl) (by kernel_rfl) (by kernel_rfl) (fun _ _ _ h => h) (Or.inl ⟨by rfl, ?yrm13⟩) hS ?rrm13
  case yrm13 => (intro w' hS; have cf := (show w'.cell? ⟨(w.heap.size + 1), 2, none⟩ = some (.string (NB b.den)) from cell_of_row _ _ 2 _ _ _ hS.c); go_simp; try with_reducible rfl)
  go_simp
  refine wpAnyH_take (i := 4) (oi := { dst := some 13, op := Op.binOp BinOp.neq 4 (Operand.tmp 10) (Operand.tmp 12) 4, type := 4, pos := "ref.go:109", after := #[{ on := 1, ground := Ground.data }, { on := 3, ground := Ground.data }], guard := none }) (v := ?vrm4) rfl (by kernel_rfl) (by kernel_rfl) (by kernel_rfl) (fun _ _ _ h => h) (Or.inl ⟨by rfl, ?yrm4⟩) hS ?rrm4
  case yrm4 => (intro w hS; go_simp; try with_reducible rfl)
  go_simp
  refine wpAnyH_ready (rs := [9]) (by kernel_rfl) (by simp) ?_
  refine AllReadyH.cons (o := { dst := some 18, op := Op.call { callee := Callee.value (Operand.func 45), args := #[Operand.tmp 15, Operand.tmp 17], argTypes := #[24, 24] }, type := 24, pos := "ref.go:109", after := #[{ on := 6, ground := Ground.data }, { on := 8, ground := Ground.data }], guard := none }) rfl (fun K hK => ?_) AllReadyH.nil
  go_simp
  go_at_call 45
  refine (HP.out.1 _).mono ?_
  rintro e w' ⟨rfl, b⟩
  have hS2 := hS.next b
  have hz2 := (b.block _ hS.lt).trans hz
  clear hz
  have hz := hz2
  clear hz2
  clear b hS
  try go_simp
  refine hK.out _ _ hS2 (fun hS => ?_)
  clear hK K hS2
  refine wpAnyH_ready (rs := [14]) (by kernel_rfl) (by simp) ?_
  refine AllReadyH.cons (o := { dst := some 23, op := Op.call { callee := Callee.value (Operand.func 45), args := #[Operand.tmp 20, Operand.tmp 22], argTypes := #[24, 24] }, type := 24, pos := "ref.go:109", after := #[{ on := 11, ground := Ground.data }, { on := 13, ground := Ground.data }, { on := 9, ground := Ground.chain }], guard := none }) rfl (fun K hK => ?_) AllReadyH.nil
  go_simp
  go_at_call 45
  refine (HP.out.2.1 _).mono ?_
  rintro e w' ⟨rfl, b⟩
  have hS2 := hS.next b
  have hz2 := (b.block _ hS.lt).trans hz
  clear hz
  have hz := hz2
  clear hz2
  clear b hS
  try go_simp
  refine hK.out _ _ hS2 (fun hS => ?_)
  clear hK K hS2
  refine wpAnyH_ready (rs := [15]) (by kernel_rfl) (by simp) ?_
  refine AllReadyH.cons (o := { dst := some 24, op := Op.call { callee := Callee.value (Operand.func 46), args := #[Operand.tmp 13, Operand.tmp 18, Operand.tmp 23], argTypes := #[4, 24, 24] }, type := 26, pos := "ref.go:109", after := #[{ on := 4, ground := Ground.data }, { on := 9, ground := Ground.data }, { on := 14, ground := Ground.data }, { on := 14, ground := Ground.chain }], guard := none }) rfl (fun K hK => ?_) AllReadyH.nil
  go_simp
  go_at_call 46
  refine (HP.out.2.2 _).mono ?_
  rintro e w' ⟨rfl, b⟩
  have hS2 := hS.next b
  have hz2 := (b.block _ hS.lt).trans hz
  clear hz
  have hz := hz2
  clear hz2
  clear b hS
  try go_simp
  refine hK.out _ _ hS2 (fun hS => ?_)
  clear hK K hS2
  refine wpAnyH_ready (rs := [16]) (by kernel_rfl) (by simp) ?_
  refine AllReadyH.cons (o := { dst := none, op := Op.store 26 (Operand.tmp 4) (Operand.tmp 24), type := 0, pos := "ref.go:109", after := #[{ on := 15, ground := Ground.data }, { on := 15, ground := Ground.chain }, { on := 0, ground := Ground.phase }, { on := 1, ground := Ground.phase }, { on := 2, ground := Ground.phase }, { on := 3, ground := Ground.phase }, { on := 4, ground := Ground.phase }, { on := 5, ground := Ground.phase }, { on := 6, ground := Ground.phase }, { on := 7, ground := Ground.phase }, { on := 8, ground := Ground.phase }, { on := 9, ground := Ground.phase }, { on := 10, ground := Ground.phase }, { on := 11, ground := Ground.phase }, { on := 12, ground := Ground.phase }, { on := 13, ground := Ground.phase }, { on := 14, ground := Ground.phase }, { on := 15, ground := Ground.phase }], guard := none }) rfl (fun K hK => ?_) AllReadyH.nil
  rw [if_pos (by rfl)]
  refine wp_store_row 26 (.tmp 4) (.tmp 24) rfl (w.heap.size + 2) (qcells (a * b)) (by first | rfl | (simp [Act.eval])) (by first | rfl | (simp [Act.eval])) 26 zrow hz info26.out rfl (qone _) ?_
  have hS2 := hS.store HT.out (qcells (a * b))
  clear hS
  refine hK.out _ _ hS2 (fun hS => ?_)
  clear hK K hS2
  refine wpAnyH_done (by kernel_rfl) ?_ _
  go_wp2
  refine bodyPost_ret (results_cell_row rfl _ _ (w.heap.size + 2) _ (qcells (a * b)) _ _ rfl (setRow_heap _ _ _ _ _ _ hz) Tryz.underlying26 rfl info26.out) rfl ?_
  exact ⟨rfl, hS.b⟩
set_option maxRecDepth 100000 in
set_option maxHeartbeats 8000000 in
theorem rAdd (w : World) (g1 g2 : Bool) (A1 B1 A2 B2 : ByteArray) (N : Nat) (hA1 : A1.size ≤ N) (hB1 : B1.size ≤ N) (hA2 : A2.size ≤ N) (hB2 : B2.size ≤ N) (hN1 : 1 ≤ N) (hN : N ≤ 1000000) (hT : Tb w) :
    Calls Tryz.prog 15 #[RW g1 A1 B1, RW g2 A2 B2] w fun e w' => e = .returned (QV (rvq g1 A1 B1 + rvq g2 A2 B2)) ∧ Below w.heap.size w w' := by
  have V1 := fun W => value_q W g1 A1 B1 N hA1 hB1 hN
  have V2 := fun W => value_q W g2 A2 B2 N hA2 hB2 hN
  have s1 := SmQ_rvq g1 A1 B1 N hA1 hB1 hN1
  have s2 := SmQ_rvq g2 A2 B2 N hA2 hB2 hN1
  generalize rvq g1 A1 B1 = a at *
  generalize rvq g2 A2 B2 = b at *
  have M1 := fun W => rmul_q W a.num.natAbs b.den N s1.1 s2.2 (by omega)
  have M2 := fun W => rmul_q W b.num.natAbs a.den N s2.1 s1.2 (by omega)
  have M3 := fun W => rmul_q W a.den b.den N s1.2 s2.2 (by omega)
  have lx : a.num.natAbs * b.den < 256^(N + N) := mul_lt s1.1 s2.2
  have ly : b.num.natAbs * a.den < 256^(N + N) := mul_lt s2.1 s1.2
  have ld : a.den * b.den < 256^(N + N + 1) := lt_wide (mul_lt s1.2 s2.2) (by omega)
  have d0 : a.den * b.den ≠ 0 := Nat.mul_ne_zero a.den_nz b.den_nz
  have hj := mk_jn a b
  obtain ⟨ga, hga⟩ : ∃ g, decide (a.num < 0) = g := ⟨_, rfl⟩
  obtain ⟨gb, hgb⟩ : ∃ g, decide (b.num < 0) = g := ⟨_, rfl⟩
  rw [hga, hgb] at hj
  have HG := Lib.hid (And.intro hga hgb)
  generalize a.num.natAbs * b.den = x at *
  generalize b.num.natAbs * a.den = y at *
  generalize a.den * b.den = d at *
  unfold QV at *
  have A1' := fun W => RefAdd_any W (NB x) (NB y) (NB_bigR lx (by omega)) (NB_bigR ly (by omega))
  have C1 := fun W => RefCmp_any W (NB x) (NB y) (NB_big lx (by omega)) (NB_big ly (by omega))
  have S1 := fun W => RefSub_any W (NB x) (NB y) (NB_bigR lx (by omega)) (NB_bigR ly (by omega))
  have S2 := fun W => RefSub_any W (NB y) (NB x) (NB_bigR ly (by omega)) (NB_bigR lx (by omega))
  unfold SubV at S1 S2
  rw [sv_NB, sv_NB] at A1' C1 S1 S2
  have HM := Lib.hid (And.intro M1 (And.intro M2 M3))
  clear M1 M2 M3 s1 s2 hga hgb
  have h0 := d2_start w (rrow g1 A1 B1) (rrow g2 A2 B2) hT
  have hz := d2_z w (rrow g1 A1 B1) (rrow g2 A2 B2)
  obtain ⟨W, hW⟩ : ∃ W, ((w.alloc (.cells (rrow g1 A1 B1) 26)).alloc (.cells (rrow g2 A2 B2) 26)).alloc (.cells zrow 26) = W := ⟨_, rfl⟩
  rw [hW] at h0 hz
  have HV := Lib.hid (And.intro V1 V2)
  have HW := Lib.hid (And.intro hW (And.intro h0 hz))
  have HT := Lib.hid hT
  clear V1 V2 hW hz hT
  have c0 : W.cell? ⟨w.heap.size, 0, none⟩ = some (.bool g1) := cell_of_row _ _ 0 _ _ _ h0.a
  have c1 : W.cell? ⟨w.heap.size, 1, none⟩ = some (.string A1) := cell_of_row _ _ 1 _ _ _ h0.a
  have c2 : W.cell? ⟨w.heap.size, 2, none⟩ = some (.string B1) := cell_of_row _ _ 2 _ _ _ h0.a
  clear h0
  unfold RW
  go_enter Tryz.func15, Tryz.ntmps15
  go_upto_region 1 with fail
  change Code.wp _ _ _ _ (((w.alloc (.cells (rrow g1 A1 B1) 26)).alloc (.cells (rrow g2 A2 B2) 26)).alloc (.cells zrow 26))
  rw [HW.out.1]
  go_wp2_with fail
  refine (HV.out.1 _).mono ?_
  rintro e w1 ⟨rfl, b1⟩
  have H1 := Lib.hid (HW.out.2.1.next b1)
  have Z1 := Lib.hid ((b1.block _ HW.out.2.1.lt).trans HW.out.2.2); clear b1
  go_upto_region 2 with (refine wpList_store_row rfl 26 (.tmp 2) (.tmp 13) rfl w.heap.size (qcells a) rfl rfl 26 (rrow g1 A1 B1) H1.out.a info26.out rfl (qone _) ?_)
  have H2 := Lib.hid (H1.out.storeA HT.out (qcells a))
  have Z2 := Lib.hid ((setRow_other w1 w.heap.size (w.heap.size + 2) (qcells a) (by omega)).trans Z1.out)
  generalize w1.setRow w.heap.size (qcells a) = Y at *
  clear H1 Z1 c0 c1 c2 HW
  have c0 : Y.cell? ⟨w.heap.size + 1, 0, none⟩ = some (.bool g2) := cell_of_row _ _ 0 _ _ _ H2.out.c
  have c1 : Y.cell? ⟨w.heap.size + 1, 1, none⟩ = some (.string A2) := cell_of_row _ _ 1 _ _ _ H2.out.c
  have c2 : Y.cell? ⟨w.heap.size + 1, 2, none⟩ = some (.string B2) := cell_of_row _ _ 2 _ _ _ H2.out.c
  go_wp2_with fail
  refine (HV.out.2 _).mono ?_
  rintro e w3 ⟨rfl, b3⟩
  have H3 := Lib.hid (H2.out.next b3)
  have Z3 := Lib.hid ((b3.block _ H2.out.lt).trans Z2.out); clear b3
  go_upto_region 3 with (refine wpList_store_row rfl 26 (.tmp 3) (.tmp 15) rfl (w.heap.size + 1) (qcells b) rfl rfl 26 (rrow g2 A2 B2) H3.out.c info26.out rfl (qone _) ?_)
  have H4 := Lib.hid (H3.out.storeB HT.out (qcells b))
  have Z4 := Lib.hid ((setRow_other w3 (w.heap.size + 1) (w.heap.size + 2) (qcells b) (by omega)).trans Z3.out)
  generalize w3.setRow (w.heap.size + 1) (qcells b) = X at *
  clear H2 Z2 H3 Z3 c0 c1 c2
  have c0 : X.cell? ⟨w.heap.size, 1, none⟩ = some (.string (NB a.num.natAbs)) := cell_of_row _ _ 1 _ _ _ H4.out.a
  have c1 : X.cell? ⟨w.heap.size + 1, 2, none⟩ = some (.string (NB b.den)) := cell_of_row _ _ 2 _ _ _ H4.out.c
  go_wp2_with fail
  refine (HM.out.1 _).mono ?_
  rintro e u1 ⟨rfl, b1⟩
  have H5 := Lib.hid (H4.out.next b1)
  have Z5 := Lib.hid ((b1.block _ H4.out.lt).trans Z4.out); clear b1 c0 c1
  have c0 : u1.cell? ⟨w.heap.size + 1, 1, none⟩ = some (.string (NB b.num.natAbs)) := cell_of_row _ _ 1 _ _ _ H5.out.c
  have c1 : u1.cell? ⟨w.heap.size, 2, none⟩ = some (.string (NB a.den)) := cell_of_row _ _ 2 _ _ _ H5.out.a
  go_wp2_with fail
  refine (HM.out.2.1 _).mono ?_
  rintro e u2 ⟨rfl, b1⟩
  have H6 := Lib.hid (H5.out.next b1)
  have Z6 := Lib.hid ((b1.block _ H5.out.lt).trans Z5.out); clear b1 c0 c1
  have c0 : u2.cell? ⟨w.heap.size, 2, none⟩ = some (.string (NB a.den)) := cell_of_row _ _ 2 _ _ _ H6.out.a
  have c1 : u2.cell? ⟨w.heap.size + 1, 2, none⟩ = some (.string (NB b.den)) := cell_of_row _ _ 2 _ _ _ H6.out.c
  go_wp2_with fail
  refine (HM.out.2.2 _).mono ?_
  rintro e u3 ⟨rfl, b1⟩
  have H7 := Lib.hid (H6.out.next b1)
  have Z7 := Lib.hid ((b1.block _ H6.out.lt).trans Z6.out); clear b1 c0 c1 H4 Z4 H5 Z5 H6 Z6 HM
  have c0 : u3.cell? ⟨w.heap.size, 0, none⟩ = some (.bool ga) := by rw [← HG.out.1]; exact cell_of_row _ _ 0 _ _ _ H7.out.a
  have c1 : u3.cell? ⟨w.heap.size + 1, 0, none⟩ = some (.bool gb) := by rw [← HG.out.2]; exact cell_of_row _ _ 0 _ _ _ H7.out.c
  by_cases he : ga = gb
  · have e1 : (ga == gb) = true := by rw [he]; simp
    unfold jn at hj
    rw [if_pos he] at hj
    have L1 := fun W => lowest_q W ga (x + y) d (N + N + 1) (add_lt lx ly) ld d0 (by omega)
    rw [hj] at L1
    unfold QV at L1
    have HQ := Lib.hid (And.intro A1' L1)
    clear A1' L1 C1 S1 S2 lx ly ld d0 hj he
    go_upto_region 7 with fail
    clear c0 c1 e1
    have hz : u3.drew.heap[w.heap.size + 2]? = _ := Z7.out
    refine wp_region_held_drew (S := D2 w (qcells a) (qcells b)) (by kernel_rfl) H7.out.drew (fun hS => ?_)
    clear H7 Z7
    refine wpAnyH_take (i := 0) (oi := { dst := some 36, op := Op.fieldAddr 26 (Operand.tmp 2) 0, type := 0, pos := "ref.go:89", after := #[], guard := none }) (v := ?vra0) rfl (by kernel_rfl) (by kernel_rfl) (by kernel_rfl) (fun _ _ _ h => h) (Or.inl ⟨by rfl, ?yra0⟩) hS ?rra0
    case yra0 => (intro w hS; go_simp; try with_reducible rfl)
    refine wpAnyH_take (i := 2) (oi := { dst := some 38, op := Op.move (Operand.tmp 5), type := 24, pos := "ref.go:89", after := #[], guard := none }) (v := ?vra2) rfl (by kernel_rfl) (by kernel_rfl) (by kernel_rfl) (fun _ _ _ h => h) (Or.inl ⟨by rfl, ?yra2⟩) hS ?rra2
    case yra2 => (intro w hS; go_simp; try with_reducible rfl)
    refine wpAnyH_take (i := 3) (oi := { dst := some 39, op := Op.move (Operand.tmp 6), type := 24, pos := "ref.go:89", after := #[], guard := none }) (v := ?vra3) rfl (by kernel_rfl) (by kernel_rfl) (by kernel_rfl) (fun _ _ _ h => h) (Or.inl ⟨by rfl, ?yra3⟩) hS ?rra3
    case yra3 => (intro w hS; go_simp; try with_reducible rfl)
    refine wpAnyH_take (i := 5) (oi := { dst := some 41, op := Op.move (Operand.tmp 7), type := 24, pos := "ref.go:89", after := #[], guard := none }) (v := ?vra5) rfl (by kernel_rfl) (by kernel_rfl) (by kernel_rfl) (fun _ _ _ h => h) (Or.inl ⟨by rfl, ?yra5⟩) hS ?rra5
    case yra5 => (intro w hS; go_simp; try with_reducible rfl)
    go_simp
    refine wpAnyH_take (i := 1) (oi := { dst := some 37, op := Op.load 4 (Operand.tmp 36), type := 4, pos := "ref.go:89", after := #[{ on := 0, ground := Ground.data }], guard := none }) (v := .bool ga) rfl (by kernel_rfl) (by kernel_rfl) (by kernel_rfl) (fun _ _ _ h => h) (Or.inl ⟨by rfl, ?yra1⟩) hS ?rra1
    case yra1 => (intro w' hS; have cf := (show w'.cell? ⟨w.heap.size, 0, none⟩ = some (.bool ga) from by rw [← HG.out.1]; exact cell_of_row _ _ 0 _ _ _ hS.a); go_simp; try with_reducible rfl)
    go_simp
    refine wpAnyH_ready (rs := [4]) (by kernel_rfl) (by simp) ?_
    refine AllReadyH.cons (o := { dst := some 40, op := Op.call { callee := Callee.value (Operand.func 51), args := #[Operand.tmp 38, Operand.tmp 39], argTypes := #[24, 24] }, type := 24, pos := "ref.go:89", after := #[{ on := 2, ground := Ground.data }, { on := 3, ground := Ground.data }], guard := none }) rfl (fun K hK => ?_) AllReadyH.nil
    go_simp
    go_at_call 51
    refine (HQ.out.1 _).mono ?_
    rintro e w' ⟨rfl, b⟩
    have hS2 := hS.next b
    have hz2 := (b.block _ hS.lt).trans hz
    clear hz
    have hz := hz2
    clear hz2
    clear b hS
    try go_simp
    refine hK.out _ _ hS2 (fun hS => ?_)
    clear hK K hS2
    refine wpAnyH_ready (rs := [6]) (by kernel_rfl) (by simp) ?_
    refine AllReadyH.cons (o := { dst := some 42, op := Op.call { callee := Callee.value (Operand.func 46), args := #[Operand.tmp 37, Operand.tmp 40, Operand.tmp 41], argTypes := #[4, 24, 24] }, type := 26, pos := "ref.go:89", after := #[{ on := 1, ground := Ground.data }, { on := 4, ground := Ground.data }, { on := 5, ground := Ground.data }, { on := 4, ground := Ground.chain }], guard := none }) rfl (fun K hK => ?_) AllReadyH.nil
    go_simp
    go_at_call 46
    refine (HQ.out.2 _).mono ?_
    rintro e w' ⟨rfl, b⟩
    have hS2 := hS.next b
    have hz2 := (b.block _ hS.lt).trans hz
    clear hz
    have hz := hz2
    clear hz2
    clear b hS
    try go_simp
    refine hK.out _ _ hS2 (fun hS => ?_)
    clear hK K hS2
    refine wpAnyH_ready (rs := [7]) (by kernel_rfl) (by simp) ?_
    refine AllReadyH.cons (o := { dst := none, op := Op.store 26 (Operand.tmp 4) (Operand.tmp 42), type := 0, pos := "ref.go:89", after := #[{ on := 6, ground := Ground.data }, { on := 6, ground := Ground.chain }, { on := 0, ground := Ground.phase }, { on := 1, ground := Ground.phase }, { on := 2, ground := Ground.phase }, { on := 3, ground := Ground.phase }, { on := 4, ground := Ground.phase }, { on := 5, ground := Ground.phase }, { on := 6, ground := Ground.phase }], guard := none }) rfl (fun K hK => ?_) AllReadyH.nil
    rw [if_pos (by rfl)]
    refine wp_store_row 26 (.tmp 4) (.tmp 42) rfl (w.heap.size + 2) (qcells (a + b)) (by first | rfl | (simp [Act.eval])) (by first | rfl | (simp [Act.eval])) 26 zrow hz info26.out rfl (qone _) ?_
    have hS2 := hS.store HT.out (qcells (a + b))
    clear hS
    refine hK.out _ _ hS2 (fun hS => ?_)
    clear hK K hS2
    refine wpAnyH_done (by kernel_rfl) ?_ _
    go_wp2
    refine bodyPost_ret (results_cell_row rfl _ _ (w.heap.size + 2) _ (qcells (a + b)) _ _ rfl (setRow_heap _ _ _ _ _ _ hz) Tryz.underlying26 rfl info26.out) rfl ?_
    exact ⟨rfl, hS.b⟩
  · have e1 : (ga == gb) = false := beq_eq_false_iff_ne.2 he
    unfold jn at hj
    rw [if_neg he] at hj
    by_cases hyx : y ≤ x
    · rw [if_pos hyx] at hj
      rw [if_pos hyx] at S1
      have hc : 0 ≤ cmpv x y := by unfold cmpv; rw [if_neg (by omega)]; split <;> omega
      have L1 := fun W => lowest_q W ga (x - y) d (N + N + 1) (Nat.lt_of_le_of_lt (Nat.sub_le _ _) (lt_wide lx (by omega))) ld d0 (by omega)
      rw [hj] at L1
      unfold QV at L1
      generalize cmpv x y = cc at *
      have HQ := Lib.hid (And.intro C1 (And.intro S1 L1))
      clear A1' L1 C1 S1 S2 lx ly ld d0 hj he hyx
      go_wp2_with fail
      refine (HQ.out.1 _).mono ?_
      rintro e u4 ⟨rfl, q4⟩
      subst q4
      go_wp2_with fail
      refine (HQ.out.2.1 _).mono ?_
      rintro e u5 ⟨rfl, b1⟩
      have H8 := Lib.hid (H7.out.next b1)
      have Z8 := Lib.hid ((b1.block _ H7.out.lt).trans Z7.out); clear b1 c0 c1
      have c0 : u5.cell? ⟨w.heap.size, 0, none⟩ = some (.bool ga) := by rw [← HG.out.1]; exact cell_of_row _ _ 0 _ _ _ H8.out.a
      go_wp2_with fail
      refine (HQ.out.2.2 _).mono ?_
      rintro e u6 ⟨rfl, b1⟩
      have H9 := Lib.hid (H8.out.next b1)
      have Z9 := Lib.hid ((b1.block _ H8.out.lt).trans Z8.out); clear b1 c0
      go_wp2_with (refine wpList_store_row rfl 26 (.tmp 4) (.tmp 57) rfl (w.heap.size + 2) (qcells (a + b)) rfl rfl 26 zrow Z9.out info26.out rfl (qone _) ?_)
      refine bodyPost_ret (results_cell_row rfl _ _ (w.heap.size + 2) _ (qcells (a + b)) _ _ rfl (setRow_heap _ _ _ _ _ _ Z9.out) Tryz.underlying26 rfl info26.out) rfl ?_
      exact ⟨rfl, Below.setRow' H9.out.b (by omega) _⟩
    · rw [if_neg hyx] at hj
      rw [if_pos (by omega)] at S2
      have hc : cmpv x y < 0 := by unfold cmpv; rw [if_pos (by omega)]; omega
      have L1 := fun W => lowest_q W gb (y - x) d (N + N + 1) (Nat.lt_of_le_of_lt (Nat.sub_le _ _) (lt_wide ly (by omega))) ld d0 (by omega)
      rw [hj] at L1
      unfold QV at L1
      generalize cmpv x y = cc at *
      have HQ := Lib.hid (And.intro C1 (And.intro S2 L1))
      clear A1' L1 C1 S1 S2 lx ly ld d0 hj he hyx
      go_wp2_with fail
      refine (HQ.out.1 _).mono ?_
      rintro e u4 ⟨rfl, q4⟩
      subst q4
      go_wp2_with fail
      refine (HQ.out.2.1 _).mono ?_
      rintro e u5 ⟨rfl, b1⟩
      have H8 := Lib.hid (H7.out.next b1)
      have Z8 := Lib.hid ((b1.block _ H7.out.lt).trans Z7.out); clear b1 c0 c1
      have c0 : u5.cell? ⟨w.heap.size + 1, 0, none⟩ = some (.bool gb) := by rw [← HG.out.2]; exact cell_of_row _ _ 0 _ _ _ H8.out.c
      go_wp2_with fail
      refine (HQ.out.2.2 _).mono ?_
      rintro e u6 ⟨rfl, b1⟩
      have H9 := Lib.hid (H8.out.next b1)
      have Z9 := Lib.hid ((b1.block _ H8.out.lt).trans Z8.out); clear b1 c0
      go_wp2_with (refine wpList_store_row rfl 26 (.tmp 4) (.tmp 68) rfl (w.heap.size + 2) (qcells (a + b)) rfl rfl 26 zrow Z9.out info26.out rfl (qone _) ?_)
      refine bodyPost_ret (results_cell_row rfl _ _ (w.heap.size + 2) _ (qcells (a + b)) _ _ rfl (setRow_heap _ _ _ _ _ _ Z9.out) Tryz.underlying26 rfl info26.out) rfl ?_
      exact ⟨rfl, Below.setRow' H9.out.b (by omega) _⟩
end Go.Proofs.YteccbedmpjeamaaGreatDoor
