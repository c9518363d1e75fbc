/-
  The walk of the law RatioSums.
-/
import Derived.Test.YteccbedmpjeamaaGreatDoorQCmp
import Derived.Test.YteccbedmpjeamaaGreatDoorQRefS
namespace Go.Proofs.YteccbedmpjeamaaGreatDoor
open Go.RowKit NM QM
theorem zEq (w : World) : (binOp .eql 26 (.agg zrow) (.agg zrow)).run Tryz.prog w = .ok (.bool true) w := by
  rw [run_eql_struct, run_equalIn_agg w _ _ _ _ fields26 stood26]
  unfold zrow
  go_simp
set_option maxRecDepth 200000 in
set_option maxHeartbeats 64000000 in
theorem sums_walk (w : World) (x0 y0 z0 x1 y1 z1 : Int) (hT : Tp w)
    (hx0 : -9223372036854775808 ≤ x0 ∧ x0 ≤ 9223372036854775807)
    (hy0 : -9223372036854775808 ≤ y0 ∧ y0 ≤ 9223372036854775807)
    (hz0 : -9223372036854775808 ≤ z0 ∧ z0 ≤ 9223372036854775807)
    (hx1 : -9223372036854775808 ≤ x1 ∧ x1 ≤ 9223372036854775807)
    (hy1 : -9223372036854775808 ≤ y1 ∧ y1 ≤ 9223372036854775807)
    (hz1 : -9223372036854775808 ≤ z1 ∧ z1 ≤ 9223372036854775807)
    : Calls Tryz.prog 3 #[.agg #[.int .i64 x0, .int .i64 y0, .int .i64 z0], .agg #[.int .i64 x1, .int .i64 y1, .int .i64 z1]] w fun e w' => e = .returned (.bool true) ∧ Below w.heap.size w w' := by
  obtain ⟨W, hW⟩ : ∃ W, (w.alloc (.cells #[.int .i64 x0, .int .i64 y0, .int .i64 z0] 22)).alloc (.cells #[.int .i64 x1, .int .i64 y1, .int .i64 z1] 22) = W := ⟨_, rfl⟩
  have hbW : Below w.heap.size w W := by rw [← hW]; exact ((Below.refl _ w).alloc (Nat.le_refl _) _).alloc (by simp) _
  have ha0 : AR W w.heap.size x0 y0 z0 := by
    rw [← hW]; exact (ar_alloc w x0 y0 z0 _).next ((Below.refl _ _).alloc (Nat.le_refl _) _)
  have ha1 : AR W (w.heap.size + 1) x1 y1 z1 := by
    have h := ar_alloc (w.alloc (.cells #[.int .i64 x0, .int .i64 y0, .int .i64 z0] 22)) x1 y1 z1 22
    rw [← hW]; simpa using h
  have HS0 : Hid (KB w [] W) := Lib.hid ⟨fun x hx => (by cases hx), hbW, hT.below hbW⟩
  have HA0 := Lib.hid (And.intro ha0 ha1)
  have HWe := Lib.hid hW
  clear hW hbW ha0 ha1 hT
  go_enter Tryz.func3, Tryz.ntmps3
  go_upto_region 1 with fail
  change Code.wp _ _ _ _ ((w.alloc (.cells #[.int .i64 x0, .int .i64 y0, .int .i64 z0] 22)).alloc (.cells #[.int .i64 x1, .int .i64 y1, .int .i64 z1] 22))
  rw [HWe.out]
  clear HWe
  go_wp2_with fail
  refine (sanity_any _ HS0.out.t).mono ?_
  rintro e u1 ⟨rfl, b⟩
  have HS1 := Lib.hid (HS0.out.next b)
  have HA1 := Lib.hid (And.intro (HA0.out.1.next b) (HA0.out.2.next b))
  clear b
  have cc := HA1.out.1
  have d0 := cc.2.1
  have d1 := cc.2.2.1
  have d2 := cc.2.2.2
  clear cc
  go_wp2_with fail
  refine (made_q _ x0 y0 z0 hx0 hy0 hz0).mono ?_
  rintro e u2 ⟨a, sa, rfl, b⟩
  have HS2 := Lib.hid (HS1.out.next b)
  have HB0 := Lib.hid (And.intro (HA1.out.1.next b) (HA1.out.2.next b))
  clear d0 d1 d2
  clear b
  unfold QV
  go_upto_region 3 with (refine wpList_store_row rfl 26 (.tmp 6) (.tmp 15) rfl u2.heap.size (qcells a) rfl rfl 26 zrow (heap_alloc_new _ _) info26.out rfl (qone _) ?_)
  change Code.wp _ _ _ _ ((u2.alloc (.cells zrow 26)).setRow u2.heap.size (qcells a))
  rw [World.setRow_alloc_new u2 zrow (qcells a) 26]
  have hx := HS2.out.push (qcells a)
  have hbx := Lib.hid ((Below.refl u2.heap.size u2).alloc (Nat.le_refl _) (.cells (qcells a) 26))
  generalize u2.alloc (.cells (qcells a) 26) = u3 at *
  obtain ⟨p3, hp⟩ : ∃ p, u2.heap.size = p := ⟨_, rfl⟩
  rw [hp] at hx ⊢
  have HA2 := Lib.hid (And.intro (HB0.out.1.next hbx.out) (HB0.out.2.next hbx.out))
  clear hp hbx
  have HS3 := Lib.hid hx
  clear hx
  have cc := HA2.out.2
  have d0 := cc.2.1
  have d1 := cc.2.2.1
  have d2 := cc.2.2.2
  clear cc
  go_wp2_with fail
  refine (made_q _ x1 y1 z1 hx1 hy1 hz1).mono ?_
  rintro e u4 ⟨b, sb, rfl, b⟩
  have HS4 := Lib.hid (HS3.out.next b)
  have HB1 := Lib.hid (And.intro (HA2.out.1.next b) (HA2.out.2.next b))
  clear d0 d1 d2
  clear b
  unfold QV
  go_upto_region 4 with (refine wpList_store_row rfl 26 (.tmp 7) (.tmp 17) rfl u4.heap.size (qcells b) rfl rfl 26 zrow (heap_alloc_new _ _) info26.out rfl (qone _) ?_)
  change Code.wp _ _ _ _ ((u4.alloc (.cells zrow 26)).setRow u4.heap.size (qcells b))
  rw [World.setRow_alloc_new u4 zrow (qcells b) 26]
  have hx := HS4.out.push (qcells b)
  have hbx := Lib.hid ((Below.refl u4.heap.size u4).alloc (Nat.le_refl _) (.cells (qcells b) 26))
  generalize u4.alloc (.cells (qcells b) 26) = u5 at *
  obtain ⟨p5, hp⟩ : ∃ p, u4.heap.size = p := ⟨_, rfl⟩
  rw [hp] at hx ⊢
  have HA3 := Lib.hid (And.intro (HB1.out.1.next hbx.out) (HB1.out.2.next hbx.out))
  clear hp hbx
  have HS5 := Lib.hid hx
  clear hx
  clear HA0 HA1 HA2 HA3 HB0 HB1
  have m : ∀ {N : Nat} {q : Rat}, SmQ N q → N ≤ 100 → SmQ 100 q := fun h h2 => h.mono h2
  have H6 := Lib.hid (And.intro (fun W (h : Tp W) => aAdd W a b 100 (m sa (by decide)) (m sb (by decide)) (by decide) (by decide) h) (And.intro (fun W (h : Tp W) => brAdd W a b 100 (m sa (by decide)) (m sb (by decide)) (by decide) (by decide) h)
    (And.intro (fun W (h : Tp W) => aSub W a b 100 (m sa (by decide)) (m sb (by decide)) (by decide) (by decide) h) (And.intro (fun W (h : Tp W) => brSub W a b 100 (m sa (by decide)) (m sb (by decide)) (by decide) (by decide) h)
    (And.intro (fun W (h : Tp W) => aMul W a b 100 (m sa (by decide)) (m sb (by decide)) (by decide) (by decide) h) (fun W (h : Tp W) => brMul W a b 100 (m sa (by decide)) (m sb (by decide)) (by decide) (by decide) h))))))
  have i1 := fun W (h : Tp W) => aCmp W a b 100 (m sa (by decide)) (m sb (by decide)) (by decide) (by decide) h
  have i2 := fun W (h : Tp W) => brCmp W a b 100 (m sa (by decide)) (m sb (by decide)) (by decide) (by decide) h
  have i3 := fun W (h : Tp W) => aSign W a 100 (m sa (by decide)) (by decide) h
  have i4 := fun W => brSign W a 100 (m sa (by decide)) (by decide)
  generalize cq a b = xx at *
  generalize sq a = ss at *
  have H7 := Lib.hid (And.intro i1 (And.intro i2 (And.intro i3 (And.intro i4 (And.intro (fun W (h : Tp W) => aNeg W a 100 (m sa (by decide)) (by decide) h) (fun W (h : Tp W) => brNeg W a 100 (m sa (by decide)) (by decide) h))))))
  have HE := Lib.hid (And.intro (fun W => aEq W (a + b) (a + b) rfl) (And.intro (fun W => aEq W (a - b) (a - b) rfl) (And.intro (fun W => aEq W (a * b) (a * b) rfl) (fun W => aEq W (-a) (-a) rfl))))
  have HSM := Lib.hid (And.intro (m sa (by decide)) (m sb (by decide)))
  clear i1 i2 i3 i4 m sa sb
  by_cases hb : b = 0
  · have HQ := Lib.hid (And.intro (fun W (h : Tp W) => aQuo0 W a b 100 HSM.out.2 (by decide) h hb) (fun W (h : Tp W) => brQuo0 W a b 100 HSM.out.1 HSM.out.2 (by decide) (by decide) h hb))
    have HZ := Lib.hid fun W => zEq W
    clear hb
    have rA := HS5.out.row (p := p3) (cs := qcells a) (by simp)
    have rB := HS5.out.row (p := p5) (cs := qcells b) (by simp)
    have c0 : u5.cell? ⟨p3, 0, none⟩ = some (.bool (decide (a.num < 0))) := cell_of_row _ _ 0 _ _ _ rA
    have c1 : u5.cell? ⟨p3, 1, none⟩ = some (.string (NB a.num.natAbs)) := cell_of_row _ _ 1 _ _ _ rA
    have c2 : u5.cell? ⟨p3, 2, none⟩ = some (.string (NB a.den)) := cell_of_row _ _ 2 _ _ _ rA
    have c3 : u5.cell? ⟨p5, 0, none⟩ = some (.bool (decide (b.num < 0))) := cell_of_row _ _ 0 _ _ _ rB
    have c4 : u5.cell? ⟨p5, 1, none⟩ = some (.string (NB b.num.natAbs)) := cell_of_row _ _ 1 _ _ _ rB
    have c5 : u5.cell? ⟨p5, 2, none⟩ = some (.string (NB b.den)) := cell_of_row _ _ 2 _ _ _ rB
    clear rA rB
    go_wp2_with fail
    refine (HQ.out.1 _ HS5.out.t).mono ?_
    rintro e u21 ⟨rfl, b⟩
    have HS21 := Lib.hid (HS5.out.next b)
    clear c0 c1 c2 c3 c4 c5
    clear b
    go_upto_region 5 with (refine wpList_store_row rfl 26 (.tmp 8) (.tmp 22) rfl u21.heap.size (zrow) rfl rfl 26 zrow (heap_alloc_new _ _) info26.out rfl (zone) ?_)
    change Code.wp _ _ _ _ ((u21.alloc (.cells zrow 26)).setRow u21.heap.size (zrow))
    rw [World.setRow_alloc_new u21 zrow (zrow) 26]
    have hx := HS21.out.push (zrow)
    have hbx := Lib.hid ((Below.refl u21.heap.size u21).alloc (Nat.le_refl _) (.cells (zrow) 26))
    generalize u21.alloc (.cells (zrow) 26) = u22 at *
    obtain ⟨p22, hp⟩ : ∃ p, u21.heap.size = p := ⟨_, rfl⟩
    rw [hp] at hx ⊢
    clear hp hbx
    have HS22 := Lib.hid hx
    clear hx
    have rA := HS22.out.row (p := p3) (cs := qcells a) (by simp)
    have rB := HS22.out.row (p := p5) (cs := qcells b) (by simp)
    have c0 : u22.cell? ⟨p3, 0, none⟩ = some (.bool (decide (a.num < 0))) := cell_of_row _ _ 0 _ _ _ rA
    have c1 : u22.cell? ⟨p3, 1, none⟩ = some (.string (NB a.num.natAbs)) := cell_of_row _ _ 1 _ _ _ rA
    have c2 : u22.cell? ⟨p3, 2, none⟩ = some (.string (NB a.den)) := cell_of_row _ _ 2 _ _ _ rA
    have c3 : u22.cell? ⟨p5, 0, none⟩ = some (.bool (decide (b.num < 0))) := cell_of_row _ _ 0 _ _ _ rB
    have c4 : u22.cell? ⟨p5, 1, none⟩ = some (.string (NB b.num.natAbs)) := cell_of_row _ _ 1 _ _ _ rB
    have c5 : u22.cell? ⟨p5, 2, none⟩ = some (.string (NB b.den)) := cell_of_row _ _ 2 _ _ _ rB
    clear rA rB
    go_wp2_with fail
    refine (HQ.out.2 _ HS22.out.t).mono ?_
    rintro e u23 ⟨rfl, b⟩
    have HS23 := Lib.hid (HS22.out.next b)
    clear c0 c1 c2 c3 c4 c5
    clear b
    go_upto_region 6 with (refine wpList_store_row rfl 26 (.tmp 10) (.tmp 28) rfl u23.heap.size (zrow) rfl rfl 26 zrow (heap_alloc_new _ _) info26.out rfl (zone) ?_)
    change Code.wp _ _ _ _ ((u23.alloc (.cells zrow 26)).setRow u23.heap.size (zrow))
    rw [World.setRow_alloc_new u23 zrow (zrow) 26]
    have hx := HS23.out.push (zrow)
    have hbx := Lib.hid ((Below.refl u23.heap.size u23).alloc (Nat.le_refl _) (.cells (zrow) 26))
    generalize u23.alloc (.cells (zrow) 26) = u24 at *
    obtain ⟨p24, hp⟩ : ∃ p, u23.heap.size = p := ⟨_, rfl⟩
    rw [hp] at hx ⊢
    clear hp hbx
    have HS24 := Lib.hid hx
    clear hx
    go_upto_region 6 with fail
    have E1 := HE.out.1
    have E2 := HE.out.2.1
    have E3 := HE.out.2.2.1
    have E4 := HZ.out
    refine wp_region_held_drew (S := KB w [(p24, zrow), (p22, zrow), (p5, qcells b), (p3, qcells a)]) (by kernel_rfl) HS24.out.drew (fun hS => ?_)
    clear HS24
    refine wpAnyH_take (i := 0) (oi := { dst := some 30, op := Op.load 26 (Operand.tmp 6), type := 26, pos := "law.go:38", after := #[], guard := none }) (v := .agg (qcells a)) rfl (by kernel_rfl) (by kernel_rfl) (by kernel_rfl) (fun _ _ _ h => h) (Or.inl ⟨by rfl, ?ysxa0⟩) hS ?rsxa0
    case ysxa0 => exact fun w' hS => exec_load_row w' 26 (.tmp 6) rfl p3 (by first | rfl | (simp [Act.eval])) 26 (qcells a) (0, 0) _ (hS.row (by simp)) Tryz.underlying26 rfl info26.out
    refine wpAnyH_take (i := 1) (oi := { dst := some 31, op := Op.load 26 (Operand.tmp 7), type := 26, pos := "law.go:38", after := #[], guard := none }) (v := .agg (qcells b)) rfl (by kernel_rfl) (by kernel_rfl) (by kernel_rfl) (fun _ _ _ h => h) (Or.inl ⟨by rfl, ?ysxa1⟩) hS ?rsxa1
    case ysxa1 => exact fun w' hS => exec_load_row w' 26 (.tmp 7) rfl p5 (by first | rfl | (simp [Act.eval])) 26 (qcells b) (0, 0) _ (hS.row (by simp)) Tryz.underlying26 rfl info26.out
    refine wpAnyH_take (i := 3) (oi := { dst := some 33, op := Op.load 26 (Operand.tmp 6), type := 26, pos := "law.go:38", after := #[], guard := none }) (v := .agg (qcells a)) rfl (by kernel_rfl) (by kernel_rfl) (by kernel_rfl) (fun _ _ _ h => h) (Or.inl ⟨by rfl, ?ysxa3⟩) hS ?rsxa3
    case ysxa3 => exact fun w' hS => exec_load_row w' 26 (.tmp 6) rfl p3 (by first | rfl | (simp [Act.eval])) 26 (qcells a) (0, 0) _ (hS.row (by simp)) Tryz.underlying26 rfl info26.out
    refine wpAnyH_take (i := 4) (oi := { dst := some 34, op := Op.load 26 (Operand.tmp 7), type := 26, pos := "law.go:38", after := #[], guard := none }) (v := .agg (qcells b)) rfl (by kernel_rfl) (by kernel_rfl) (by kernel_rfl) (fun _ _ _ h => h) (Or.inl ⟨by rfl, ?ysxa4⟩) hS ?rsxa4
    case ysxa4 => exact fun w' hS => exec_load_row w' 26 (.tmp 7) rfl p5 (by first | rfl | (simp [Act.eval])) 26 (qcells b) (0, 0) _ (hS.row (by simp)) Tryz.underlying26 rfl info26.out
    go_simp
    refine wpAnyH_ready (rs := [2]) (by kernel_rfl) (by simp) ?_
    refine AllReadyH.cons (o := { dst := some 32, op := Op.call { callee := Callee.value (Operand.func 14), args := #[Operand.tmp 30, Operand.tmp 31], argTypes := #[26, 26] }, type := 26, pos := "law.go:38", after := #[{ on := 0, ground := Ground.data }, { on := 1, ground := Ground.data }], guard := none }) rfl (fun K hK => ?_) AllReadyH.nil
    go_simp
    go_at_call 14
    refine (H6.out.1 _ hS.t).mono ?_
    rintro e w' ⟨rfl, b⟩
    have hS2 := hS.next b
    clear b hS
    try go_simp
    refine hK.out _ _ hS2 (fun hS => ?_)
    clear hK K hS2
    refine wpAnyH_ready (rs := [5]) (by kernel_rfl) (by simp) ?_
    refine AllReadyH.cons (o := { dst := some 35, op := Op.call { callee := Callee.value (Operand.func 15), args := #[Operand.tmp 33, Operand.tmp 34], argTypes := #[26, 26] }, type := 26, pos := "law.go:38", after := #[{ on := 3, ground := Ground.data }, { on := 4, ground := Ground.data }, { on := 2, ground := Ground.chain }], guard := none }) rfl (fun K hK => ?_) AllReadyH.nil
    go_simp
    go_at_call 15
    refine (H6.out.2.1 _ hS.t).mono ?_
    rintro e w' ⟨rfl, b⟩
    have hS2 := hS.next b
    clear b hS
    try go_simp
    refine hK.out _ _ hS2 (fun hS => ?_)
    clear hK K hS2
    refine wpAnyH_take (i := 6) (oi := { dst := some 36, op := Op.binOp BinOp.eql 26 (Operand.tmp 32) (Operand.tmp 35) 26, type := 4, pos := "law.go:38", after := #[{ on := 2, ground := Ground.data }, { on := 5, ground := Ground.data }], guard := none }) (v := ?vsxa6) rfl (by kernel_rfl) (by kernel_rfl) (by kernel_rfl) (fun _ _ _ h => h) (Or.inl ⟨by rfl, ?ysxa6⟩) hS ?rsxa6
    case ysxa6 => (intro w hS; go_simp; try with_reducible rfl)
    go_simp
    refine wpAnyH_take (i := 7) (oi := { dst := some 37, op := Op.move (Operand.tmp 36), type := 4, pos := "law.go:38", after := #[{ on := 6, ground := Ground.data }, { on := 5, ground := Ground.chain }], guard := none }) (v := ?vsxa7) rfl (by kernel_rfl) (by kernel_rfl) (by kernel_rfl) (fun _ _ _ h => h) (Or.inl ⟨by rfl, ?ysxa7⟩) hS ?rsxa7
    case ysxa7 => (intro w hS; go_simp; try with_reducible rfl)
    go_simp
    refine wpAnyH_take (i := 8) (oi := { dst := some 38, op := Op.load 26 (Operand.tmp 6), type := 26, pos := "law.go:38", after := #[{ on := 7, ground := Ground.guard }], guard := some (7, true) }) (v := .agg (qcells a)) rfl (by kernel_rfl) (by kernel_rfl) (by kernel_rfl) (fun _ _ _ h => h) (Or.inl ⟨by rfl, ?ysxa8⟩) hS ?rsxa8
    case ysxa8 => exact fun w' hS => exec_load_row w' 26 (.tmp 6) rfl p3 (by first | rfl | (simp [Act.eval])) 26 (qcells a) (0, 0) _ (hS.row (by simp)) Tryz.underlying26 rfl info26.out
    refine wpAnyH_take (i := 9) (oi := { dst := some 39, op := Op.load 26 (Operand.tmp 7), type := 26, pos := "law.go:38", after := #[{ on := 7, ground := Ground.guard }], guard := some (7, true) }) (v := .agg (qcells b)) rfl (by kernel_rfl) (by kernel_rfl) (by kernel_rfl) (fun _ _ _ h => h) (Or.inl ⟨by rfl, ?ysxa9⟩) hS ?rsxa9
    case ysxa9 => exact fun w' hS => exec_load_row w' 26 (.tmp 7) rfl p5 (by first | rfl | (simp [Act.eval])) 26 (qcells b) (0, 0) _ (hS.row (by simp)) Tryz.underlying26 rfl info26.out
    refine wpAnyH_take (i := 11) (oi := { dst := some 41, op := Op.load 26 (Operand.tmp 6), type := 26, pos := "law.go:38", after := #[{ on := 7, ground := Ground.guard }], guard := some (7, true) }) (v := .agg (qcells a)) rfl (by kernel_rfl) (by kernel_rfl) (by kernel_rfl) (fun _ _ _ h => h) (Or.inl ⟨by rfl, ?ysxa11⟩) hS ?rsxa11
    case ysxa11 => exact fun w' hS => exec_load_row w' 26 (.tmp 6) rfl p3 (by first | rfl | (simp [Act.eval])) 26 (qcells a) (0, 0) _ (hS.row (by simp)) Tryz.underlying26 rfl info26.out
    refine wpAnyH_take (i := 12) (oi := { dst := some 42, op := Op.load 26 (Operand.tmp 7), type := 26, pos := "law.go:38", after := #[{ on := 7, ground := Ground.guard }], guard := some (7, true) }) (v := .agg (qcells b)) rfl (by kernel_rfl) (by kernel_rfl) (by kernel_rfl) (fun _ _ _ h => h) (Or.inl ⟨by rfl, ?ysxa12⟩) hS ?rsxa12
    case ysxa12 => exact fun w' hS => exec_load_row w' 26 (.tmp 7) rfl p5 (by first | rfl | (simp [Act.eval])) 26 (qcells b) (0, 0) _ (hS.row (by simp)) Tryz.underlying26 rfl info26.out
    go_simp
    refine wpAnyH_ready (rs := [10]) (by kernel_rfl) (by simp) ?_
    refine AllReadyH.cons (o := { dst := some 40, op := Op.call { callee := Callee.value (Operand.func 16), args := #[Operand.tmp 38, Operand.tmp 39], argTypes := #[26, 26] }, type := 26, pos := "law.go:38", after := #[{ on := 8, ground := Ground.data }, { on := 9, ground := Ground.data }, { on := 7, ground := Ground.chain }, { on := 7, ground := Ground.guard }], guard := some (7, true) }) rfl (fun K hK => ?_) AllReadyH.nil
    go_simp
    go_at_call 16
    refine (H6.out.2.2.1 _ hS.t).mono ?_
    rintro e w' ⟨rfl, b⟩
    have hS2 := hS.next b
    clear b hS
    try go_simp
    refine hK.out _ _ hS2 (fun hS => ?_)
    clear hK K hS2
    refine wpAnyH_ready (rs := [13]) (by kernel_rfl) (by simp) ?_
    refine AllReadyH.cons (o := { dst := some 43, op := Op.call { callee := Callee.value (Operand.func 17), args := #[Operand.tmp 41, Operand.tmp 42], argTypes := #[26, 26] }, type := 26, pos := "law.go:38", after := #[{ on := 11, ground := Ground.data }, { on := 12, ground := Ground.data }, { on := 10, ground := Ground.chain }, { on := 7, ground := Ground.guard }], guard := some (7, true) }) rfl (fun K hK => ?_) AllReadyH.nil
    go_simp
    go_at_call 17
    refine (H6.out.2.2.2.1 _ hS.t).mono ?_
    rintro e w' ⟨rfl, b⟩
    have hS2 := hS.next b
    clear b hS
    try go_simp
    refine hK.out _ _ hS2 (fun hS => ?_)
    clear hK K hS2
    refine wpAnyH_take (i := 14) (oi := { dst := some 44, op := Op.binOp BinOp.eql 26 (Operand.tmp 40) (Operand.tmp 43) 26, type := 4, pos := "law.go:38", after := #[{ on := 10, ground := Ground.data }, { on := 13, ground := Ground.data }, { on := 7, ground := Ground.guard }], guard := some (7, true) }) (v := ?vsxa14) rfl (by kernel_rfl) (by kernel_rfl) (by kernel_rfl) (fun _ _ _ h => h) (Or.inl ⟨by rfl, ?ysxa14⟩) hS ?rsxa14
    case ysxa14 => (intro w hS; go_simp; try with_reducible rfl)
    go_simp
    refine wpAnyH_take (i := 15) (oi := { dst := some 45, op := Op.pick (Operand.tmp 37) (Operand.tmp 44) (Operand.const (Value.bool false)), type := 4, pos := "law.go:38", after := #[{ on := 7, ground := Ground.data }, { on := 14, ground := Ground.data }], guard := none }) (v := ?vsxa15) rfl (by kernel_rfl) (by kernel_rfl) (by kernel_rfl) (fun _ _ _ h => h) (Or.inl ⟨by rfl, ?ysxa15⟩) hS ?rsxa15
    case ysxa15 => (intro w hS; go_simp; try with_reducible rfl)
    go_simp
    refine wpAnyH_take (i := 16) (oi := { dst := some 46, op := Op.move (Operand.tmp 45), type := 4, pos := "law.go:38", after := #[{ on := 15, ground := Ground.data }, { on := 13, ground := Ground.chain }], guard := none }) (v := ?vsxa16) rfl (by kernel_rfl) (by kernel_rfl) (by kernel_rfl) (fun _ _ _ h => h) (Or.inl ⟨by rfl, ?ysxa16⟩) hS ?rsxa16
    case ysxa16 => (intro w hS; go_simp; try with_reducible rfl)
    go_simp
    refine wpAnyH_take (i := 17) (oi := { dst := some 47, op := Op.load 26 (Operand.tmp 6), type := 26, pos := "law.go:38", after := #[{ on := 16, ground := Ground.guard }], guard := some (16, true) }) (v := .agg (qcells a)) rfl (by kernel_rfl) (by kernel_rfl) (by kernel_rfl) (fun _ _ _ h => h) (Or.inl ⟨by rfl, ?ysxa17⟩) hS ?rsxa17
    case ysxa17 => exact fun w' hS => exec_load_row w' 26 (.tmp 6) rfl p3 (by first | rfl | (simp [Act.eval])) 26 (qcells a) (0, 0) _ (hS.row (by simp)) Tryz.underlying26 rfl info26.out
    refine wpAnyH_take (i := 18) (oi := { dst := some 48, op := Op.load 26 (Operand.tmp 7), type := 26, pos := "law.go:38", after := #[{ on := 16, ground := Ground.guard }], guard := some (16, true) }) (v := .agg (qcells b)) rfl (by kernel_rfl) (by kernel_rfl) (by kernel_rfl) (fun _ _ _ h => h) (Or.inl ⟨by rfl, ?ysxa18⟩) hS ?rsxa18
    case ysxa18 => exact fun w' hS => exec_load_row w' 26 (.tmp 7) rfl p5 (by first | rfl | (simp [Act.eval])) 26 (qcells b) (0, 0) _ (hS.row (by simp)) Tryz.underlying26 rfl info26.out
    refine wpAnyH_take (i := 20) (oi := { dst := some 50, op := Op.load 26 (Operand.tmp 6), type := 26, pos := "law.go:38", after := #[{ on := 16, ground := Ground.guard }], guard := some (16, true) }) (v := .agg (qcells a)) rfl (by kernel_rfl) (by kernel_rfl) (by kernel_rfl) (fun _ _ _ h => h) (Or.inl ⟨by rfl, ?ysxa20⟩) hS ?rsxa20
    case ysxa20 => exact fun w' hS => exec_load_row w' 26 (.tmp 6) rfl p3 (by first | rfl | (simp [Act.eval])) 26 (qcells a) (0, 0) _ (hS.row (by simp)) Tryz.underlying26 rfl info26.out
    refine wpAnyH_take (i := 21) (oi := { dst := some 51, op := Op.load 26 (Operand.tmp 7), type := 26, pos := "law.go:38", after := #[{ on := 16, ground := Ground.guard }], guard := some (16, true) }) (v := .agg (qcells b)) rfl (by kernel_rfl) (by kernel_rfl) (by kernel_rfl) (fun _ _ _ h => h) (Or.inl ⟨by rfl, ?ysxa21⟩) hS ?rsxa21
    case ysxa21 => exact fun w' hS => exec_load_row w' 26 (.tmp 7) rfl p5 (by first | rfl | (simp [Act.eval])) 26 (qcells b) (0, 0) _ (hS.row (by simp)) Tryz.underlying26 rfl info26.out
    go_simp
    refine wpAnyH_ready (rs := [19]) (by kernel_rfl) (by simp) ?_
    refine AllReadyH.cons (o := { dst := some 49, op := Op.call { callee := Callee.value (Operand.func 18), args := #[Operand.tmp 47, Operand.tmp 48], argTypes := #[26, 26] }, type := 26, pos := "law.go:38", after := #[{ on := 17, ground := Ground.data }, { on := 18, ground := Ground.data }, { on := 16, ground := Ground.chain }, { on := 16, ground := Ground.guard }], guard := some (16, true) }) rfl (fun K hK => ?_) AllReadyH.nil
    go_simp
    go_at_call 18
    refine (H6.out.2.2.2.2.1 _ hS.t).mono ?_
    rintro e w' ⟨rfl, b⟩
    have hS2 := hS.next b
    clear b hS
    try go_simp
    refine hK.out _ _ hS2 (fun hS => ?_)
    clear hK K hS2
    refine wpAnyH_ready (rs := [22]) (by kernel_rfl) (by simp) ?_
    refine AllReadyH.cons (o := { dst := some 52, op := Op.call { callee := Callee.value (Operand.func 19), args := #[Operand.tmp 50, Operand.tmp 51], argTypes := #[26, 26] }, type := 26, pos := "law.go:38", after := #[{ on := 20, ground := Ground.data }, { on := 21, ground := Ground.data }, { on := 19, ground := Ground.chain }, { on := 16, ground := Ground.guard }], guard := some (16, true) }) rfl (fun K hK => ?_) AllReadyH.nil
    go_simp
    go_at_call 19
    refine (H6.out.2.2.2.2.2 _ hS.t).mono ?_
    rintro e w' ⟨rfl, b⟩
    have hS2 := hS.next b
    clear b hS
    try go_simp
    refine hK.out _ _ hS2 (fun hS => ?_)
    clear hK K hS2
    refine wpAnyH_take (i := 23) (oi := { dst := some 53, op := Op.binOp BinOp.eql 26 (Operand.tmp 49) (Operand.tmp 52) 26, type := 4, pos := "law.go:38", after := #[{ on := 19, ground := Ground.data }, { on := 22, ground := Ground.data }, { on := 16, ground := Ground.guard }], guard := some (16, true) }) (v := ?vsxa23) rfl (by kernel_rfl) (by kernel_rfl) (by kernel_rfl) (fun _ _ _ h => h) (Or.inl ⟨by rfl, ?ysxa23⟩) hS ?rsxa23
    case ysxa23 => (intro w hS; go_simp; try with_reducible rfl)
    go_simp
    refine wpAnyH_take (i := 24) (oi := { dst := some 54, op := Op.pick (Operand.tmp 46) (Operand.tmp 53) (Operand.const (Value.bool false)), type := 4, pos := "law.go:38", after := #[{ on := 16, ground := Ground.data }, { on := 23, ground := Ground.data }], guard := none }) (v := ?vsxa24) rfl (by kernel_rfl) (by kernel_rfl) (by kernel_rfl) (fun _ _ _ h => h) (Or.inl ⟨by rfl, ?ysxa24⟩) hS ?rsxa24
    case ysxa24 => (intro w hS; go_simp; try with_reducible rfl)
    go_simp
    refine wpAnyH_take (i := 25) (oi := { dst := some 55, op := Op.move (Operand.tmp 54), type := 4, pos := "law.go:38", after := #[{ on := 24, ground := Ground.data }, { on := 22, ground := Ground.chain }], guard := none }) (v := ?vsxa25) rfl (by kernel_rfl) (by kernel_rfl) (by kernel_rfl) (fun _ _ _ h => h) (Or.inl ⟨by rfl, ?ysxa25⟩) hS ?rsxa25
    case ysxa25 => (intro w hS; go_simp; try with_reducible rfl)
    go_simp
    refine wpAnyH_take (i := 26) (oi := { dst := some 56, op := Op.load 26 (Operand.tmp 8), type := 26, pos := "law.go:38", after := #[{ on := 25, ground := Ground.guard }], guard := some (25, true) }) (v := .agg (zrow)) rfl (by kernel_rfl) (by kernel_rfl) (by kernel_rfl) (fun _ _ _ h => h) (Or.inl ⟨by rfl, ?ysxa26⟩) hS ?rsxa26
    case ysxa26 => exact fun w' hS => exec_load_row w' 26 (.tmp 8) rfl p22 (by first | rfl | (simp [Act.eval])) 26 (zrow) (0, 0) _ (hS.row (by simp)) Tryz.underlying26 rfl info26.out
    refine wpAnyH_take (i := 27) (oi := { dst := some 57, op := Op.load 26 (Operand.tmp 10), type := 26, pos := "law.go:38", after := #[{ on := 25, ground := Ground.guard }], guard := some (25, true) }) (v := .agg (zrow)) rfl (by kernel_rfl) (by kernel_rfl) (by kernel_rfl) (fun _ _ _ h => h) (Or.inl ⟨by rfl, ?ysxa27⟩) hS ?rsxa27
    case ysxa27 => exact fun w' hS => exec_load_row w' 26 (.tmp 10) rfl p24 (by first | rfl | (simp [Act.eval])) 26 (zrow) (0, 0) _ (hS.row (by simp)) Tryz.underlying26 rfl info26.out
    go_simp
    refine wpAnyH_take (i := 28) (oi := { dst := some 58, op := Op.binOp BinOp.eql 26 (Operand.tmp 56) (Operand.tmp 57) 26, type := 4, pos := "law.go:38", after := #[{ on := 26, ground := Ground.data }, { on := 27, ground := Ground.data }, { on := 25, ground := Ground.guard }], guard := some (25, true) }) (v := ?vsxa28) rfl (by kernel_rfl) (by kernel_rfl) (by kernel_rfl) (fun _ _ _ h => h) (Or.inl ⟨by rfl, ?ysxa28⟩) hS ?rsxa28
    case ysxa28 => (intro w hS; go_simp; try with_reducible rfl)
    go_simp
    refine wpAnyH_take (i := 29) (oi := { dst := some 59, op := Op.pick (Operand.tmp 55) (Operand.tmp 58) (Operand.const (Value.bool false)), type := 4, pos := "law.go:38", after := #[{ on := 25, ground := Ground.data }, { on := 28, ground := Ground.data }], guard := none }) (v := ?vsxa29) rfl (by kernel_rfl) (by kernel_rfl) (by kernel_rfl) (fun _ _ _ h => h) (Or.inl ⟨by rfl, ?ysxa29⟩) hS ?rsxa29
    case ysxa29 => (intro w hS; go_simp; try with_reducible rfl)
    go_simp
    refine wpAnyH_take (i := 30) (oi := { dst := some 60, op := Op.move (Operand.tmp 59), type := 4, pos := "law.go:38", after := #[{ on := 29, ground := Ground.data }, { on := 25, ground := Ground.chain }], guard := none }) (v := ?vsxa30) rfl (by kernel_rfl) (by kernel_rfl) (by kernel_rfl) (fun _ _ _ h => h) (Or.inl ⟨by rfl, ?ysxa30⟩) hS ?rsxa30
    case ysxa30 => (intro w hS; go_simp; try with_reducible rfl)
    go_simp
    refine wpAnyH_take (i := 31) (oi := { dst := some 61, op := Op.move (Operand.tmp 9), type := 4, pos := "law.go:38", after := #[{ on := 30, ground := Ground.guard }], guard := some (30, true) }) (v := ?vsxa31) rfl (by kernel_rfl) (by kernel_rfl) (by kernel_rfl) (fun _ _ _ h => h) (Or.inl ⟨by rfl, ?ysxa31⟩) hS ?rsxa31
    case ysxa31 => (intro w hS; go_simp; try with_reducible rfl)
    refine wpAnyH_take (i := 32) (oi := { dst := some 62, op := Op.move (Operand.tmp 11), type := 4, pos := "law.go:38", after := #[{ on := 30, ground := Ground.guard }], guard := some (30, true) }) (v := ?vsxa32) rfl (by kernel_rfl) (by kernel_rfl) (by kernel_rfl) (fun _ _ _ h => h) (Or.inl ⟨by rfl, ?ysxa32⟩) hS ?rsxa32
    case ysxa32 => (intro w hS; go_simp; try with_reducible rfl)
    go_simp
    refine wpAnyH_take (i := 33) (oi := { dst := some 63, op := Op.binOp BinOp.eql 4 (Operand.tmp 61) (Operand.tmp 62) 4, type := 4, pos := "law.go:38", after := #[{ on := 31, ground := Ground.data }, { on := 32, ground := Ground.data }, { on := 30, ground := Ground.guard }], guard := some (30, true) }) (v := ?vsxa33) rfl (by kernel_rfl) (by kernel_rfl) (by kernel_rfl) (fun _ _ _ h => h) (Or.inl ⟨by rfl, ?ysxa33⟩) hS ?rsxa33
    case ysxa33 => (intro w hS; go_simp; try with_reducible rfl)
    go_simp
    refine wpAnyH_take (i := 34) (oi := { dst := some 64, op := Op.pick (Operand.tmp 60) (Operand.tmp 63) (Operand.const (Value.bool false)), type := 4, pos := "law.go:38", after := #[{ on := 30, ground := Ground.data }, { on := 33, ground := Ground.data }], guard := none }) (v := ?vsxa34) rfl (by kernel_rfl) (by kernel_rfl) (by kernel_rfl) (fun _ _ _ h => h) (Or.inl ⟨by rfl, ?ysxa34⟩) hS ?rsxa34
    case ysxa34 => (intro w hS; go_simp; try with_reducible rfl)
    go_simp
    refine wpAnyH_take (i := 35) (oi := { dst := some 12, op := Op.assign (Operand.tmp 64), type := 4, pos := "law.go:38", after := #[{ on := 34, ground := Ground.data }, { on := 30, ground := Ground.chain }, { on := 0, ground := Ground.phase }, { on := 1, ground := Ground.phase }, { on := 2, ground := Ground.phase }, { on := 3, ground := Ground.phase }, { on := 4, ground := Ground.phase }, { on := 5, ground := Ground.phase }, { on := 6, ground := Ground.phase }, { on := 7, ground := Ground.phase }, { on := 8, ground := Ground.phase }, { on := 9, ground := Ground.phase }, { on := 10, ground := Ground.phase }, { on := 11, ground := Ground.phase }, { on := 12, ground := Ground.phase }, { on := 13, ground := Ground.phase }, { on := 14, ground := Ground.phase }, { on := 15, ground := Ground.phase }, { on := 16, ground := Ground.phase }, { on := 17, ground := Ground.phase }, { on := 18, ground := Ground.phase }, { on := 19, ground := Ground.phase }, { on := 20, ground := Ground.phase }, { on := 21, ground := Ground.phase }, { on := 22, ground := Ground.phase }, { on := 23, ground := Ground.phase }, { on := 24, ground := Ground.phase }, { on := 25, ground := Ground.phase }, { on := 26, ground := Ground.phase }, { on := 27, ground := Ground.phase }, { on := 28, ground := Ground.phase }, { on := 29, ground := Ground.phase }, { on := 30, ground := Ground.phase }, { on := 31, ground := Ground.phase }, { on := 32, ground := Ground.phase }, { on := 33, ground := Ground.phase }, { on := 34, ground := Ground.phase }], guard := none }) (v := ?vsxa35) rfl (by kernel_rfl) (by kernel_rfl) (by kernel_rfl) (fun _ _ _ h => h) (Or.inl ⟨by rfl, ?ysxa35⟩) hS ?rsxa35
    case ysxa35 => (intro w hS; go_simp; try with_reducible rfl)
    refine wpAnyH_done (by kernel_rfl) ?_ _
    have HR6 := Lib.hid hS
    clear hS E1 E2 E3 E4
    go_upto_region 7 with fail
    have E5 := HE.out.2.2.2
    refine wp_region_held_drew (S := KB w [(p24, zrow), (p22, zrow), (p5, qcells b), (p3, qcells a)]) (by kernel_rfl) HR6.out.drew (fun hS => ?_)
    clear HR6
    refine wpAnyH_take (i := 0) (oi := { dst := some 65, op := Op.move (Operand.tmp 5), type := 4, pos := "law.go:39", after := #[], guard := none }) (v := ?vsxb0) rfl (by kernel_rfl) (by kernel_rfl) (by kernel_rfl) (fun _ _ _ h => h) (Or.inl ⟨by rfl, ?ysxb0⟩) hS ?rsxb0
    case ysxb0 => (intro w hS; go_simp; try with_reducible rfl)
    go_simp
    refine wpAnyH_take (i := 1) (oi := { dst := some 66, op := Op.move (Operand.tmp 65), type := 4, pos := "law.go:39", after := #[{ on := 0, ground := Ground.data }], guard := none }) (v := ?vsxb1) rfl (by kernel_rfl) (by kernel_rfl) (by kernel_rfl) (fun _ _ _ h => h) (Or.inl ⟨by rfl, ?ysxb1⟩) hS ?rsxb1
    case ysxb1 => (intro w hS; go_simp; try with_reducible rfl)
    go_simp
    refine wpAnyH_take (i := 2) (oi := { dst := some 67, op := Op.move (Operand.tmp 12), type := 4, pos := "law.go:39", after := #[{ on := 1, ground := Ground.guard }], guard := some (1, true) }) (v := ?vsxb2) rfl (by kernel_rfl) (by kernel_rfl) (by kernel_rfl) (fun _ _ _ h => h) (Or.inl ⟨by rfl, ?ysxb2⟩) hS ?rsxb2
    case ysxb2 => (intro w hS; go_simp; try with_reducible rfl)
    go_simp
    refine wpAnyH_take (i := 3) (oi := { dst := some 68, op := Op.pick (Operand.tmp 66) (Operand.tmp 67) (Operand.const (Value.bool false)), type := 4, pos := "law.go:39", after := #[{ on := 1, ground := Ground.data }, { on := 2, ground := Ground.data }], guard := none }) (v := ?vsxb3) rfl (by kernel_rfl) (by kernel_rfl) (by kernel_rfl) (fun _ _ _ h => h) (Or.inl ⟨by rfl, ?ysxb3⟩) hS ?rsxb3
    case ysxb3 => (intro w hS; go_simp; try with_reducible rfl)
    go_simp
    refine wpAnyH_take (i := 4) (oi := { dst := some 69, op := Op.move (Operand.tmp 68), type := 4, pos := "law.go:39", after := #[{ on := 3, ground := Ground.data }, { on := 1, ground := Ground.chain }], guard := none }) (v := ?vsxb4) rfl (by kernel_rfl) (by kernel_rfl) (by kernel_rfl) (fun _ _ _ h => h) (Or.inl ⟨by rfl, ?ysxb4⟩) hS ?rsxb4
    case ysxb4 => (intro w hS; go_simp; try with_reducible rfl)
    go_simp
    refine wpAnyH_take (i := 5) (oi := { dst := some 70, op := Op.load 26 (Operand.tmp 6), type := 26, pos := "law.go:39", after := #[{ on := 4, ground := Ground.guard }], guard := some (4, true) }) (v := .agg (qcells a)) rfl (by kernel_rfl) (by kernel_rfl) (by kernel_rfl) (fun _ _ _ h => h) (Or.inl ⟨by rfl, ?ysxb5⟩) hS ?rsxb5
    case ysxb5 => exact fun w' hS => exec_load_row w' 26 (.tmp 6) rfl p3 (by first | rfl | (simp [Act.eval])) 26 (qcells a) (0, 0) _ (hS.row (by simp)) Tryz.underlying26 rfl info26.out
    refine wpAnyH_take (i := 6) (oi := { dst := some 71, op := Op.load 26 (Operand.tmp 7), type := 26, pos := "law.go:39", after := #[{ on := 4, ground := Ground.guard }], guard := some (4, true) }) (v := .agg (qcells b)) rfl (by kernel_rfl) (by kernel_rfl) (by kernel_rfl) (fun _ _ _ h => h) (Or.inl ⟨by rfl, ?ysxb6⟩) hS ?rsxb6
    case ysxb6 => exact fun w' hS => exec_load_row w' 26 (.tmp 7) rfl p5 (by first | rfl | (simp [Act.eval])) 26 (qcells b) (0, 0) _ (hS.row (by simp)) Tryz.underlying26 rfl info26.out
    refine wpAnyH_take (i := 8) (oi := { dst := some 73, op := Op.load 26 (Operand.tmp 6), type := 26, pos := "law.go:39", after := #[{ on := 4, ground := Ground.guard }], guard := some (4, true) }) (v := .agg (qcells a)) rfl (by kernel_rfl) (by kernel_rfl) (by kernel_rfl) (fun _ _ _ h => h) (Or.inl ⟨by rfl, ?ysxb8⟩) hS ?rsxb8
    case ysxb8 => exact fun w' hS => exec_load_row w' 26 (.tmp 6) rfl p3 (by first | rfl | (simp [Act.eval])) 26 (qcells a) (0, 0) _ (hS.row (by simp)) Tryz.underlying26 rfl info26.out
    refine wpAnyH_take (i := 9) (oi := { dst := some 74, op := Op.load 26 (Operand.tmp 7), type := 26, pos := "law.go:39", after := #[{ on := 4, ground := Ground.guard }], guard := some (4, true) }) (v := .agg (qcells b)) rfl (by kernel_rfl) (by kernel_rfl) (by kernel_rfl) (fun _ _ _ h => h) (Or.inl ⟨by rfl, ?ysxb9⟩) hS ?rsxb9
    case ysxb9 => exact fun w' hS => exec_load_row w' 26 (.tmp 7) rfl p5 (by first | rfl | (simp [Act.eval])) 26 (qcells b) (0, 0) _ (hS.row (by simp)) Tryz.underlying26 rfl info26.out
    go_simp
    refine wpAnyH_ready (rs := [7]) (by kernel_rfl) (by simp) ?_
    refine AllReadyH.cons (o := { dst := some 72, op := Op.call { callee := Callee.value (Operand.func 20), args := #[Operand.tmp 70, Operand.tmp 71], argTypes := #[26, 26] }, type := 3, pos := "law.go:39", after := #[{ on := 5, ground := Ground.data }, { on := 6, ground := Ground.data }, { on := 4, ground := Ground.chain }, { on := 4, ground := Ground.guard }], guard := some (4, true) }) rfl (fun K hK => ?_) AllReadyH.nil
    go_simp
    go_at_call 20
    refine (H7.out.1 _ hS.t).mono ?_
    rintro e w' ⟨rfl, b⟩
    have hS2 := hS.next b
    clear b hS
    try go_simp
    refine hK.out _ _ hS2 (fun hS => ?_)
    clear hK K hS2
    refine wpAnyH_ready (rs := [10]) (by kernel_rfl) (by simp) ?_
    refine AllReadyH.cons (o := { dst := some 75, op := Op.call { callee := Callee.value (Operand.func 21), args := #[Operand.tmp 73, Operand.tmp 74], argTypes := #[26, 26] }, type := 3, pos := "law.go:39", after := #[{ on := 8, ground := Ground.data }, { on := 9, ground := Ground.data }, { on := 7, ground := Ground.chain }, { on := 4, ground := Ground.guard }], guard := some (4, true) }) rfl (fun K hK => ?_) AllReadyH.nil
    go_simp
    go_at_call 21
    refine (H7.out.2.1 _ hS.t).mono ?_
    rintro e w' ⟨rfl, b⟩
    have hS2 := hS.next b
    clear b hS
    try go_simp
    refine hK.out _ _ hS2 (fun hS => ?_)
    clear hK K hS2
    refine wpAnyH_take (i := 11) (oi := { dst := some 76, op := Op.binOp BinOp.eql 3 (Operand.tmp 72) (Operand.tmp 75) 3, type := 4, pos := "law.go:39", after := #[{ on := 7, ground := Ground.data }, { on := 10, ground := Ground.data }, { on := 4, ground := Ground.guard }], guard := some (4, true) }) (v := ?vsxb11) rfl (by kernel_rfl) (by kernel_rfl) (by kernel_rfl) (fun _ _ _ h => h) (Or.inl ⟨by rfl, ?ysxb11⟩) hS ?rsxb11
    case ysxb11 => (intro w hS; go_simp; try with_reducible rfl)
    go_simp
    refine wpAnyH_take (i := 12) (oi := { dst := some 77, op := Op.pick (Operand.tmp 69) (Operand.tmp 76) (Operand.const (Value.bool false)), type := 4, pos := "law.go:39", after := #[{ on := 4, ground := Ground.data }, { on := 11, ground := Ground.data }], guard := none }) (v := ?vsxb12) rfl (by kernel_rfl) (by kernel_rfl) (by kernel_rfl) (fun _ _ _ h => h) (Or.inl ⟨by rfl, ?ysxb12⟩) hS ?rsxb12
    case ysxb12 => (intro w hS; go_simp; try with_reducible rfl)
    go_simp
    refine wpAnyH_take (i := 13) (oi := { dst := some 78, op := Op.move (Operand.tmp 77), type := 4, pos := "law.go:39", after := #[{ on := 12, ground := Ground.data }, { on := 10, ground := Ground.chain }], guard := none }) (v := ?vsxb13) rfl (by kernel_rfl) (by kernel_rfl) (by kernel_rfl) (fun _ _ _ h => h) (Or.inl ⟨by rfl, ?ysxb13⟩) hS ?rsxb13
    case ysxb13 => (intro w hS; go_simp; try with_reducible rfl)
    go_simp
    refine wpAnyH_take (i := 14) (oi := { dst := some 79, op := Op.load 26 (Operand.tmp 6), type := 26, pos := "law.go:39", after := #[{ on := 13, ground := Ground.guard }], guard := some (13, true) }) (v := .agg (qcells a)) rfl (by kernel_rfl) (by kernel_rfl) (by kernel_rfl) (fun _ _ _ h => h) (Or.inl ⟨by rfl, ?ysxb14⟩) hS ?rsxb14
    case ysxb14 => exact fun w' hS => exec_load_row w' 26 (.tmp 6) rfl p3 (by first | rfl | (simp [Act.eval])) 26 (qcells a) (0, 0) _ (hS.row (by simp)) Tryz.underlying26 rfl info26.out
    refine wpAnyH_take (i := 16) (oi := { dst := some 81, op := Op.load 26 (Operand.tmp 6), type := 26, pos := "law.go:39", after := #[{ on := 13, ground := Ground.guard }], guard := some (13, true) }) (v := .agg (qcells a)) rfl (by kernel_rfl) (by kernel_rfl) (by kernel_rfl) (fun _ _ _ h => h) (Or.inl ⟨by rfl, ?ysxb16⟩) hS ?rsxb16
    case ysxb16 => exact fun w' hS => exec_load_row w' 26 (.tmp 6) rfl p3 (by first | rfl | (simp [Act.eval])) 26 (qcells a) (0, 0) _ (hS.row (by simp)) Tryz.underlying26 rfl info26.out
    go_simp
    refine wpAnyH_ready (rs := [15]) (by kernel_rfl) (by simp) ?_
    refine AllReadyH.cons (o := { dst := some 80, op := Op.call { callee := Callee.value (Operand.func 22), args := #[Operand.tmp 79], argTypes := #[26] }, type := 3, pos := "law.go:39", after := #[{ on := 14, ground := Ground.data }, { on := 13, ground := Ground.chain }, { on := 13, ground := Ground.guard }], guard := some (13, true) }) rfl (fun K hK => ?_) AllReadyH.nil
    go_simp
    go_at_call 22
    refine (H7.out.2.2.1 _ hS.t).mono ?_
    rintro e w' ⟨rfl, b⟩
    have hS2 := hS.next b
    clear b hS
    try go_simp
    refine hK.out _ _ hS2 (fun hS => ?_)
    clear hK K hS2
    refine wpAnyH_ready (rs := [17]) (by kernel_rfl) (by simp) ?_
    refine AllReadyH.cons (o := { dst := some 82, op := Op.call { callee := Callee.value (Operand.func 23), args := #[Operand.tmp 81], argTypes := #[26] }, type := 3, pos := "law.go:39", after := #[{ on := 16, ground := Ground.data }, { on := 15, ground := Ground.chain }, { on := 13, ground := Ground.guard }], guard := some (13, true) }) rfl (fun K hK => ?_) AllReadyH.nil
    go_simp
    go_at_call 23
    refine (H7.out.2.2.2.1 _).mono ?_
    rintro e w' ⟨rfl, b⟩
    have hS2 := hS.next b
    clear b hS
    try go_simp
    refine hK.out _ _ hS2 (fun hS => ?_)
    clear hK K hS2
    refine wpAnyH_take (i := 18) (oi := { dst := some 83, op := Op.binOp BinOp.eql 3 (Operand.tmp 80) (Operand.tmp 82) 3, type := 4, pos := "law.go:39", after := #[{ on := 15, ground := Ground.data }, { on := 17, ground := Ground.data }, { on := 13, ground := Ground.guard }], guard := some (13, true) }) (v := ?vsxb18) rfl (by kernel_rfl) (by kernel_rfl) (by kernel_rfl) (fun _ _ _ h => h) (Or.inl ⟨by rfl, ?ysxb18⟩) hS ?rsxb18
    case ysxb18 => (intro w hS; go_simp; try with_reducible rfl)
    go_simp
    refine wpAnyH_take (i := 19) (oi := { dst := some 84, op := Op.pick (Operand.tmp 78) (Operand.tmp 83) (Operand.const (Value.bool false)), type := 4, pos := "law.go:39", after := #[{ on := 13, ground := Ground.data }, { on := 18, ground := Ground.data }], guard := none }) (v := ?vsxb19) rfl (by kernel_rfl) (by kernel_rfl) (by kernel_rfl) (fun _ _ _ h => h) (Or.inl ⟨by rfl, ?ysxb19⟩) hS ?rsxb19
    case ysxb19 => (intro w hS; go_simp; try with_reducible rfl)
    go_simp
    refine wpAnyH_take (i := 20) (oi := { dst := some 85, op := Op.move (Operand.tmp 84), type := 4, pos := "law.go:39", after := #[{ on := 19, ground := Ground.data }, { on := 17, ground := Ground.chain }], guard := none }) (v := ?vsxb20) rfl (by kernel_rfl) (by kernel_rfl) (by kernel_rfl) (fun _ _ _ h => h) (Or.inl ⟨by rfl, ?ysxb20⟩) hS ?rsxb20
    case ysxb20 => (intro w hS; go_simp; try with_reducible rfl)
    go_simp
    refine wpAnyH_take (i := 21) (oi := { dst := some 86, op := Op.load 26 (Operand.tmp 6), type := 26, pos := "law.go:39", after := #[{ on := 20, ground := Ground.guard }], guard := some (20, true) }) (v := .agg (qcells a)) rfl (by kernel_rfl) (by kernel_rfl) (by kernel_rfl) (fun _ _ _ h => h) (Or.inl ⟨by rfl, ?ysxb21⟩) hS ?rsxb21
    case ysxb21 => exact fun w' hS => exec_load_row w' 26 (.tmp 6) rfl p3 (by first | rfl | (simp [Act.eval])) 26 (qcells a) (0, 0) _ (hS.row (by simp)) Tryz.underlying26 rfl info26.out
    refine wpAnyH_take (i := 23) (oi := { dst := some 88, op := Op.load 26 (Operand.tmp 6), type := 26, pos := "law.go:39", after := #[{ on := 20, ground := Ground.guard }], guard := some (20, true) }) (v := .agg (qcells a)) rfl (by kernel_rfl) (by kernel_rfl) (by kernel_rfl) (fun _ _ _ h => h) (Or.inl ⟨by rfl, ?ysxb23⟩) hS ?rsxb23
    case ysxb23 => exact fun w' hS => exec_load_row w' 26 (.tmp 6) rfl p3 (by first | rfl | (simp [Act.eval])) 26 (qcells a) (0, 0) _ (hS.row (by simp)) Tryz.underlying26 rfl info26.out
    go_simp
    refine wpAnyH_ready (rs := [22]) (by kernel_rfl) (by simp) ?_
    refine AllReadyH.cons (o := { dst := some 87, op := Op.call { callee := Callee.value (Operand.func 24), args := #[Operand.tmp 86], argTypes := #[26] }, type := 26, pos := "law.go:39", after := #[{ on := 21, ground := Ground.data }, { on := 20, ground := Ground.chain }, { on := 20, ground := Ground.guard }], guard := some (20, true) }) rfl (fun K hK => ?_) AllReadyH.nil
    go_simp
    go_at_call 24
    refine (H7.out.2.2.2.2.1 _ hS.t).mono ?_
    rintro e w' ⟨rfl, b⟩
    have hS2 := hS.next b
    clear b hS
    try go_simp
    refine hK.out _ _ hS2 (fun hS => ?_)
    clear hK K hS2
    refine wpAnyH_ready (rs := [24]) (by kernel_rfl) (by simp) ?_
    refine AllReadyH.cons (o := { dst := some 89, op := Op.call { callee := Callee.value (Operand.func 25), args := #[Operand.tmp 88], argTypes := #[26] }, type := 26, pos := "law.go:39", after := #[{ on := 23, ground := Ground.data }, { on := 22, ground := Ground.chain }, { on := 20, ground := Ground.guard }], guard := some (20, true) }) rfl (fun K hK => ?_) AllReadyH.nil
    go_simp
    go_at_call 25
    refine (H7.out.2.2.2.2.2 _ hS.t).mono ?_
    rintro e w' ⟨rfl, b⟩
    have hS2 := hS.next b
    clear b hS
    try go_simp
    refine hK.out _ _ hS2 (fun hS => ?_)
    clear hK K hS2
    refine wpAnyH_take (i := 25) (oi := { dst := some 90, op := Op.binOp BinOp.eql 26 (Operand.tmp 87) (Operand.tmp 89) 26, type := 4, pos := "law.go:39", after := #[{ on := 22, ground := Ground.data }, { on := 24, ground := Ground.data }, { on := 20, ground := Ground.guard }], guard := some (20, true) }) (v := ?vsxb25) rfl (by kernel_rfl) (by kernel_rfl) (by kernel_rfl) (fun _ _ _ h => h) (Or.inl ⟨by rfl, ?ysxb25⟩) hS ?rsxb25
    case ysxb25 => (intro w hS; go_simp; try with_reducible rfl)
    go_simp
    refine wpAnyH_take (i := 26) (oi := { dst := some 91, op := Op.pick (Operand.tmp 85) (Operand.tmp 90) (Operand.const (Value.bool false)), type := 4, pos := "law.go:39", after := #[{ on := 20, ground := Ground.data }, { on := 25, ground := Ground.data }], guard := none }) (v := ?vsxb26) rfl (by kernel_rfl) (by kernel_rfl) (by kernel_rfl) (fun _ _ _ h => h) (Or.inl ⟨by rfl, ?ysxb26⟩) hS ?rsxb26
    case ysxb26 => (intro w hS; go_simp; try with_reducible rfl)
    go_simp
    refine wpAnyH_take (i := 27) (oi := { dst := some 4, op := Op.assign (Operand.tmp 91), type := 4, pos := "law.go:39", after := #[{ on := 26, ground := Ground.data }, { on := 24, ground := Ground.chain }, { on := 0, ground := Ground.phase }, { on := 1, ground := Ground.phase }, { on := 2, ground := Ground.phase }, { on := 3, ground := Ground.phase }, { on := 4, ground := Ground.phase }, { on := 5, ground := Ground.phase }, { on := 6, ground := Ground.phase }, { on := 7, ground := Ground.phase }, { on := 8, ground := Ground.phase }, { on := 9, ground := Ground.phase }, { on := 10, ground := Ground.phase }, { on := 11, ground := Ground.phase }, { on := 12, ground := Ground.phase }, { on := 13, ground := Ground.phase }, { on := 14, ground := Ground.phase }, { on := 15, ground := Ground.phase }, { on := 16, ground := Ground.phase }, { on := 17, ground := Ground.phase }, { on := 18, ground := Ground.phase }, { on := 19, ground := Ground.phase }, { on := 20, ground := Ground.phase }, { on := 21, ground := Ground.phase }, { on := 22, ground := Ground.phase }, { on := 23, ground := Ground.phase }, { on := 24, ground := Ground.phase }, { on := 25, ground := Ground.phase }, { on := 26, ground := Ground.phase }], guard := none }) (v := ?vsxb27) rfl (by kernel_rfl) (by kernel_rfl) (by kernel_rfl) (fun _ _ _ h => h) (Or.inl ⟨by rfl, ?ysxb27⟩) hS ?rsxb27
    case ysxb27 => (intro w hS; go_simp; try with_reducible rfl)
    refine wpAnyH_done (by kernel_rfl) ?_ _
    go_wp2
    go_ret
    exact ⟨rfl, hS.b⟩
  · have HQ := Lib.hid (And.intro (fun W (h : Tp W) => aQuo1 W a b 100 HSM.out.1 HSM.out.2 (by decide) (by decide) h hb) (fun W (h : Tp W) => arQuo1 W a b 100 HSM.out.1 HSM.out.2 (by decide) (by decide) h hb))
    have HZ := Lib.hid fun W => aEq W (a / b) (a / b) rfl
    clear hb
    have rA := HS5.out.row (p := p3) (cs := qcells a) (by simp)
    have rB := HS5.out.row (p := p5) (cs := qcells b) (by simp)
    have c0 : u5.cell? ⟨p3, 0, none⟩ = some (.bool (decide (a.num < 0))) := cell_of_row _ _ 0 _ _ _ rA
    have c1 : u5.cell? ⟨p3, 1, none⟩ = some (.string (NB a.num.natAbs)) := cell_of_row _ _ 1 _ _ _ rA
    have c2 : u5.cell? ⟨p3, 2, none⟩ = some (.string (NB a.den)) := cell_of_row _ _ 2 _ _ _ rA
    have c3 : u5.cell? ⟨p5, 0, none⟩ = some (.bool (decide (b.num < 0))) := cell_of_row _ _ 0 _ _ _ rB
    have c4 : u5.cell? ⟨p5, 1, none⟩ = some (.string (NB b.num.natAbs)) := cell_of_row _ _ 1 _ _ _ rB
    have c5 : u5.cell? ⟨p5, 2, none⟩ = some (.string (NB b.den)) := cell_of_row _ _ 2 _ _ _ rB
    clear rA rB
    go_wp2_with fail
    refine (HQ.out.1 _ HS5.out.t).mono ?_
    rintro e u61 ⟨rfl, b⟩
    have HS61 := Lib.hid (HS5.out.next b)
    clear c0 c1 c2 c3 c4 c5
    clear b
    go_upto_region 5 with (refine wpList_store_row rfl 26 (.tmp 8) (.tmp 22) rfl u61.heap.size (qcells (a / b)) rfl rfl 26 zrow (heap_alloc_new _ _) info26.out rfl (qone _) ?_)
    change Code.wp _ _ _ _ ((u61.alloc (.cells zrow 26)).setRow u61.heap.size (qcells (a / b)))
    rw [World.setRow_alloc_new u61 zrow (qcells (a / b)) 26]
    have hx := HS61.out.push (qcells (a / b))
    have hbx := Lib.hid ((Below.refl u61.heap.size u61).alloc (Nat.le_refl _) (.cells (qcells (a / b)) 26))
    generalize u61.alloc (.cells (qcells (a / b)) 26) = u62 at *
    obtain ⟨p62, hp⟩ : ∃ p, u61.heap.size = p := ⟨_, rfl⟩
    rw [hp] at hx ⊢
    clear hp hbx
    have HS62 := Lib.hid hx
    clear hx
    have rA := HS62.out.row (p := p3) (cs := qcells a) (by simp)
    have rB := HS62.out.row (p := p5) (cs := qcells b) (by simp)
    have c0 : u62.cell? ⟨p3, 0, none⟩ = some (.bool (decide (a.num < 0))) := cell_of_row _ _ 0 _ _ _ rA
    have c1 : u62.cell? ⟨p3, 1, none⟩ = some (.string (NB a.num.natAbs)) := cell_of_row _ _ 1 _ _ _ rA
    have c2 : u62.cell? ⟨p3, 2, none⟩ = some (.string (NB a.den)) := cell_of_row _ _ 2 _ _ _ rA
    have c3 : u62.cell? ⟨p5, 0, none⟩ = some (.bool (decide (b.num < 0))) := cell_of_row _ _ 0 _ _ _ rB
    have c4 : u62.cell? ⟨p5, 1, none⟩ = some (.string (NB b.num.natAbs)) := cell_of_row _ _ 1 _ _ _ rB
    have c5 : u62.cell? ⟨p5, 2, none⟩ = some (.string (NB b.den)) := cell_of_row _ _ 2 _ _ _ rB
    clear rA rB
    go_wp2_with fail
    refine (HQ.out.2 _ HS62.out.t).mono ?_
    rintro e u63 ⟨rfl, b⟩
    have HS63 := Lib.hid (HS62.out.next b)
    clear c0 c1 c2 c3 c4 c5
    clear b
    go_upto_region 6 with (refine wpList_store_row rfl 26 (.tmp 10) (.tmp 28) rfl u63.heap.size (qcells (a / b)) rfl rfl 26 zrow (heap_alloc_new _ _) info26.out rfl (qone _) ?_)
    change Code.wp _ _ _ _ ((u63.alloc (.cells zrow 26)).setRow u63.heap.size (qcells (a / b)))
    rw [World.setRow_alloc_new u63 zrow (qcells (a / b)) 26]
    have hx := HS63.out.push (qcells (a / b))
    have hbx := Lib.hid ((Below.refl u63.heap.size u63).alloc (Nat.le_refl _) (.cells (qcells (a / b)) 26))
    generalize u63.alloc (.cells (qcells (a / b)) 26) = u64 at *
    obtain ⟨p64, hp⟩ : ∃ p, u63.heap.size = p := ⟨_, rfl⟩
    rw [hp] at hx ⊢
    clear hp hbx
    have HS64 := Lib.hid hx
    clear hx
    go_upto_region 6 with fail
    have E1 := HE.out.1
    have E2 := HE.out.2.1
    have E3 := HE.out.2.2.1
    have E4 := HZ.out
    refine wp_region_held_drew (S := KB w [(p64, qcells (a / b)), (p62, qcells (a / b)), (p5, qcells b), (p3, qcells a)]) (by kernel_rfl) HS64.out.drew (fun hS => ?_)
    clear HS64
    refine wpAnyH_take (i := 0) (oi := { dst := some 30, op := Op.load 26 (Operand.tmp 6), type := 26, pos := "law.go:38", after := #[], guard := none }) (v := .agg (qcells a)) rfl (by kernel_rfl) (by kernel_rfl) (by kernel_rfl) (fun _ _ _ h => h) (Or.inl ⟨by rfl, ?ysya0⟩) hS ?rsya0
    case ysya0 => exact fun w' hS => exec_load_row w' 26 (.tmp 6) rfl p3 (by first | rfl | (simp [Act.eval])) 26 (qcells a) (0, 0) _ (hS.row (by simp)) Tryz.underlying26 rfl info26.out
    refine wpAnyH_take (i := 1) (oi := { dst := some 31, op := Op.load 26 (Operand.tmp 7), type := 26, pos := "law.go:38", after := #[], guard := none }) (v := .agg (qcells b)) rfl (by kernel_rfl) (by kernel_rfl) (by kernel_rfl) (fun _ _ _ h => h) (Or.inl ⟨by rfl, ?ysya1⟩) hS ?rsya1
    case ysya1 => exact fun w' hS => exec_load_row w' 26 (.tmp 7) rfl p5 (by first | rfl | (simp [Act.eval])) 26 (qcells b) (0, 0) _ (hS.row (by simp)) Tryz.underlying26 rfl info26.out
    refine wpAnyH_take (i := 3) (oi := { dst := some 33, op := Op.load 26 (Operand.tmp 6), type := 26, pos := "law.go:38", after := #[], guard := none }) (v := .agg (qcells a)) rfl (by kernel_rfl) (by kernel_rfl) (by kernel_rfl) (fun _ _ _ h => h) (Or.inl ⟨by rfl, ?ysya3⟩) hS ?rsya3
    case ysya3 => exact fun w' hS => exec_load_row w' 26 (.tmp 6) rfl p3 (by first | rfl | (simp [Act.eval])) 26 (qcells a) (0, 0) _ (hS.row (by simp)) Tryz.underlying26 rfl info26.out
    refine wpAnyH_take (i := 4) (oi := { dst := some 34, op := Op.load 26 (Operand.tmp 7), type := 26, pos := "law.go:38", after := #[], guard := none }) (v := .agg (qcells b)) rfl (by kernel_rfl) (by kernel_rfl) (by kernel_rfl) (fun _ _ _ h => h) (Or.inl ⟨by rfl, ?ysya4⟩) hS ?rsya4
    case ysya4 => exact fun w' hS => exec_load_row w' 26 (.tmp 7) rfl p5 (by first | rfl | (simp [Act.eval])) 26 (qcells b) (0, 0) _ (hS.row (by simp)) Tryz.underlying26 rfl info26.out
    go_simp
    refine wpAnyH_ready (rs := [2]) (by kernel_rfl) (by simp) ?_
    refine AllReadyH.cons (o := { dst := some 32, op := Op.call { callee := Callee.value (Operand.func 14), args := #[Operand.tmp 30, Operand.tmp 31], argTypes := #[26, 26] }, type := 26, pos := "law.go:38", after := #[{ on := 0, ground := Ground.data }, { on := 1, ground := Ground.data }], guard := none }) rfl (fun K hK => ?_) AllReadyH.nil
    go_simp
    go_at_call 14
    refine (H6.out.1 _ hS.t).mono ?_
    rintro e w' ⟨rfl, b⟩
    have hS2 := hS.next b
    clear b hS
    try go_simp
    refine hK.out _ _ hS2 (fun hS => ?_)
    clear hK K hS2
    refine wpAnyH_ready (rs := [5]) (by kernel_rfl) (by simp) ?_
    refine AllReadyH.cons (o := { dst := some 35, op := Op.call { callee := Callee.value (Operand.func 15), args := #[Operand.tmp 33, Operand.tmp 34], argTypes := #[26, 26] }, type := 26, pos := "law.go:38", after := #[{ on := 3, ground := Ground.data }, { on := 4, ground := Ground.data }, { on := 2, ground := Ground.chain }], guard := none }) rfl (fun K hK => ?_) AllReadyH.nil
    go_simp
    go_at_call 15
    refine (H6.out.2.1 _ hS.t).mono ?_
    rintro e w' ⟨rfl, b⟩
    have hS2 := hS.next b
    clear b hS
    try go_simp
    refine hK.out _ _ hS2 (fun hS => ?_)
    clear hK K hS2
    refine wpAnyH_take (i := 6) (oi := { dst := some 36, op := Op.binOp BinOp.eql 26 (Operand.tmp 32) (Operand.tmp 35) 26, type := 4, pos := "law.go:38", after := #[{ on := 2, ground := Ground.data }, { on := 5, ground := Ground.data }], guard := none }) (v := ?vsya6) rfl (by kernel_rfl) (by kernel_rfl) (by kernel_rfl) (fun _ _ _ h => h) (Or.inl ⟨by rfl, ?ysya6⟩) hS ?rsya6
    case ysya6 => (intro w hS; go_simp; try with_reducible rfl)
    go_simp
    refine wpAnyH_take (i := 7) (oi := { dst := some 37, op := Op.move (Operand.tmp 36), type := 4, pos := "law.go:38", after := #[{ on := 6, ground := Ground.data }, { on := 5, ground := Ground.chain }], guard := none }) (v := ?vsya7) rfl (by kernel_rfl) (by kernel_rfl) (by kernel_rfl) (fun _ _ _ h => h) (Or.inl ⟨by rfl, ?ysya7⟩) hS ?rsya7
    case ysya7 => (intro w hS; go_simp; try with_reducible rfl)
    go_simp
    refine wpAnyH_take (i := 8) (oi := { dst := some 38, op := Op.load 26 (Operand.tmp 6), type := 26, pos := "law.go:38", after := #[{ on := 7, ground := Ground.guard }], guard := some (7, true) }) (v := .agg (qcells a)) rfl (by kernel_rfl) (by kernel_rfl) (by kernel_rfl) (fun _ _ _ h => h) (Or.inl ⟨by rfl, ?ysya8⟩) hS ?rsya8
    case ysya8 => exact fun w' hS => exec_load_row w' 26 (.tmp 6) rfl p3 (by first | rfl | (simp [Act.eval])) 26 (qcells a) (0, 0) _ (hS.row (by simp)) Tryz.underlying26 rfl info26.out
    refine wpAnyH_take (i := 9) (oi := { dst := some 39, op := Op.load 26 (Operand.tmp 7), type := 26, pos := "law.go:38", after := #[{ on := 7, ground := Ground.guard }], guard := some (7, true) }) (v := .agg (qcells b)) rfl (by kernel_rfl) (by kernel_rfl) (by kernel_rfl) (fun _ _ _ h => h) (Or.inl ⟨by rfl, ?ysya9⟩) hS ?rsya9
    case ysya9 => exact fun w' hS => exec_load_row w' 26 (.tmp 7) rfl p5 (by first | rfl | (simp [Act.eval])) 26 (qcells b) (0, 0) _ (hS.row (by simp)) Tryz.underlying26 rfl info26.out
    refine wpAnyH_take (i := 11) (oi := { dst := some 41, op := Op.load 26 (Operand.tmp 6), type := 26, pos := "law.go:38", after := #[{ on := 7, ground := Ground.guard }], guard := some (7, true) }) (v := .agg (qcells a)) rfl (by kernel_rfl) (by kernel_rfl) (by kernel_rfl) (fun _ _ _ h => h) (Or.inl ⟨by rfl, ?ysya11⟩) hS ?rsya11
    case ysya11 => exact fun w' hS => exec_load_row w' 26 (.tmp 6) rfl p3 (by first | rfl | (simp [Act.eval])) 26 (qcells a) (0, 0) _ (hS.row (by simp)) Tryz.underlying26 rfl info26.out
    refine wpAnyH_take (i := 12) (oi := { dst := some 42, op := Op.load 26 (Operand.tmp 7), type := 26, pos := "law.go:38", after := #[{ on := 7, ground := Ground.guard }], guard := some (7, true) }) (v := .agg (qcells b)) rfl (by kernel_rfl) (by kernel_rfl) (by kernel_rfl) (fun _ _ _ h => h) (Or.inl ⟨by rfl, ?ysya12⟩) hS ?rsya12
    case ysya12 => exact fun w' hS => exec_load_row w' 26 (.tmp 7) rfl p5 (by first | rfl | (simp [Act.eval])) 26 (qcells b) (0, 0) _ (hS.row (by simp)) Tryz.underlying26 rfl info26.out
    go_simp
    refine wpAnyH_ready (rs := [10]) (by kernel_rfl) (by simp) ?_
    refine AllReadyH.cons (o := { dst := some 40, op := Op.call { callee := Callee.value (Operand.func 16), args := #[Operand.tmp 38, Operand.tmp 39], argTypes := #[26, 26] }, type := 26, pos := "law.go:38", after := #[{ on := 8, ground := Ground.data }, { on := 9, ground := Ground.data }, { on := 7, ground := Ground.chain }, { on := 7, ground := Ground.guard }], guard := some (7, true) }) rfl (fun K hK => ?_) AllReadyH.nil
    go_simp
    go_at_call 16
    refine (H6.out.2.2.1 _ hS.t).mono ?_
    rintro e w' ⟨rfl, b⟩
    have hS2 := hS.next b
    clear b hS
    try go_simp
    refine hK.out _ _ hS2 (fun hS => ?_)
    clear hK K hS2
    refine wpAnyH_ready (rs := [13]) (by kernel_rfl) (by simp) ?_
    refine AllReadyH.cons (o := { dst := some 43, op := Op.call { callee := Callee.value (Operand.func 17), args := #[Operand.tmp 41, Operand.tmp 42], argTypes := #[26, 26] }, type := 26, pos := "law.go:38", after := #[{ on := 11, ground := Ground.data }, { on := 12, ground := Ground.data }, { on := 10, ground := Ground.chain }, { on := 7, ground := Ground.guard }], guard := some (7, true) }) rfl (fun K hK => ?_) AllReadyH.nil
    go_simp
    go_at_call 17
    refine (H6.out.2.2.2.1 _ hS.t).mono ?_
    rintro e w' ⟨rfl, b⟩
    have hS2 := hS.next b
    clear b hS
    try go_simp
    refine hK.out _ _ hS2 (fun hS => ?_)
    clear hK K hS2
    refine wpAnyH_take (i := 14) (oi := { dst := some 44, op := Op.binOp BinOp.eql 26 (Operand.tmp 40) (Operand.tmp 43) 26, type := 4, pos := "law.go:38", after := #[{ on := 10, ground := Ground.data }, { on := 13, ground := Ground.data }, { on := 7, ground := Ground.guard }], guard := some (7, true) }) (v := ?vsya14) rfl (by kernel_rfl) (by kernel_rfl) (by kernel_rfl) (fun _ _ _ h => h) (Or.inl ⟨by rfl, ?ysya14⟩) hS ?rsya14
    case ysya14 => (intro w hS; go_simp; try with_reducible rfl)
    go_simp
    refine wpAnyH_take (i := 15) (oi := { dst := some 45, op := Op.pick (Operand.tmp 37) (Operand.tmp 44) (Operand.const (Value.bool false)), type := 4, pos := "law.go:38", after := #[{ on := 7, ground := Ground.data }, { on := 14, ground := Ground.data }], guard := none }) (v := ?vsya15) rfl (by kernel_rfl) (by kernel_rfl) (by kernel_rfl) (fun _ _ _ h => h) (Or.inl ⟨by rfl, ?ysya15⟩) hS ?rsya15
    case ysya15 => (intro w hS; go_simp; try with_reducible rfl)
    go_simp
    refine wpAnyH_take (i := 16) (oi := { dst := some 46, op := Op.move (Operand.tmp 45), type := 4, pos := "law.go:38", after := #[{ on := 15, ground := Ground.data }, { on := 13, ground := Ground.chain }], guard := none }) (v := ?vsya16) rfl (by kernel_rfl) (by kernel_rfl) (by kernel_rfl) (fun _ _ _ h => h) (Or.inl ⟨by rfl, ?ysya16⟩) hS ?rsya16
    case ysya16 => (intro w hS; go_simp; try with_reducible rfl)
    go_simp
    refine wpAnyH_take (i := 17) (oi := { dst := some 47, op := Op.load 26 (Operand.tmp 6), type := 26, pos := "law.go:38", after := #[{ on := 16, ground := Ground.guard }], guard := some (16, true) }) (v := .agg (qcells a)) rfl (by kernel_rfl) (by kernel_rfl) (by kernel_rfl) (fun _ _ _ h => h) (Or.inl ⟨by rfl, ?ysya17⟩) hS ?rsya17
    case ysya17 => exact fun w' hS => exec_load_row w' 26 (.tmp 6) rfl p3 (by first | rfl | (simp [Act.eval])) 26 (qcells a) (0, 0) _ (hS.row (by simp)) Tryz.underlying26 rfl info26.out
    refine wpAnyH_take (i := 18) (oi := { dst := some 48, op := Op.load 26 (Operand.tmp 7), type := 26, pos := "law.go:38", after := #[{ on := 16, ground := Ground.guard }], guard := some (16, true) }) (v := .agg (qcells b)) rfl (by kernel_rfl) (by kernel_rfl) (by kernel_rfl) (fun _ _ _ h => h) (Or.inl ⟨by rfl, ?ysya18⟩) hS ?rsya18
    case ysya18 => exact fun w' hS => exec_load_row w' 26 (.tmp 7) rfl p5 (by first | rfl | (simp [Act.eval])) 26 (qcells b) (0, 0) _ (hS.row (by simp)) Tryz.underlying26 rfl info26.out
    refine wpAnyH_take (i := 20) (oi := { dst := some 50, op := Op.load 26 (Operand.tmp 6), type := 26, pos := "law.go:38", after := #[{ on := 16, ground := Ground.guard }], guard := some (16, true) }) (v := .agg (qcells a)) rfl (by kernel_rfl) (by kernel_rfl) (by kernel_rfl) (fun _ _ _ h => h) (Or.inl ⟨by rfl, ?ysya20⟩) hS ?rsya20
    case ysya20 => exact fun w' hS => exec_load_row w' 26 (.tmp 6) rfl p3 (by first | rfl | (simp [Act.eval])) 26 (qcells a) (0, 0) _ (hS.row (by simp)) Tryz.underlying26 rfl info26.out
    refine wpAnyH_take (i := 21) (oi := { dst := some 51, op := Op.load 26 (Operand.tmp 7), type := 26, pos := "law.go:38", after := #[{ on := 16, ground := Ground.guard }], guard := some (16, true) }) (v := .agg (qcells b)) rfl (by kernel_rfl) (by kernel_rfl) (by kernel_rfl) (fun _ _ _ h => h) (Or.inl ⟨by rfl, ?ysya21⟩) hS ?rsya21
    case ysya21 => exact fun w' hS => exec_load_row w' 26 (.tmp 7) rfl p5 (by first | rfl | (simp [Act.eval])) 26 (qcells b) (0, 0) _ (hS.row (by simp)) Tryz.underlying26 rfl info26.out
    go_simp
    refine wpAnyH_ready (rs := [19]) (by kernel_rfl) (by simp) ?_
    refine AllReadyH.cons (o := { dst := some 49, op := Op.call { callee := Callee.value (Operand.func 18), args := #[Operand.tmp 47, Operand.tmp 48], argTypes := #[26, 26] }, type := 26, pos := "law.go:38", after := #[{ on := 17, ground := Ground.data }, { on := 18, ground := Ground.data }, { on := 16, ground := Ground.chain }, { on := 16, ground := Ground.guard }], guard := some (16, true) }) rfl (fun K hK => ?_) AllReadyH.nil
    go_simp
    go_at_call 18
    refine (H6.out.2.2.2.2.1 _ hS.t).mono ?_
    rintro e w' ⟨rfl, b⟩
    have hS2 := hS.next b
    clear b hS
    try go_simp
    refine hK.out _ _ hS2 (fun hS => ?_)
    clear hK K hS2
    refine wpAnyH_ready (rs := [22]) (by kernel_rfl) (by simp) ?_
    refine AllReadyH.cons (o := { dst := some 52, op := Op.call { callee := Callee.value (Operand.func 19), args := #[Operand.tmp 50, Operand.tmp 51], argTypes := #[26, 26] }, type := 26, pos := "law.go:38", after := #[{ on := 20, ground := Ground.data }, { on := 21, ground := Ground.data }, { on := 19, ground := Ground.chain }, { on := 16, ground := Ground.guard }], guard := some (16, true) }) rfl (fun K hK => ?_) AllReadyH.nil
    go_simp
    go_at_call 19
    refine (H6.out.2.2.2.2.2 _ hS.t).mono ?_
    rintro e w' ⟨rfl, b⟩
    have hS2 := hS.next b
    clear b hS
    try go_simp
    refine hK.out _ _ hS2 (fun hS => ?_)
    clear hK K hS2
    refine wpAnyH_take (i := 23) (oi := { dst := some 53, op := Op.binOp BinOp.eql 26 (Operand.tmp 49) (Operand.tmp 52) 26, type := 4, pos := "law.go:38", after := #[{ on := 19, ground := Ground.data }, { on := 22, ground := Ground.data }, { on := 16, ground := Ground.guard }], guard := some (16, true) }) (v := ?vsya23) rfl (by kernel_rfl) (by kernel_rfl) (by kernel_rfl) (fun _ _ _ h => h) (Or.inl ⟨by rfl, ?ysya23⟩) hS ?rsya23
    case ysya23 => (intro w hS; go_simp; try with_reducible rfl)
    go_simp
    refine wpAnyH_take (i := 24) (oi := { dst := some 54, op := Op.pick (Operand.tmp 46) (Operand.tmp 53) (Operand.const (Value.bool false)), type := 4, pos := "law.go:38", after := #[{ on := 16, ground := Ground.data }, { on := 23, ground := Ground.data }], guard := none }) (v := ?vsya24) rfl (by kernel_rfl) (by kernel_rfl) (by kernel_rfl) (fun _ _ _ h => h) (Or.inl ⟨by rfl, ?ysya24⟩) hS ?rsya24
    case ysya24 => (intro w hS; go_simp; try with_reducible rfl)
    go_simp
    refine wpAnyH_take (i := 25) (oi := { dst := some 55, op := Op.move (Operand.tmp 54), type := 4, pos := "law.go:38", after := #[{ on := 24, ground := Ground.data }, { on := 22, ground := Ground.chain }], guard := none }) (v := ?vsya25) rfl (by kernel_rfl) (by kernel_rfl) (by kernel_rfl) (fun _ _ _ h => h) (Or.inl ⟨by rfl, ?ysya25⟩) hS ?rsya25
    case ysya25 => (intro w hS; go_simp; try with_reducible rfl)
    go_simp
    refine wpAnyH_take (i := 26) (oi := { dst := some 56, op := Op.load 26 (Operand.tmp 8), type := 26, pos := "law.go:38", after := #[{ on := 25, ground := Ground.guard }], guard := some (25, true) }) (v := .agg (qcells (a / b))) rfl (by kernel_rfl) (by kernel_rfl) (by kernel_rfl) (fun _ _ _ h => h) (Or.inl ⟨by rfl, ?ysya26⟩) hS ?rsya26
    case ysya26 => exact fun w' hS => exec_load_row w' 26 (.tmp 8) rfl p62 (by first | rfl | (simp [Act.eval])) 26 (qcells (a / b)) (0, 0) _ (hS.row (by simp)) Tryz.underlying26 rfl info26.out
    refine wpAnyH_take (i := 27) (oi := { dst := some 57, op := Op.load 26 (Operand.tmp 10), type := 26, pos := "law.go:38", after := #[{ on := 25, ground := Ground.guard }], guard := some (25, true) }) (v := .agg (qcells (a / b))) rfl (by kernel_rfl) (by kernel_rfl) (by kernel_rfl) (fun _ _ _ h => h) (Or.inl ⟨by rfl, ?ysya27⟩) hS ?rsya27
    case ysya27 => exact fun w' hS => exec_load_row w' 26 (.tmp 10) rfl p64 (by first | rfl | (simp [Act.eval])) 26 (qcells (a / b)) (0, 0) _ (hS.row (by simp)) Tryz.underlying26 rfl info26.out
    go_simp
    refine wpAnyH_take (i := 28) (oi := { dst := some 58, op := Op.binOp BinOp.eql 26 (Operand.tmp 56) (Operand.tmp 57) 26, type := 4, pos := "law.go:38", after := #[{ on := 26, ground := Ground.data }, { on := 27, ground := Ground.data }, { on := 25, ground := Ground.guard }], guard := some (25, true) }) (v := ?vsya28) rfl (by kernel_rfl) (by kernel_rfl) (by kernel_rfl) (fun _ _ _ h => h) (Or.inl ⟨by rfl, ?ysya28⟩) hS ?rsya28
    case ysya28 => (intro w hS; go_simp; try with_reducible rfl)
    go_simp
    refine wpAnyH_take (i := 29) (oi := { dst := some 59, op := Op.pick (Operand.tmp 55) (Operand.tmp 58) (Operand.const (Value.bool false)), type := 4, pos := "law.go:38", after := #[{ on := 25, ground := Ground.data }, { on := 28, ground := Ground.data }], guard := none }) (v := ?vsya29) rfl (by kernel_rfl) (by kernel_rfl) (by kernel_rfl) (fun _ _ _ h => h) (Or.inl ⟨by rfl, ?ysya29⟩) hS ?rsya29
    case ysya29 => (intro w hS; go_simp; try with_reducible rfl)
    go_simp
    refine wpAnyH_take (i := 30) (oi := { dst := some 60, op := Op.move (Operand.tmp 59), type := 4, pos := "law.go:38", after := #[{ on := 29, ground := Ground.data }, { on := 25, ground := Ground.chain }], guard := none }) (v := ?vsya30) rfl (by kernel_rfl) (by kernel_rfl) (by kernel_rfl) (fun _ _ _ h => h) (Or.inl ⟨by rfl, ?ysya30⟩) hS ?rsya30
    case ysya30 => (intro w hS; go_simp; try with_reducible rfl)
    go_simp
    refine wpAnyH_take (i := 31) (oi := { dst := some 61, op := Op.move (Operand.tmp 9), type := 4, pos := "law.go:38", after := #[{ on := 30, ground := Ground.guard }], guard := some (30, true) }) (v := ?vsya31) rfl (by kernel_rfl) (by kernel_rfl) (by kernel_rfl) (fun _ _ _ h => h) (Or.inl ⟨by rfl, ?ysya31⟩) hS ?rsya31
    case ysya31 => (intro w hS; go_simp; try with_reducible rfl)
    refine wpAnyH_take (i := 32) (oi := { dst := some 62, op := Op.move (Operand.tmp 11), type := 4, pos := "law.go:38", after := #[{ on := 30, ground := Ground.guard }], guard := some (30, true) }) (v := ?vsya32) rfl (by kernel_rfl) (by kernel_rfl) (by kernel_rfl) (fun _ _ _ h => h) (Or.inl ⟨by rfl, ?ysya32⟩) hS ?rsya32
    case ysya32 => (intro w hS; go_simp; try with_reducible rfl)
    go_simp
    refine wpAnyH_take (i := 33) (oi := { dst := some 63, op := Op.binOp BinOp.eql 4 (Operand.tmp 61) (Operand.tmp 62) 4, type := 4, pos := "law.go:38", after := #[{ on := 31, ground := Ground.data }, { on := 32, ground := Ground.data }, { on := 30, ground := Ground.guard }], guard := some (30, true) }) (v := ?vsya33) rfl (by kernel_rfl) (by kernel_rfl) (by kernel_rfl) (fun _ _ _ h => h) (Or.inl ⟨by rfl, ?ysya33⟩) hS ?rsya33
    case ysya33 => (intro w hS; go_simp; try with_reducible rfl)
    go_simp
    refine wpAnyH_take (i := 34) (oi := { dst := some 64, op := Op.pick (Operand.tmp 60) (Operand.tmp 63) (Operand.const (Value.bool false)), type := 4, pos := "law.go:38", after := #[{ on := 30, ground := Ground.data }, { on := 33, ground := Ground.data }], guard := none }) (v := ?vsya34) rfl (by kernel_rfl) (by kernel_rfl) (by kernel_rfl) (fun _ _ _ h => h) (Or.inl ⟨by rfl, ?ysya34⟩) hS ?rsya34
    case ysya34 => (intro w hS; go_simp; try with_reducible rfl)
    go_simp
    refine wpAnyH_take (i := 35) (oi := { dst := some 12, op := Op.assign (Operand.tmp 64), type := 4, pos := "law.go:38", after := #[{ on := 34, ground := Ground.data }, { on := 30, ground := Ground.chain }, { on := 0, ground := Ground.phase }, { on := 1, ground := Ground.phase }, { on := 2, ground := Ground.phase }, { on := 3, ground := Ground.phase }, { on := 4, ground := Ground.phase }, { on := 5, ground := Ground.phase }, { on := 6, ground := Ground.phase }, { on := 7, ground := Ground.phase }, { on := 8, ground := Ground.phase }, { on := 9, ground := Ground.phase }, { on := 10, ground := Ground.phase }, { on := 11, ground := Ground.phase }, { on := 12, ground := Ground.phase }, { on := 13, ground := Ground.phase }, { on := 14, ground := Ground.phase }, { on := 15, ground := Ground.phase }, { on := 16, ground := Ground.phase }, { on := 17, ground := Ground.phase }, { on := 18, ground := Ground.phase }, { on := 19, ground := Ground.phase }, { on := 20, ground := Ground.phase }, { on := 21, ground := Ground.phase }, { on := 22, ground := Ground.phase }, { on := 23, ground := Ground.phase }, { on := 24, ground := Ground.phase }, { on := 25, ground := Ground.phase }, { on := 26, ground := Ground.phase }, { on := 27, ground := Ground.phase }, { on := 28, ground := Ground.phase }, { on := 29, ground := Ground.phase }, { on := 30, ground := Ground.phase }, { on := 31, ground := Ground.phase }, { on := 32, ground := Ground.phase }, { on := 33, ground := Ground.phase }, { on := 34, ground := Ground.phase }], guard := none }) (v := ?vsya35) rfl (by kernel_rfl) (by kernel_rfl) (by kernel_rfl) (fun _ _ _ h => h) (Or.inl ⟨by rfl, ?ysya35⟩) hS ?rsya35
    case ysya35 => (intro w hS; go_simp; try with_reducible rfl)
    refine wpAnyH_done (by kernel_rfl) ?_ _
    have HR6 := Lib.hid hS
    clear hS E1 E2 E3 E4
    go_upto_region 7 with fail
    have E5 := HE.out.2.2.2
    refine wp_region_held_drew (S := KB w [(p64, qcells (a / b)), (p62, qcells (a / b)), (p5, qcells b), (p3, qcells a)]) (by kernel_rfl) HR6.out.drew (fun hS => ?_)
    clear HR6
    refine wpAnyH_take (i := 0) (oi := { dst := some 65, op := Op.move (Operand.tmp 5), type := 4, pos := "law.go:39", after := #[], guard := none }) (v := ?vsyb0) rfl (by kernel_rfl) (by kernel_rfl) (by kernel_rfl) (fun _ _ _ h => h) (Or.inl ⟨by rfl, ?ysyb0⟩) hS ?rsyb0
    case ysyb0 => (intro w hS; go_simp; try with_reducible rfl)
    go_simp
    refine wpAnyH_take (i := 1) (oi := { dst := some 66, op := Op.move (Operand.tmp 65), type := 4, pos := "law.go:39", after := #[{ on := 0, ground := Ground.data }], guard := none }) (v := ?vsyb1) rfl (by kernel_rfl) (by kernel_rfl) (by kernel_rfl) (fun _ _ _ h => h) (Or.inl ⟨by rfl, ?ysyb1⟩) hS ?rsyb1
    case ysyb1 => (intro w hS; go_simp; try with_reducible rfl)
    go_simp
    refine wpAnyH_take (i := 2) (oi := { dst := some 67, op := Op.move (Operand.tmp 12), type := 4, pos := "law.go:39", after := #[{ on := 1, ground := Ground.guard }], guard := some (1, true) }) (v := ?vsyb2) rfl (by kernel_rfl) (by kernel_rfl) (by kernel_rfl) (fun _ _ _ h => h) (Or.inl ⟨by rfl, ?ysyb2⟩) hS ?rsyb2
    case ysyb2 => (intro w hS; go_simp; try with_reducible rfl)
    go_simp
    refine wpAnyH_take (i := 3) (oi := { dst := some 68, op := Op.pick (Operand.tmp 66) (Operand.tmp 67) (Operand.const (Value.bool false)), type := 4, pos := "law.go:39", after := #[{ on := 1, ground := Ground.data }, { on := 2, ground := Ground.data }], guard := none }) (v := ?vsyb3) rfl (by kernel_rfl) (by kernel_rfl) (by kernel_rfl) (fun _ _ _ h => h) (Or.inl ⟨by rfl, ?ysyb3⟩) hS ?rsyb3
    case ysyb3 => (intro w hS; go_simp; try with_reducible rfl)
    go_simp
    refine wpAnyH_take (i := 4) (oi := { dst := some 69, op := Op.move (Operand.tmp 68), type := 4, pos := "law.go:39", after := #[{ on := 3, ground := Ground.data }, { on := 1, ground := Ground.chain }], guard := none }) (v := ?vsyb4) rfl (by kernel_rfl) (by kernel_rfl) (by kernel_rfl) (fun _ _ _ h => h) (Or.inl ⟨by rfl, ?ysyb4⟩) hS ?rsyb4
    case ysyb4 => (intro w hS; go_simp; try with_reducible rfl)
    go_simp
    refine wpAnyH_take (i := 5) (oi := { dst := some 70, op := Op.load 26 (Operand.tmp 6), type := 26, pos := "law.go:39", after := #[{ on := 4, ground := Ground.guard }], guard := some (4, true) }) (v := .agg (qcells a)) rfl (by kernel_rfl) (by kernel_rfl) (by kernel_rfl) (fun _ _ _ h => h) (Or.inl ⟨by rfl, ?ysyb5⟩) hS ?rsyb5
    case ysyb5 => exact fun w' hS => exec_load_row w' 26 (.tmp 6) rfl p3 (by first | rfl | (simp [Act.eval])) 26 (qcells a) (0, 0) _ (hS.row (by simp)) Tryz.underlying26 rfl info26.out
    refine wpAnyH_take (i := 6) (oi := { dst := some 71, op := Op.load 26 (Operand.tmp 7), type := 26, pos := "law.go:39", after := #[{ on := 4, ground := Ground.guard }], guard := some (4, true) }) (v := .agg (qcells b)) rfl (by kernel_rfl) (by kernel_rfl) (by kernel_rfl) (fun _ _ _ h => h) (Or.inl ⟨by rfl, ?ysyb6⟩) hS ?rsyb6
    case ysyb6 => exact fun w' hS => exec_load_row w' 26 (.tmp 7) rfl p5 (by first | rfl | (simp [Act.eval])) 26 (qcells b) (0, 0) _ (hS.row (by simp)) Tryz.underlying26 rfl info26.out
    refine wpAnyH_take (i := 8) (oi := { dst := some 73, op := Op.load 26 (Operand.tmp 6), type := 26, pos := "law.go:39", after := #[{ on := 4, ground := Ground.guard }], guard := some (4, true) }) (v := .agg (qcells a)) rfl (by kernel_rfl) (by kernel_rfl) (by kernel_rfl) (fun _ _ _ h => h) (Or.inl ⟨by rfl, ?ysyb8⟩) hS ?rsyb8
    case ysyb8 => exact fun w' hS => exec_load_row w' 26 (.tmp 6) rfl p3 (by first | rfl | (simp [Act.eval])) 26 (qcells a) (0, 0) _ (hS.row (by simp)) Tryz.underlying26 rfl info26.out
    refine wpAnyH_take (i := 9) (oi := { dst := some 74, op := Op.load 26 (Operand.tmp 7), type := 26, pos := "law.go:39", after := #[{ on := 4, ground := Ground.guard }], guard := some (4, true) }) (v := .agg (qcells b)) rfl (by kernel_rfl) (by kernel_rfl) (by kernel_rfl) (fun _ _ _ h => h) (Or.inl ⟨by rfl, ?ysyb9⟩) hS ?rsyb9
    case ysyb9 => exact fun w' hS => exec_load_row w' 26 (.tmp 7) rfl p5 (by first | rfl | (simp [Act.eval])) 26 (qcells b) (0, 0) _ (hS.row (by simp)) Tryz.underlying26 rfl info26.out
    go_simp
    refine wpAnyH_ready (rs := [7]) (by kernel_rfl) (by simp) ?_
    refine AllReadyH.cons (o := { dst := some 72, op := Op.call { callee := Callee.value (Operand.func 20), args := #[Operand.tmp 70, Operand.tmp 71], argTypes := #[26, 26] }, type := 3, pos := "law.go:39", after := #[{ on := 5, ground := Ground.data }, { on := 6, ground := Ground.data }, { on := 4, ground := Ground.chain }, { on := 4, ground := Ground.guard }], guard := some (4, true) }) rfl (fun K hK => ?_) AllReadyH.nil
    go_simp
    go_at_call 20
    refine (H7.out.1 _ hS.t).mono ?_
    rintro e w' ⟨rfl, b⟩
    have hS2 := hS.next b
    clear b hS
    try go_simp
    refine hK.out _ _ hS2 (fun hS => ?_)
    clear hK K hS2
    refine wpAnyH_ready (rs := [10]) (by kernel_rfl) (by simp) ?_
    refine AllReadyH.cons (o := { dst := some 75, op := Op.call { callee := Callee.value (Operand.func 21), args := #[Operand.tmp 73, Operand.tmp 74], argTypes := #[26, 26] }, type := 3, pos := "law.go:39", after := #[{ on := 8, ground := Ground.data }, { on := 9, ground := Ground.data }, { on := 7, ground := Ground.chain }, { on := 4, ground := Ground.guard }], guard := some (4, true) }) rfl (fun K hK => ?_) AllReadyH.nil
    go_simp
    go_at_call 21
    refine (H7.out.2.1 _ hS.t).mono ?_
    rintro e w' ⟨rfl, b⟩
    have hS2 := hS.next b
    clear b hS
    try go_simp
    refine hK.out _ _ hS2 (fun hS => ?_)
    clear hK K hS2
    refine wpAnyH_take (i := 11) (oi := { dst := some 76, op := Op.binOp BinOp.eql 3 (Operand.tmp 72) (Operand.tmp 75) 3, type := 4, pos := "law.go:39", after := #[{ on := 7, ground := Ground.data }, { on := 10, ground := Ground.data }, { on := 4, ground := Ground.guard }], guard := some (4, true) }) (v := ?vsyb11) rfl (by kernel_rfl) (by kernel_rfl) (by kernel_rfl) (fun _ _ _ h => h) (Or.inl ⟨by rfl, ?ysyb11⟩) hS ?rsyb11
    case ysyb11 => (intro w hS; go_simp; try with_reducible rfl)
    go_simp
    refine wpAnyH_take (i := 12) (oi := { dst := some 77, op := Op.pick (Operand.tmp 69) (Operand.tmp 76) (Operand.const (Value.bool false)), type := 4, pos := "law.go:39", after := #[{ on := 4, ground := Ground.data }, { on := 11, ground := Ground.data }], guard := none }) (v := ?vsyb12) rfl (by kernel_rfl) (by kernel_rfl) (by kernel_rfl) (fun _ _ _ h => h) (Or.inl ⟨by rfl, ?ysyb12⟩) hS ?rsyb12
    case ysyb12 => (intro w hS; go_simp; try with_reducible rfl)
    go_simp
    refine wpAnyH_take (i := 13) (oi := { dst := some 78, op := Op.move (Operand.tmp 77), type := 4, pos := "law.go:39", after := #[{ on := 12, ground := Ground.data }, { on := 10, ground := Ground.chain }], guard := none }) (v := ?vsyb13) rfl (by kernel_rfl) (by kernel_rfl) (by kernel_rfl) (fun _ _ _ h => h) (Or.inl ⟨by rfl, ?ysyb13⟩) hS ?rsyb13
    case ysyb13 => (intro w hS; go_simp; try with_reducible rfl)
    go_simp
    refine wpAnyH_take (i := 14) (oi := { dst := some 79, op := Op.load 26 (Operand.tmp 6), type := 26, pos := "law.go:39", after := #[{ on := 13, ground := Ground.guard }], guard := some (13, true) }) (v := .agg (qcells a)) rfl (by kernel_rfl) (by kernel_rfl) (by kernel_rfl) (fun _ _ _ h => h) (Or.inl ⟨by rfl, ?ysyb14⟩) hS ?rsyb14
    case ysyb14 => exact fun w' hS => exec_load_row w' 26 (.tmp 6) rfl p3 (by first | rfl | (simp [Act.eval])) 26 (qcells a) (0, 0) _ (hS.row (by simp)) Tryz.underlying26 rfl info26.out
    refine wpAnyH_take (i := 16) (oi := { dst := some 81, op := Op.load 26 (Operand.tmp 6), type := 26, pos := "law.go:39", after := #[{ on := 13, ground := Ground.guard }], guard := some (13, true) }) (v := .agg (qcells a)) rfl (by kernel_rfl) (by kernel_rfl) (by kernel_rfl) (fun _ _ _ h => h) (Or.inl ⟨by rfl, ?ysyb16⟩) hS ?rsyb16
    case ysyb16 => exact fun w' hS => exec_load_row w' 26 (.tmp 6) rfl p3 (by first | rfl | (simp [Act.eval])) 26 (qcells a) (0, 0) _ (hS.row (by simp)) Tryz.underlying26 rfl info26.out
    go_simp
    refine wpAnyH_ready (rs := [15]) (by kernel_rfl) (by simp) ?_
    refine AllReadyH.cons (o := { dst := some 80, op := Op.call { callee := Callee.value (Operand.func 22), args := #[Operand.tmp 79], argTypes := #[26] }, type := 3, pos := "law.go:39", after := #[{ on := 14, ground := Ground.data }, { on := 13, ground := Ground.chain }, { on := 13, ground := Ground.guard }], guard := some (13, true) }) rfl (fun K hK => ?_) AllReadyH.nil
    go_simp
    go_at_call 22
    refine (H7.out.2.2.1 _ hS.t).mono ?_
    rintro e w' ⟨rfl, b⟩
    have hS2 := hS.next b
    clear b hS
    try go_simp
    refine hK.out _ _ hS2 (fun hS => ?_)
    clear hK K hS2
    refine wpAnyH_ready (rs := [17]) (by kernel_rfl) (by simp) ?_
    refine AllReadyH.cons (o := { dst := some 82, op := Op.call { callee := Callee.value (Operand.func 23), args := #[Operand.tmp 81], argTypes := #[26] }, type := 3, pos := "law.go:39", after := #[{ on := 16, ground := Ground.data }, { on := 15, ground := Ground.chain }, { on := 13, ground := Ground.guard }], guard := some (13, true) }) rfl (fun K hK => ?_) AllReadyH.nil
    go_simp
    go_at_call 23
    refine (H7.out.2.2.2.1 _).mono ?_
    rintro e w' ⟨rfl, b⟩
    have hS2 := hS.next b
    clear b hS
    try go_simp
    refine hK.out _ _ hS2 (fun hS => ?_)
    clear hK K hS2
    refine wpAnyH_take (i := 18) (oi := { dst := some 83, op := Op.binOp BinOp.eql 3 (Operand.tmp 80) (Operand.tmp 82) 3, type := 4, pos := "law.go:39", after := #[{ on := 15, ground := Ground.data }, { on := 17, ground := Ground.data }, { on := 13, ground := Ground.guard }], guard := some (13, true) }) (v := ?vsyb18) rfl (by kernel_rfl) (by kernel_rfl) (by kernel_rfl) (fun _ _ _ h => h) (Or.inl ⟨by rfl, ?ysyb18⟩) hS ?rsyb18
    case ysyb18 => (intro w hS; go_simp; try with_reducible rfl)
    go_simp
    refine wpAnyH_take (i := 19) (oi := { dst := some 84, op := Op.pick (Operand.tmp 78) (Operand.tmp 83) (Operand.const (Value.bool false)), type := 4, pos := "law.go:39", after := #[{ on := 13, ground := Ground.data }, { on := 18, ground := Ground.data }], guard := none }) (v := ?vsyb19) rfl (by kernel_rfl) (by kernel_rfl) (by kernel_rfl) (fun _ _ _ h => h) (Or.inl ⟨by rfl, ?ysyb19⟩) hS ?rsyb19
    case ysyb19 => (intro w hS; go_simp; try with_reducible rfl)
    go_simp
    refine wpAnyH_take (i := 20) (oi := { dst := some 85, op := Op.move (Operand.tmp 84), type := 4, pos := "law.go:39", after := #[{ on := 19, ground := Ground.data }, { on := 17, ground := Ground.chain }], guard := none }) (v := ?vsyb20) rfl (by kernel_rfl) (by kernel_rfl) (by kernel_rfl) (fun _ _ _ h => h) (Or.inl ⟨by rfl, ?ysyb20⟩) hS ?rsyb20
    case ysyb20 => (intro w hS; go_simp; try with_reducible rfl)
    go_simp
    refine wpAnyH_take (i := 21) (oi := { dst := some 86, op := Op.load 26 (Operand.tmp 6), type := 26, pos := "law.go:39", after := #[{ on := 20, ground := Ground.guard }], guard := some (20, true) }) (v := .agg (qcells a)) rfl (by kernel_rfl) (by kernel_rfl) (by kernel_rfl) (fun _ _ _ h => h) (Or.inl ⟨by rfl, ?ysyb21⟩) hS ?rsyb21
    case ysyb21 => exact fun w' hS => exec_load_row w' 26 (.tmp 6) rfl p3 (by first | rfl | (simp [Act.eval])) 26 (qcells a) (0, 0) _ (hS.row (by simp)) Tryz.underlying26 rfl info26.out
    refine wpAnyH_take (i := 23) (oi := { dst := some 88, op := Op.load 26 (Operand.tmp 6), type := 26, pos := "law.go:39", after := #[{ on := 20, ground := Ground.guard }], guard := some (20, true) }) (v := .agg (qcells a)) rfl (by kernel_rfl) (by kernel_rfl) (by kernel_rfl) (fun _ _ _ h => h) (Or.inl ⟨by rfl, ?ysyb23⟩) hS ?rsyb23
    case ysyb23 => exact fun w' hS => exec_load_row w' 26 (.tmp 6) rfl p3 (by first | rfl | (simp [Act.eval])) 26 (qcells a) (0, 0) _ (hS.row (by simp)) Tryz.underlying26 rfl info26.out
    go_simp
    refine wpAnyH_ready (rs := [22]) (by kernel_rfl) (by simp) ?_
    refine AllReadyH.cons (o := { dst := some 87, op := Op.call { callee := Callee.value (Operand.func 24), args := #[Operand.tmp 86], argTypes := #[26] }, type := 26, pos := "law.go:39", after := #[{ on := 21, ground := Ground.data }, { on := 20, ground := Ground.chain }, { on := 20, ground := Ground.guard }], guard := some (20, true) }) rfl (fun K hK => ?_) AllReadyH.nil
    go_simp
    go_at_call 24
    refine (H7.out.2.2.2.2.1 _ hS.t).mono ?_
    rintro e w' ⟨rfl, b⟩
    have hS2 := hS.next b
    clear b hS
    try go_simp
    refine hK.out _ _ hS2 (fun hS => ?_)
    clear hK K hS2
    refine wpAnyH_ready (rs := [24]) (by kernel_rfl) (by simp) ?_
    refine AllReadyH.cons (o := { dst := some 89, op := Op.call { callee := Callee.value (Operand.func 25), args := #[Operand.tmp 88], argTypes := #[26] }, type := 26, pos := "law.go:39", after := #[{ on := 23, ground := Ground.data }, { on := 22, ground := Ground.chain }, { on := 20, ground := Ground.guard }], guard := some (20, true) }) rfl (fun K hK => ?_) AllReadyH.nil
    go_simp
    go_at_call 25
    refine (H7.out.2.2.2.2.2 _ hS.t).mono ?_
    rintro e w' ⟨rfl, b⟩
    have hS2 := hS.next b
    clear b hS
    try go_simp
    refine hK.out _ _ hS2 (fun hS => ?_)
    clear hK K hS2
    refine wpAnyH_take (i := 25) (oi := { dst := some 90, op := Op.binOp BinOp.eql 26 (Operand.tmp 87) (Operand.tmp 89) 26, type := 4, pos := "law.go:39", after := #[{ on := 22, ground := Ground.data }, { on := 24, ground := Ground.data }, { on := 20, ground := Ground.guard }], guard := some (20, true) }) (v := ?vsyb25) rfl (by kernel_rfl) (by kernel_rfl) (by kernel_rfl) (fun _ _ _ h => h) (Or.inl ⟨by rfl, ?ysyb25⟩) hS ?rsyb25
    case ysyb25 => (intro w hS; go_simp; try with_reducible rfl)
    go_simp
    refine wpAnyH_take (i := 26) (oi := { dst := some 91, op := Op.pick (Operand.tmp 85) (Operand.tmp 90) (Operand.const (Value.bool false)), type := 4, pos := "law.go:39", after := #[{ on := 20, ground := Ground.data }, { on := 25, ground := Ground.data }], guard := none }) (v := ?vsyb26) rfl (by kernel_rfl) (by kernel_rfl) (by kernel_rfl) (fun _ _ _ h => h) (Or.inl ⟨by rfl, ?ysyb26⟩) hS ?rsyb26
    case ysyb26 => (intro w hS; go_simp; try with_reducible rfl)
    go_simp
    refine wpAnyH_take (i := 27) (oi := { dst := some 4, op := Op.assign (Operand.tmp 91), type := 4, pos := "law.go:39", after := #[{ on := 26, ground := Ground.data }, { on := 24, ground := Ground.chain }, { on := 0, ground := Ground.phase }, { on := 1, ground := Ground.phase }, { on := 2, ground := Ground.phase }, { on := 3, ground := Ground.phase }, { on := 4, ground := Ground.phase }, { on := 5, ground := Ground.phase }, { on := 6, ground := Ground.phase }, { on := 7, ground := Ground.phase }, { on := 8, ground := Ground.phase }, { on := 9, ground := Ground.phase }, { on := 10, ground := Ground.phase }, { on := 11, ground := Ground.phase }, { on := 12, ground := Ground.phase }, { on := 13, ground := Ground.phase }, { on := 14, ground := Ground.phase }, { on := 15, ground := Ground.phase }, { on := 16, ground := Ground.phase }, { on := 17, ground := Ground.phase }, { on := 18, ground := Ground.phase }, { on := 19, ground := Ground.phase }, { on := 20, ground := Ground.phase }, { on := 21, ground := Ground.phase }, { on := 22, ground := Ground.phase }, { on := 23, ground := Ground.phase }, { on := 24, ground := Ground.phase }, { on := 25, ground := Ground.phase }, { on := 26, ground := Ground.phase }], guard := none }) (v := ?vsyb27) rfl (by kernel_rfl) (by kernel_rfl) (by kernel_rfl) (fun _ _ _ h => h) (Or.inl ⟨by rfl, ?ysyb27⟩) hS ?rsyb27
    case ysyb27 => (intro w hS; go_simp; try with_reducible rfl)
    refine wpAnyH_done (by kernel_rfl) ?_ _
    go_wp2
    go_ret
    exact ⟨rfl, hS.b⟩
end Go.Proofs.YteccbedmpjeamaaGreatDoor
