/-
  The walks of deal.fits, deal.take, deal.shared, deal.within and deal.Open.
-/
import Derived.Test.YtjfbpmpdcmealaaGreatDoorDKeep
namespace Go.Proofs.YtjfbpmpdcmealaaGreatDoor.D7
open Go.RowKit GM SH G4 E6 D7P
theorem within_c (w : World) (i n : Int) (r : Bool) (h : (decide (0 ≤ i) && decide (i < n)) = r) :
    Calls Tryz.prog 39 #[.int .i64 i, .int .i64 n] w fun e w' => e = .returned (.bool r) ∧ w' = w := by
  subst h
  by_cases h0 : 0 ≤ i
  · by_cases h1 : i < n
    · have E := Lib.hid (show (decide (0 ≤ i) && decide (i < n)) = true by rw [decide_eq_true h0, decide_eq_true h1]; rfl)
      go_enter Tryz.func39, Tryz.ntmps39
      go_wp2
      go_ret
      exact ⟨by rw [E.out]; rfl, rfl⟩
    · rw [show (decide (0 ≤ i) && decide (i < n)) = false by rw [decide_eq_false h1]; simp]
      go_enter Tryz.func39, Tryz.ntmps39
      go_wp2
      go_ret
      exact ⟨rfl, rfl⟩
  · have E := Lib.hid (show (decide (0 ≤ i) && decide (i < n)) = false by rw [decide_eq_false h0]; rfl)
    go_enter Tryz.func39, Tryz.ntmps39
    go_wp2
    go_ret
    exact ⟨by rw [E.out]; rfl, rfl⟩
set_option maxRecDepth 100000 in
set_option maxHeartbeats 4000000 in
theorem fits_core (w : World) (X Y pt u v : Int) (p q : Option Addr) (n c m e : Nat)
    (E1 : Hid (∀ W, Calls Tryz.prog 33 #[.int .i64 Y] W fun e w' => e = .returned (.bool true) ∧ Below W.heap.size W w'))
    (P1 : Hid (∀ W, Calls Tryz.prog 36 #[.int .i64 4, .int .i64 Y] W fun e w' => e = .returned (.int .i64 u) ∧ Below W.heap.size W w'))
    (A1 : Hid (∀ W, Below w.heap.size w W → Calls Tryz.prog 30 #[.slice p n c, .int .i64 X] W fun e w' => e = .returned (.int .i64 v) ∧ Below W.heap.size W w')) :
    Calls Tryz.prog 75 #[.agg #[.int .i64 X, .int .i64 Y], .agg #[.slice p n c, .int .i64 pt, .slice q m e]] w fun e w' => e = .returned (.bool (u == v)) ∧ Below w.heap.size w w' := by
  obtain ⟨W, hW⟩ : ∃ W, (w.alloc (.cells #[.int .i64 X, .int .i64 Y] 55)).alloc (.cells #[.slice p n c, .int .i64 pt, .slice q m e] 34) = W := ⟨_, rfl⟩
  have K0 : CK w [(⟨w.heap.size, 0, none⟩, .int .i64 X), (⟨w.heap.size, 1, none⟩, .int .i64 Y), (⟨w.heap.size + 1, 0, none⟩, .slice p n c), (⟨w.heap.size + 1, 1, none⟩, .int .i64 pt), (⟨w.heap.size + 1, 2, none⟩, .slice q m e)] [] W := by
    have := (((CK.start w).cells #[.int .i64 X, .int .i64 Y] 55 _ rfl).cells #[.slice p n c, .int .i64 pt, .slice q m e] 34 _ rfl)
    rw [hW, World.size_alloc] at this
    exact this.sub (by simp) (by simp)
  go_enter Tryz.func75, Tryz.ntmps75
  go_upto_region 1 with fail
  have HK := Lib.hid K0; clear K0 hW
  refine wp_region_held_drew (S := CK w [(⟨w.heap.size, 0, none⟩, .int .i64 X), (⟨w.heap.size, 1, none⟩, .int .i64 Y), (⟨w.heap.size + 1, 0, none⟩, .slice p n c), (⟨w.heap.size + 1, 1, none⟩, .int .i64 pt), (⟨w.heap.size + 1, 2, none⟩, .slice q m e)] []) (by kernel_rfl) HK.out.drew (fun hS => ?_)
  clear HK
  refine wpAnyH_take (i := 0) (oi := { dst := some 5, op := Op.fieldAddr 55 (Operand.tmp 2) 1, type := 0, pos := "judge.go:56", after := #[], guard := none }) (v := ?vfy0) rfl (by kernel_rfl) (by kernel_rfl) (by kernel_rfl) (fun _ _ _ h => h) (Or.inl ⟨by rfl, ?yfy0⟩) hS ?rfy0
  case yfy0 => (intro w hS; go_simp; try with_reducible rfl)
  go_simp
  refine wpAnyH_take (i := 1) (oi := { dst := some 6, op := Op.load 3 (Operand.tmp 5), type := 3, pos := "judge.go:56", after := #[{ on := 0, ground := Ground.data }], guard := none }) (v := .int .i64 Y) rfl (by kernel_rfl) (by kernel_rfl) (by kernel_rfl) (fun _ _ _ h => h) (Or.inl ⟨by rfl, ?yfy1⟩) hS ?rfy1
  case yfy1 => (intro w' hS; have cf := hS.get ⟨w.heap.size, 1, none⟩ (.int .i64 Y) (by simp); go_simp; try with_reducible rfl)
  go_simp
  refine wpAnyH_ready (rs := [2]) (by kernel_rfl) (by simp) ?_
  refine AllReadyH.cons (o := { dst := some 7, op := Op.call { callee := Callee.value (Operand.func 33), args := #[Operand.tmp 6], argTypes := #[3] }, type := 4, pos := "judge.go:56", after := #[{ on := 1, ground := Ground.data }], guard := none }) rfl (fun K hK => ?_) AllReadyH.nil
  go_simp
  go_at_call 33
  refine (E1.out _).mono ?_
  rintro e w' ⟨rfl, b⟩
  have hS2 := hS.next b
  clear b hS
  try go_simp
  refine hK.out _ _ hS2 (fun hS => ?_)
  clear hK K hS2
  refine wpAnyH_take (i := 3) (oi := { dst := some 8, op := Op.move (Operand.tmp 7), type := 4, pos := "judge.go:56", after := #[{ on := 2, ground := Ground.data }, { on := 2, ground := Ground.chain }], guard := none }) (v := ?vfy3) rfl (by kernel_rfl) (by kernel_rfl) (by kernel_rfl) (fun _ _ _ h => h) (Or.inl ⟨by rfl, ?yfy3⟩) hS ?rfy3
  case yfy3 => (intro w hS; go_simp; try with_reducible rfl)
  go_simp
  refine wpAnyH_take (i := 4) (oi := { dst := some 9, op := Op.fieldAddr 55 (Operand.tmp 2) 1, type := 0, pos := "judge.go:56", after := #[{ on := 3, ground := Ground.guard }], guard := some (3, true) }) (v := ?vfy4) rfl (by kernel_rfl) (by kernel_rfl) (by kernel_rfl) (fun _ _ _ h => h) (Or.inl ⟨by rfl, ?yfy4⟩) hS ?rfy4
  case yfy4 => (intro w hS; go_simp; try with_reducible rfl)
  refine wpAnyH_take (i := 7) (oi := { dst := some 12, op := Op.fieldAddr 34 (Operand.tmp 3) 0, type := 0, pos := "judge.go:56", after := #[{ on := 3, ground := Ground.guard }], guard := some (3, true) }) (v := ?vfy7) rfl (by kernel_rfl) (by kernel_rfl) (by kernel_rfl) (fun _ _ _ h => h) (Or.inl ⟨by rfl, ?yfy7⟩) hS ?rfy7
  case yfy7 => (intro w hS; go_simp; try with_reducible rfl)
  refine wpAnyH_take (i := 9) (oi := { dst := some 14, op := Op.fieldAddr 55 (Operand.tmp 2) 0, type := 0, pos := "judge.go:56", after := #[{ on := 3, ground := Ground.guard }], guard := some (3, true) }) (v := ?vfy9) rfl (by kernel_rfl) (by kernel_rfl) (by kernel_rfl) (fun _ _ _ h => h) (Or.inl ⟨by rfl, ?yfy9⟩) hS ?rfy9
  case yfy9 => (intro w hS; go_simp; try with_reducible rfl)
  go_simp
  refine wpAnyH_take (i := 5) (oi := { dst := some 10, op := Op.load 3 (Operand.tmp 9), type := 3, pos := "judge.go:56", after := #[{ on := 4, ground := Ground.data }, { on := 3, ground := Ground.guard }], guard := some (3, true) }) (v := .int .i64 Y) rfl (by kernel_rfl) (by kernel_rfl) (by kernel_rfl) (fun _ _ _ h => h) (Or.inl ⟨by rfl, ?yfy5⟩) hS ?rfy5
  case yfy5 => (intro w' hS; have cf := hS.get ⟨w.heap.size, 1, none⟩ (.int .i64 Y) (by simp); go_simp; try with_reducible rfl)
  refine wpAnyH_take (i := 8) (oi := { dst := some 13, op := Op.load 22 (Operand.tmp 12), type := 22, pos := "judge.go:56", after := #[{ on := 7, ground := Ground.data }, { on := 3, ground := Ground.guard }], guard := some (3, true) }) (v := .slice p n c) rfl (by kernel_rfl) (by kernel_rfl) (by kernel_rfl) (fun _ _ _ h => h) (Or.inl ⟨by rfl, ?yfy8⟩) hS ?rfy8
  case yfy8 => (intro w' hS; have cf := hS.get ⟨w.heap.size + 1, 0, none⟩ (.slice p n c) (by simp); go_simp; try with_reducible rfl)
  refine wpAnyH_take (i := 10) (oi := { dst := some 15, op := Op.load 3 (Operand.tmp 14), type := 3, pos := "judge.go:56", after := #[{ on := 9, ground := Ground.data }, { on := 3, ground := Ground.guard }], guard := some (3, true) }) (v := .int .i64 X) rfl (by kernel_rfl) (by kernel_rfl) (by kernel_rfl) (fun _ _ _ h => h) (Or.inl ⟨by rfl, ?yfy10⟩) hS ?rfy10
  case yfy10 => (intro w' hS; have cf := hS.get ⟨w.heap.size, 0, none⟩ (.int .i64 X) (by simp); go_simp; try with_reducible rfl)
  go_simp
  refine wpAnyH_ready (rs := [6]) (by kernel_rfl) (by simp) ?_
  refine AllReadyH.cons (o := { dst := some 11, op := Op.call { callee := Callee.value (Operand.func 36), args := #[Operand.const (Value.int IntKind.i64 4), Operand.tmp 10], argTypes := #[3, 3] }, type := 3, pos := "judge.go:56", after := #[{ on := 5, ground := Ground.data }, { on := 3, ground := Ground.chain }, { on := 3, ground := Ground.guard }], guard := some (3, true) }) rfl (fun K hK => ?_) AllReadyH.nil
  go_simp
  go_at_call 36
  refine (P1.out _).mono ?_
  rintro e w' ⟨rfl, b⟩
  have hS2 := hS.next b
  clear b hS
  try go_simp
  refine hK.out _ _ hS2 (fun hS => ?_)
  clear hK K hS2
  refine wpAnyH_ready (rs := [11]) (by kernel_rfl) (by simp) ?_
  refine AllReadyH.cons (o := { dst := some 16, op := Op.call { callee := Callee.value (Operand.func 30), args := #[Operand.tmp 13, Operand.tmp 15], argTypes := #[22, 3] }, type := 3, pos := "judge.go:56", after := #[{ on := 8, ground := Ground.data }, { on := 10, ground := Ground.data }, { on := 6, ground := Ground.chain }, { on := 3, ground := Ground.guard }], guard := some (3, true) }) rfl (fun K hK => ?_) AllReadyH.nil
  go_simp
  go_at_call 30
  refine (A1.out _ hS.b).mono ?_
  rintro e w' ⟨rfl, b⟩
  have hS2 := hS.next b
  clear b hS
  try go_simp
  refine hK.out _ _ hS2 (fun hS => ?_)
  clear hK K hS2
  refine wpAnyH_take (i := 12) (oi := { dst := some 17, op := Op.binOp BinOp.eql 3 (Operand.tmp 11) (Operand.tmp 16) 3, type := 4, pos := "judge.go:56", after := #[{ on := 6, ground := Ground.data }, { on := 11, ground := Ground.data }, { on := 3, ground := Ground.guard }], guard := some (3, true) }) (v := ?vfy12) rfl (by kernel_rfl) (by kernel_rfl) (by kernel_rfl) (fun _ _ _ h => h) (Or.inl ⟨by rfl, ?yfy12⟩) hS ?rfy12
  case yfy12 => (intro w hS; go_simp; try with_reducible rfl)
  go_simp
  refine wpAnyH_take (i := 13) (oi := { dst := some 18, op := Op.pick (Operand.tmp 8) (Operand.tmp 17) (Operand.const (Value.bool false)), type := 4, pos := "judge.go:56", after := #[{ on := 3, ground := Ground.data }, { on := 12, ground := Ground.data }], guard := none }) (v := ?vfy13) rfl (by kernel_rfl) (by kernel_rfl) (by kernel_rfl) (fun _ _ _ h => h) (Or.inl ⟨by rfl, ?yfy13⟩) hS ?rfy13
  case yfy13 => (intro w hS; go_simp; try with_reducible rfl)
  go_simp
  refine wpAnyH_take (i := 14) (oi := { dst := some 4, op := Op.assign (Operand.tmp 18), type := 4, pos := "judge.go:56", after := #[{ on := 13, ground := Ground.data }, { on := 11, ground := Ground.chain }, { on := 0, ground := Ground.phase }, { on := 1, ground := Ground.phase }, { on := 2, ground := Ground.phase }, { on := 3, ground := Ground.phase }, { on := 4, ground := Ground.phase }, { on := 5, ground := Ground.phase }, { on := 6, ground := Ground.phase }, { on := 7, ground := Ground.phase }, { on := 8, ground := Ground.phase }, { on := 9, ground := Ground.phase }, { on := 10, ground := Ground.phase }, { on := 11, ground := Ground.phase }, { on := 12, ground := Ground.phase }, { on := 13, ground := Ground.phase }], guard := none }) (v := ?vfy14) rfl (by kernel_rfl) (by kernel_rfl) (by kernel_rfl) (fun _ _ _ h => h) (Or.inl ⟨by rfl, ?yfy14⟩) hS ?rfy14
  case yfy14 => (intro w hS; go_simp; try with_reducible rfl)
  refine wpAnyH_done (by kernel_rfl) ?_ _
  go_wp2
  go_ret
  exact ⟨rfl, hS.b⟩
set_option maxRecDepth 100000 in
set_option maxHeartbeats 4000000 in
theorem fits_no (w : World) (X Y pt : Int) (p q : Option Addr) (n c m e : Nat)
    (E1 : Hid (∀ W, Calls Tryz.prog 33 #[.int .i64 Y] W fun e w' => e = .returned (.bool false) ∧ Below W.heap.size W w')) :
    Calls Tryz.prog 75 #[.agg #[.int .i64 X, .int .i64 Y], .agg #[.slice p n c, .int .i64 pt, .slice q m e]] w fun e w' => e = .returned (.bool false) ∧ Below w.heap.size w w' := by
  obtain ⟨W, hW⟩ : ∃ W, (w.alloc (.cells #[.int .i64 X, .int .i64 Y] 55)).alloc (.cells #[.slice p n c, .int .i64 pt, .slice q m e] 34) = W := ⟨_, rfl⟩
  have K0 : CK w [(⟨w.heap.size, 0, none⟩, .int .i64 X), (⟨w.heap.size, 1, none⟩, .int .i64 Y), (⟨w.heap.size + 1, 0, none⟩, .slice p n c), (⟨w.heap.size + 1, 1, none⟩, .int .i64 pt), (⟨w.heap.size + 1, 2, none⟩, .slice q m e)] [] W := by
    have := (((CK.start w).cells #[.int .i64 X, .int .i64 Y] 55 _ rfl).cells #[.slice p n c, .int .i64 pt, .slice q m e] 34 _ rfl)
    rw [hW, World.size_alloc] at this
    exact this.sub (by simp) (by simp)
  go_enter Tryz.func75, Tryz.ntmps75
  go_upto_region 1 with fail
  have HK := Lib.hid K0; clear K0 hW
  refine wp_region_held_drew (S := CK w [(⟨w.heap.size, 0, none⟩, .int .i64 X), (⟨w.heap.size, 1, none⟩, .int .i64 Y), (⟨w.heap.size + 1, 0, none⟩, .slice p n c), (⟨w.heap.size + 1, 1, none⟩, .int .i64 pt), (⟨w.heap.size + 1, 2, none⟩, .slice q m e)] []) (by kernel_rfl) HK.out.drew (fun hS => ?_)
  clear HK
  refine wpAnyH_take (i := 0) (oi := { dst := some 5, op := Op.fieldAddr 55 (Operand.tmp 2) 1, type := 0, pos := "judge.go:56", after := #[], guard := none }) (v := ?vfn0) rfl (by kernel_rfl) (by kernel_rfl) (by kernel_rfl) (fun _ _ _ h => h) (Or.inl ⟨by rfl, ?yfn0⟩) hS ?rfn0
  case yfn0 => (intro w hS; go_simp; try with_reducible rfl)
  go_simp
  refine wpAnyH_take (i := 1) (oi := { dst := some 6, op := Op.load 3 (Operand.tmp 5), type := 3, pos := "judge.go:56", after := #[{ on := 0, ground := Ground.data }], guard := none }) (v := .int .i64 Y) rfl (by kernel_rfl) (by kernel_rfl) (by kernel_rfl) (fun _ _ _ h => h) (Or.inl ⟨by rfl, ?yfn1⟩) hS ?rfn1
  case yfn1 => (intro w' hS; have cf := hS.get ⟨w.heap.size, 1, none⟩ (.int .i64 Y) (by simp); go_simp; try with_reducible rfl)
  go_simp
  refine wpAnyH_ready (rs := [2]) (by kernel_rfl) (by simp) ?_
  refine AllReadyH.cons (o := { dst := some 7, op := Op.call { callee := Callee.value (Operand.func 33), args := #[Operand.tmp 6], argTypes := #[3] }, type := 4, pos := "judge.go:56", after := #[{ on := 1, ground := Ground.data }], guard := none }) rfl (fun K hK => ?_) AllReadyH.nil
  go_simp
  go_at_call 33
  refine (E1.out _).mono ?_
  rintro e w' ⟨rfl, b⟩
  have hS2 := hS.next b
  clear b hS
  try go_simp
  refine hK.out _ _ hS2 (fun hS => ?_)
  clear hK K hS2
  refine wpAnyH_take (i := 3) (oi := { dst := some 8, op := Op.move (Operand.tmp 7), type := 4, pos := "judge.go:56", after := #[{ on := 2, ground := Ground.data }, { on := 2, ground := Ground.chain }], guard := none }) (v := ?vfn3) rfl (by kernel_rfl) (by kernel_rfl) (by kernel_rfl) (fun _ _ _ h => h) (Or.inl ⟨by rfl, ?yfn3⟩) hS ?rfn3
  case yfn3 => (intro w hS; go_simp; try with_reducible rfl)
  go_simp
  refine wpAnyH_take (i := 4) (oi := { dst := some 9, op := Op.fieldAddr 55 (Operand.tmp 2) 1, type := 0, pos := "judge.go:56", after := #[{ on := 3, ground := Ground.guard }], guard := some (3, true) }) (v := undef) rfl (by kernel_rfl) (by kernel_rfl) (by kernel_rfl) (fun _ _ _ h => h) (Or.inr ⟨by rfl, rfl⟩) hS ?rfn4
  refine wpAnyH_take (i := 7) (oi := { dst := some 12, op := Op.fieldAddr 34 (Operand.tmp 3) 0, type := 0, pos := "judge.go:56", after := #[{ on := 3, ground := Ground.guard }], guard := some (3, true) }) (v := undef) rfl (by kernel_rfl) (by kernel_rfl) (by kernel_rfl) (fun _ _ _ h => h) (Or.inr ⟨by rfl, rfl⟩) hS ?rfn7
  refine wpAnyH_take (i := 9) (oi := { dst := some 14, op := Op.fieldAddr 55 (Operand.tmp 2) 0, type := 0, pos := "judge.go:56", after := #[{ on := 3, ground := Ground.guard }], guard := some (3, true) }) (v := undef) rfl (by kernel_rfl) (by kernel_rfl) (by kernel_rfl) (fun _ _ _ h => h) (Or.inr ⟨by rfl, rfl⟩) hS ?rfn9
  go_simp
  refine wpAnyH_take (i := 5) (oi := { dst := some 10, op := Op.load 3 (Operand.tmp 9), type := 3, pos := "judge.go:56", after := #[{ on := 4, ground := Ground.data }, { on := 3, ground := Ground.guard }], guard := some (3, true) }) (v := undef) rfl (by kernel_rfl) (by kernel_rfl) (by kernel_rfl) (fun _ _ _ h => h) (Or.inr ⟨by rfl, rfl⟩) hS ?rfn5
  refine wpAnyH_take (i := 8) (oi := { dst := some 13, op := Op.load 22 (Operand.tmp 12), type := 22, pos := "judge.go:56", after := #[{ on := 7, ground := Ground.data }, { on := 3, ground := Ground.guard }], guard := some (3, true) }) (v := undef) rfl (by kernel_rfl) (by kernel_rfl) (by kernel_rfl) (fun _ _ _ h => h) (Or.inr ⟨by rfl, rfl⟩) hS ?rfn8
  refine wpAnyH_take (i := 10) (oi := { dst := some 15, op := Op.load 3 (Operand.tmp 14), type := 3, pos := "judge.go:56", after := #[{ on := 9, ground := Ground.data }, { on := 3, ground := Ground.guard }], guard := some (3, true) }) (v := undef) rfl (by kernel_rfl) (by kernel_rfl) (by kernel_rfl) (fun _ _ _ h => h) (Or.inr ⟨by rfl, rfl⟩) hS ?rfn10
  go_simp
  refine wpAnyH_take (i := 6) (oi := { dst := some 11, op := Op.call { callee := Callee.value (Operand.func 36), args := #[Operand.const (Value.int IntKind.i64 4), Operand.tmp 10], argTypes := #[3, 3] }, type := 3, pos := "judge.go:56", after := #[{ on := 5, ground := Ground.data }, { on := 3, ground := Ground.chain }, { on := 3, ground := Ground.guard }], guard := some (3, true) }) (v := undef) rfl (by kernel_rfl) (by kernel_rfl) (by kernel_rfl) (fun _ _ _ h => h) (Or.inr ⟨by rfl, rfl⟩) hS ?rfn6
  go_simp
  refine wpAnyH_take (i := 11) (oi := { dst := some 16, op := Op.call { callee := Callee.value (Operand.func 30), args := #[Operand.tmp 13, Operand.tmp 15], argTypes := #[22, 3] }, type := 3, pos := "judge.go:56", after := #[{ on := 8, ground := Ground.data }, { on := 10, ground := Ground.data }, { on := 6, ground := Ground.chain }, { on := 3, ground := Ground.guard }], guard := some (3, true) }) (v := undef) rfl (by kernel_rfl) (by kernel_rfl) (by kernel_rfl) (fun _ _ _ h => h) (Or.inr ⟨by rfl, rfl⟩) hS ?rfn11
  go_simp
  refine wpAnyH_take (i := 12) (oi := { dst := some 17, op := Op.binOp BinOp.eql 3 (Operand.tmp 11) (Operand.tmp 16) 3, type := 4, pos := "judge.go:56", after := #[{ on := 6, ground := Ground.data }, { on := 11, ground := Ground.data }, { on := 3, ground := Ground.guard }], guard := some (3, true) }) (v := undef) rfl (by kernel_rfl) (by kernel_rfl) (by kernel_rfl) (fun _ _ _ h => h) (Or.inr ⟨by rfl, rfl⟩) hS ?rfn12
  go_simp
  refine wpAnyH_take (i := 13) (oi := { dst := some 18, op := Op.pick (Operand.tmp 8) (Operand.tmp 17) (Operand.const (Value.bool false)), type := 4, pos := "judge.go:56", after := #[{ on := 3, ground := Ground.data }, { on := 12, ground := Ground.data }], guard := none }) (v := ?vfn13) rfl (by kernel_rfl) (by kernel_rfl) (by kernel_rfl) (fun _ _ _ h => h) (Or.inl ⟨by rfl, ?yfn13⟩) hS ?rfn13
  case yfn13 => (intro w hS; go_simp; try with_reducible rfl)
  go_simp
  refine wpAnyH_take (i := 14) (oi := { dst := some 4, op := Op.assign (Operand.tmp 18), type := 4, pos := "judge.go:56", after := #[{ on := 13, ground := Ground.data }, { on := 11, ground := Ground.chain }, { on := 0, ground := Ground.phase }, { on := 1, ground := Ground.phase }, { on := 2, ground := Ground.phase }, { on := 3, ground := Ground.phase }, { on := 4, ground := Ground.phase }, { on := 5, ground := Ground.phase }, { on := 6, ground := Ground.phase }, { on := 7, ground := Ground.phase }, { on := 8, ground := Ground.phase }, { on := 9, ground := Ground.phase }, { on := 10, ground := Ground.phase }, { on := 11, ground := Ground.phase }, { on := 12, ground := Ground.phase }, { on := 13, ground := Ground.phase }], guard := none }) (v := ?vfn14) rfl (by kernel_rfl) (by kernel_rfl) (by kernel_rfl) (fun _ _ _ h => h) (Or.inl ⟨by rfl, ?yfn14⟩) hS ?rfn14
  case yfn14 => (intro w hS; go_simp; try with_reducible rfl)
  refine wpAnyH_done (by kernel_rfl) ?_ _
  go_wp2
  go_ret
  exact ⟨rfl, hS.b⟩
theorem isExponent_b (W : World) (Y : Int) (r : Bool) (h : inQ Y = r) : Calls Tryz.prog 33 #[.int .i64 Y] W fun e w' => e = .returned (.bool r) ∧ Below W.heap.size W w' :=
  (isExponent_c W Y r h).mono fun _ _ h => ⟨h.1, by rw [h.2]; exact Below.refl _ _⟩
theorem fits_any (w : World) (X Y pt : Int) (p q : Option Addr) (n c m e : Nat) (C : List Int) (r : Bool) (h : fits Y C X = r) (hV : SL w (.slice p n c) C) (hr : ∀ y ∈ C, i64 y) (hX : i64 X) (hY : i64 Y) (hln : C.length ≤ 1000000000) :
    Calls Tryz.prog 75 #[.agg #[.int .i64 X, .int .i64 Y], .agg #[.slice p n c, .int .i64 pt, .slice q m e]] w fun e w' => e = .returned (.bool r) ∧ Below w.heap.size w w' := by
  subst h
  unfold fits
  cases hq : inQ Y with
  | false => exact fits_no w X Y pt p q n c m e (Lib.hid fun W => isExponent_b W Y false hq)
  | true => exact fits_core w X Y pt (pp 4 Y) (av C X) p q n c m e (Lib.hid fun W => isExponent_b W Y true hq) (Lib.hid fun W => power_c W 4 Y _ rfl (by decide) hY) (Lib.hid fun W b => At_any W _ C X (hV.below b) hr hX hln)
set_option maxRecDepth 100000 in
set_option maxHeartbeats 4000000 in
theorem shared_core (w : World) (x pt a v : Int) (p q : Option Addr) (n c m e : Nat)
    (A1 : Hid (∀ W, Calls Tryz.prog 65 #[.int .i64 x, .int .i64 0, .int .i64 1152921504606845789] W fun e w' => e = .returned (.int .i64 a) ∧ Below W.heap.size W w'))
    (P1 : Hid (∀ W, Calls Tryz.prog 36 #[.int .i64 pt, .int .i64 a] W fun e w' => e = .returned (.int .i64 v) ∧ Below W.heap.size W w')) :
    Calls Tryz.prog 42 #[.int .i64 x, .agg #[.slice p n c, .int .i64 pt, .slice q m e]] w fun e w' => e = .returned (.int .i64 v) ∧ Below w.heap.size w w' := by
  obtain ⟨W, hW⟩ : ∃ W, w.alloc (.cells #[.slice p n c, .int .i64 pt, .slice q m e] 34) = W := ⟨_, rfl⟩
  have K0 : CK w [(⟨w.heap.size, 0, none⟩, .slice p n c), (⟨w.heap.size, 1, none⟩, .int .i64 pt), (⟨w.heap.size, 2, none⟩, .slice q m e)] [] W := by
    have := (CK.start w).cells #[.slice p n c, .int .i64 pt, .slice q m e] 34 _ rfl
    rw [hW] at this
    exact this.sub (by simp) (by simp)
  go_enter Tryz.func42, Tryz.ntmps42
  go_upto_region 1 with fail
  have HK := Lib.hid K0; clear K0 hW
  refine wp_region_held_drew (S := CK w [(⟨w.heap.size, 0, none⟩, .slice p n c), (⟨w.heap.size, 1, none⟩, .int .i64 pt), (⟨w.heap.size, 2, none⟩, .slice q m e)] []) (by kernel_rfl) HK.out.drew (fun hS => ?_)
  clear HK
  refine wpAnyH_take (i := 0) (oi := { dst := some 5, op := Op.fieldAddr 34 (Operand.tmp 3) 1, type := 0, pos := "judge.go:42", after := #[], guard := none }) (v := ?vsh0) rfl (by kernel_rfl) (by kernel_rfl) (by kernel_rfl) (fun _ _ _ h => h) (Or.inl ⟨by rfl, ?ysh0⟩) hS ?rsh0
  case ysh0 => (intro w hS; go_simp; try with_reducible rfl)
  refine wpAnyH_take (i := 2) (oi := { dst := some 7, op := Op.move (Operand.tmp 0), type := 3, pos := "judge.go:42", after := #[], guard := none }) (v := ?vsh2) rfl (by kernel_rfl) (by kernel_rfl) (by kernel_rfl) (fun _ _ _ h => h) (Or.inl ⟨by rfl, ?ysh2⟩) hS ?rsh2
  case ysh2 => (intro w hS; go_simp; try with_reducible rfl)
  go_simp
  refine wpAnyH_take (i := 1) (oi := { dst := some 6, op := Op.load 3 (Operand.tmp 5), type := 3, pos := "judge.go:42", after := #[{ on := 0, ground := Ground.data }], guard := none }) (v := .int .i64 pt) rfl (by kernel_rfl) (by kernel_rfl) (by kernel_rfl) (fun _ _ _ h => h) (Or.inl ⟨by rfl, ?ysh1⟩) hS ?rsh1
  case ysh1 => (intro w' hS; have cf := hS.get ⟨w.heap.size, 1, none⟩ (.int .i64 pt) (by simp); go_simp; try with_reducible rfl)
  go_simp
  refine wpAnyH_ready (rs := [3]) (by kernel_rfl) (by simp) ?_
  refine AllReadyH.cons (o := { dst := some 8, op := Op.call { callee := Callee.value (Operand.func 65), args := #[Operand.tmp 7, Operand.const (Value.int IntKind.i64 0), Operand.const (Value.int IntKind.i64 1152921504606845789)], argTypes := #[3, 3, 3] }, type := 3, pos := "judge.go:42", after := #[{ on := 2, ground := Ground.data }], guard := none }) rfl (fun K hK => ?_) AllReadyH.nil
  go_simp
  go_at_call 65
  refine (A1.out _).mono ?_
  rintro e w' ⟨rfl, b⟩
  have hS2 := hS.next b
  clear b hS
  try go_simp
  refine hK.out _ _ hS2 (fun hS => ?_)
  clear hK K hS2
  refine wpAnyH_ready (rs := [4]) (by kernel_rfl) (by simp) ?_
  refine AllReadyH.cons (o := { dst := some 9, op := Op.call { callee := Callee.value (Operand.func 36), args := #[Operand.tmp 6, Operand.tmp 8], argTypes := #[3, 3] }, type := 3, pos := "judge.go:42", after := #[{ on := 1, ground := Ground.data }, { on := 3, ground := Ground.data }, { on := 3, ground := Ground.chain }], guard := none }) rfl (fun K hK => ?_) AllReadyH.nil
  go_simp
  go_at_call 36
  refine (P1.out _).mono ?_
  rintro e w' ⟨rfl, b⟩
  have hS2 := hS.next b
  clear b hS
  try go_simp
  refine hK.out _ _ hS2 (fun hS => ?_)
  clear hK K hS2
  refine wpAnyH_take (i := 5) (oi := { dst := some 4, op := Op.assign (Operand.tmp 9), type := 3, pos := "judge.go:42", after := #[{ on := 4, ground := Ground.data }, { on := 4, ground := Ground.chain }, { on := 0, ground := Ground.phase }, { on := 1, ground := Ground.phase }, { on := 2, ground := Ground.phase }, { on := 3, ground := Ground.phase }, { on := 4, ground := Ground.phase }], guard := none }) (v := ?vsh5) rfl (by kernel_rfl) (by kernel_rfl) (by kernel_rfl) (fun _ _ _ h => h) (Or.inl ⟨by rfl, ?ysh5⟩) hS ?rsh5
  case ysh5 => (intro w hS; go_simp; try with_reducible rfl)
  refine wpAnyH_done (by kernel_rfl) ?_ _
  go_wp2
  go_ret
  exact ⟨rfl, hS.b⟩
theorem shared_any (w : World) (x pt : Int) (p q : Option Addr) (n c m e : Nat) (v : Int) (h : pp pt (ex x) = v) (hx : i64 x) (hp : i64 pt) :
    Calls Tryz.prog 42 #[.int .i64 x, .agg #[.slice p n c, .int .i64 pt, .slice q m e]] w fun e w' => e = .returned (.int .i64 v) ∧ Below w.heap.size w w' := by
  have hq : i64 (ex x) := ⟨by have := ex_rng x; omega, by have := ex_rng x; omega⟩
  exact shared_core w x pt (ex x) v p q n c m e (Lib.hid fun W => (add_k W x 0 1152921504606845789 (ex x) rfl hx.1 hx.2 (by decide) (by decide) (by decide)).mono fun _ _ h => ⟨h.1, by rw [h.2]; exact Below.refl _ _⟩) (Lib.hid fun W => power_c W pt (ex x) v h hp hq)
theorem infoS (x y : Int) : Hid ((Tryz.prog.info? 55).map (·.size) = some (#[Value.int .i64 x, Value.int .i64 y]).size) := Lib.hid (by show _ = some 2; kernel_rfl)
theorem sh_one (x y : Int) : (#[Value.int .i64 x, Value.int .i64 y]).all (·.oneCell') = true := by simp [Value.oneCell']
theorem two_sz (x y : Int) {cs : Array Value} (h : cs.size = 2) : cs.size = (#[Value.int .i64 x, Value.int .i64 y]).size := h
set_option maxRecDepth 100000 in
set_option maxHeartbeats 4000000 in
theorem take_core (w : World) (N : Int) (k : Nat) (pt y : Int) (p : Option Addr) (b o n c m e : Nat) (s : ByteArray) (pv : Value) (cs : Array Value) (hpv : pv = .agg cs) (ok r : Bool) (hk : k < m) (hm : m ≤ 1000000000)
    (hc : w.cell? ⟨b, o + k, none⟩ = some (.string s))
    (P1 : Hid (∀ W, Below w.heap.size w W → Calls Tryz.prog 37 #[.int .i64 N, .int .i64 (k : Int)] W fun e w' => e = .returned (.agg cs) ∧ Below W.heap.size W w'))
    (O1 : Hid (∀ W, Calls Tryz.prog 74 #[.agg cs, .string s] W fun e w' => e = .returned (.tuple #[.int .i64 y, .bool ok]) ∧ Below W.heap.size W w'))
    (F1 : Hid (∀ W, Below w.heap.size w W → Calls Tryz.prog 75 #[.agg #[.int .i64 ((k : Int) + 1), .int .i64 y], .agg #[.slice p n c, .int .i64 pt, .slice (some ⟨b, o, none⟩) m e]] W fun e w' => e = .returned (.bool r) ∧ Below W.heap.size W w')) :
    Calls Tryz.prog 41 #[.int .i64 N, .agg #[.slice p n c, .int .i64 pt, .slice (some ⟨b, o, none⟩) m e], .int .i64 (k : Int)] w fun e w' => e = .returned (.tuple #[.agg #[.int .i64 (if ok && r then (k : Int) + 1 else 0), .int .i64 (if ok && r then y else 0)], .bool (ok && r)]) ∧ Below w.heap.size w w' := by
  obtain ⟨W, hW⟩ : ∃ W, (w.alloc (.cells #[.slice p n c, .int .i64 pt, .slice (some ⟨b, o, none⟩) m e] 34)).alloc (.cells #[.int .i64 0, .int .i64 0] 55) = W := ⟨_, rfl⟩
  have K0 : CK w [(⟨w.heap.size, 0, none⟩, .slice p n c), (⟨w.heap.size, 1, none⟩, .int .i64 pt), (⟨w.heap.size, 2, none⟩, .slice (some ⟨b, o, none⟩) m e), (⟨b, o + k, none⟩, .string s)] [(w.heap.size + 1, 2, 55)] W := by
    have := ((CK.start w).cells #[.slice p n c, .int .i64 pt, .slice (some ⟨b, o, none⟩) m e] 34 _ rfl).new #[.int .i64 0, .int .i64 0] 55
    rw [hW, World.size_alloc] at this
    exact ⟨this.b, fun p hp => by
      simp only [List.mem_cons, List.not_mem_nil, or_false] at hp
      rcases hp with rfl | rfl | rfl | rfl
      · exact this.c _ (by simp)
      · exact this.c _ (by simp)
      · exact this.c _ (by simp)
      · exact (this.b.cell (p := ⟨b, o + k, none⟩) (World.block_lt_of_cell? _ _ hc)).trans hc, this.z⟩
  go_enter Tryz.func41, Tryz.ntmps41
  go_upto_region 1 with fail
  have HK := Lib.hid K0; clear K0 hW
  refine wp_region_held_drew (S := CK w [(⟨w.heap.size, 0, none⟩, .slice p n c), (⟨w.heap.size, 1, none⟩, .int .i64 pt), (⟨w.heap.size, 2, none⟩, .slice (some ⟨b, o, none⟩) m e), (⟨b, o + k, none⟩, .string s)] [(w.heap.size + 1, 2, 55)]) (by kernel_rfl) HK.out.drew (fun hS => ?_)
  clear HK
  refine wpAnyH_take (i := 0) (oi := { dst := some 12, op := Op.move (Operand.tmp 0), type := 3, pos := "judge.go:47", after := #[], guard := none }) (v := ?vtk0) rfl (by kernel_rfl) (by kernel_rfl) (by kernel_rfl) (fun _ _ _ h => h) (Or.inl ⟨by rfl, ?ytk0⟩) hS ?rtk0
  case ytk0 => (intro w hS; go_simp; try with_reducible rfl)
  refine wpAnyH_take (i := 1) (oi := { dst := some 13, op := Op.move (Operand.tmp 2), type := 3, pos := "judge.go:47", after := #[], guard := none }) (v := ?vtk1) rfl (by kernel_rfl) (by kernel_rfl) (by kernel_rfl) (fun _ _ _ h => h) (Or.inl ⟨by rfl, ?ytk1⟩) hS ?rtk1
  case ytk1 => (intro w hS; go_simp; try with_reducible rfl)
  refine wpAnyH_take (i := 3) (oi := { dst := some 15, op := Op.fieldAddr 34 (Operand.tmp 4) 2, type := 0, pos := "judge.go:47", after := #[], guard := none }) (v := ?vtk3) rfl (by kernel_rfl) (by kernel_rfl) (by kernel_rfl) (fun _ _ _ h => h) (Or.inl ⟨by rfl, ?ytk3⟩) hS ?rtk3
  case ytk3 => (intro w hS; go_simp; try with_reducible rfl)
  refine wpAnyH_take (i := 5) (oi := { dst := some 17, op := Op.move (Operand.tmp 2), type := 3, pos := "judge.go:47", after := #[], guard := none }) (v := ?vtk5) rfl (by kernel_rfl) (by kernel_rfl) (by kernel_rfl) (fun _ _ _ h => h) (Or.inl ⟨by rfl, ?ytk5⟩) hS ?rtk5
  case ytk5 => (intro w hS; go_simp; try with_reducible rfl)
  go_simp
  refine wpAnyH_take (i := 4) (oi := { dst := some 16, op := Op.load 32 (Operand.tmp 15), type := 32, pos := "judge.go:47", after := #[{ on := 3, ground := Ground.data }], guard := none }) (v := .slice (some ⟨b, o, none⟩) m e) rfl (by kernel_rfl) (by kernel_rfl) (by kernel_rfl) (fun _ _ _ h => h) (Or.inl ⟨by rfl, ?ytk4⟩) hS ?rtk4
  case ytk4 => (intro w' hS; have cf := hS.get ⟨w.heap.size, 2, none⟩ (.slice (some ⟨b, o, none⟩) m e) (by simp); go_simp; try with_reducible rfl)
  go_simp
  refine wpAnyH_take (i := 6) (oi := { dst := some 18, op := Op.indexAddr 32 (Operand.tmp 16) (Operand.tmp 17), type := 0, pos := "judge.go:47", after := #[{ on := 4, ground := Ground.data }, { on := 5, ground := Ground.data }], guard := none }) (v := ?vtk6) rfl (by kernel_rfl) (by kernel_rfl) (by kernel_rfl) (fun _ _ _ h => h) (Or.inl ⟨by rfl, ?ytk6⟩) hS ?rtk6
  case ytk6 => (intro w hS; go_simp; try with_reducible rfl)
  go_simp
  refine wpAnyH_take (i := 7) (oi := { dst := some 19, op := Op.load 9 (Operand.tmp 18), type := 9, pos := "judge.go:47", after := #[{ on := 6, ground := Ground.data }], guard := none }) (v := .string s) rfl (by kernel_rfl) (by kernel_rfl) (by kernel_rfl) (fun _ _ _ h => h) (Or.inl ⟨by rfl, ?ytk7⟩) hS ?rtk7
  case ytk7 => (intro w' hS; have cf := hS.get ⟨b, o + k, none⟩ (.string s) (by simp); go_simp; try with_reducible rfl)
  go_simp
  refine wpAnyH_ready (rs := [2]) (by kernel_rfl) (by simp) ?_
  refine AllReadyH.cons (o := { dst := some 14, op := Op.call { callee := Callee.value (Operand.func 37), args := #[Operand.tmp 12, Operand.tmp 13], argTypes := #[3, 3] }, type := 67, pos := "judge.go:47", after := #[{ on := 0, ground := Ground.data }, { on := 1, ground := Ground.data }], guard := none }) rfl (fun K hK => ?_) AllReadyH.nil
  go_simp
  go_at_call 37
  refine (P1.out _ hS.b).mono ?_
  rintro e w' ⟨rfl, b⟩
  have hS2 := hS.next b
  clear b hS
  try go_simp
  refine hK.out _ _ hS2 (fun hS => ?_)
  clear hK K hS2
  refine wpAnyH_ready (rs := [8]) (by kernel_rfl) (by simp) ?_
  refine AllReadyH.cons (o := { dst := some 20, op := Op.call { callee := Callee.value (Operand.func 74), args := #[Operand.tmp 14, Operand.tmp 19], argTypes := #[67, 9] }, type := 102, pos := "judge.go:47", after := #[{ on := 2, ground := Ground.data }, { on := 7, ground := Ground.data }, { on := 2, ground := Ground.chain }], guard := none }) rfl (fun K hK => ?_) AllReadyH.nil
  go_simp
  go_at_call 74
  refine (O1.out _).mono ?_
  rintro e w' ⟨rfl, b⟩
  have hS2 := hS.next b
  clear b hS
  try go_simp
  refine hK.out _ _ hS2 (fun hS => ?_)
  clear hK K hS2
  refine wpAnyH_take (i := 9) (oi := { dst := some 11, op := Op.move (Operand.tmp 20), type := 102, pos := "judge.go:47", after := #[{ on := 8, ground := Ground.data }], guard := none }) (v := ?vtk9) rfl (by kernel_rfl) (by kernel_rfl) (by kernel_rfl) (fun _ _ _ h => h) (Or.inl ⟨by rfl, ?ytk9⟩) hS ?rtk9
  case ytk9 => (intro w hS; go_simp; try with_reducible rfl)
  go_simp
  refine wpAnyH_take (i := 10) (oi := { dst := some 21, op := Op.extract (Operand.tmp 11) 0, type := 3, pos := "judge.go:47", after := #[{ on := 9, ground := Ground.data }], guard := none }) (v := ?vtk10) rfl (by kernel_rfl) (by kernel_rfl) (by kernel_rfl) (fun _ _ _ h => h) (Or.inl ⟨by rfl, ?ytk10⟩) hS ?rtk10
  case ytk10 => (intro w hS; go_simp; try with_reducible rfl)
  refine wpAnyH_take (i := 11) (oi := { dst := some 22, op := Op.extract (Operand.tmp 11) 1, type := 4, pos := "judge.go:47", after := #[{ on := 9, ground := Ground.data }, { on := 12, ground := Ground.gcOnly Departure.lateStores }], guard := none }) (v := ?vtk11) rfl (by kernel_rfl) (by kernel_rfl) (by kernel_rfl) (fun _ _ _ h => h) (Or.inl ⟨by rfl, ?ytk11⟩) hS ?rtk11
  case ytk11 => (intro w hS; go_simp; try with_reducible rfl)
  go_simp
  refine wpAnyH_take (i := 12) (oi := { dst := some 8, op := Op.assign (Operand.tmp 21), type := 3, pos := "judge.go:47", after := #[{ on := 10, ground := Ground.data }, { on := 8, ground := Ground.chain }, { on := 0, ground := Ground.phase }, { on := 1, ground := Ground.phase }, { on := 2, ground := Ground.phase }, { on := 3, ground := Ground.phase }, { on := 4, ground := Ground.phase }, { on := 5, ground := Ground.phase }, { on := 6, ground := Ground.phase }, { on := 7, ground := Ground.phase }, { on := 8, ground := Ground.phase }, { on := 9, ground := Ground.phase }, { on := 10, ground := Ground.phase }, { on := 11, ground := Ground.textOnly Departure.lateStores }], guard := none }) (v := ?vtk12) rfl (by kernel_rfl) (by kernel_rfl) (by kernel_rfl) (fun _ _ _ h => h) (Or.inl ⟨by rfl, ?ytk12⟩) hS ?rtk12
  case ytk12 => (intro w hS; go_simp; try with_reducible rfl)
  go_simp
  refine wpAnyH_take (i := 13) (oi := { dst := some 9, op := Op.assign (Operand.tmp 22), type := 4, pos := "judge.go:47", after := #[{ on := 11, ground := Ground.data }, { on := 12, ground := Ground.chain }, { on := 0, ground := Ground.phase }, { on := 1, ground := Ground.phase }, { on := 2, ground := Ground.phase }, { on := 3, ground := Ground.phase }, { on := 4, ground := Ground.phase }, { on := 5, ground := Ground.phase }, { on := 6, ground := Ground.phase }, { on := 7, ground := Ground.phase }, { on := 8, ground := Ground.phase }, { on := 9, ground := Ground.phase }, { on := 10, ground := Ground.phase }, { on := 11, ground := Ground.phase }, { on := 12, ground := Ground.phase }], guard := none }) (v := ?vtk13) rfl (by kernel_rfl) (by kernel_rfl) (by kernel_rfl) (fun _ _ _ h => h) (Or.inl ⟨by rfl, ?ytk13⟩) hS ?rtk13
  case ytk13 => (intro w hS; go_simp; try with_reducible rfl)
  refine wpAnyH_done (by kernel_rfl) ?_ _
  have HS := Lib.hid hS; clear hS
  obtain ⟨rs, hrs, hrow⟩ := HS.out.row (w.heap.size + 1) 2 55 (by simp)
  have hb := HS.out.b
  have hK2 := HS.out.next ((Below.refl _ w').alloc (Nat.le_refl _) (.cells #[.int .i64 ((k : Int) + 1), .int .i64 y] 55))
  have hrow2 := (heap_alloc_old _ (.cells #[.int .i64 ((k : Int) + 1), .int .i64 y] 55) (Array.getElem?_eq_some_iff.1 hrow).1).trans hrow
  have s0 : (w'.alloc (.cells #[.int .i64 ((k : Int) + 1), .int .i64 y] 55)).heap[w'.heap.size]? = some (.cells #[.int .i64 ((k : Int) + 1), .int .i64 y] 55 (0, 0)) := heap_alloc_new _ _
  have h0 := infoS 0 0
  have h1 := infoS ((k : Int) + 1) y
  have HX := Lib.hid (And.intro hK2 (And.intro s0 (And.intro hrs (And.intro hrow2 (And.intro h0.out h1.out))))); clear hK2 s0 hrs hrow2 h0 h1 hrow hb
  try dsimp only [Act.put]
  cases ok with
  | false =>
    go_upto_region 4 with fail
    have q2 := HX.out.2.2.2.1
    generalize w'.alloc (.cells #[.int .i64 ((k : Int) + 1), .int .i64 y] 55) = W5 at *
    go_wp2_with (refine wpList_store_row rfl 55 (.tmp 6) (.tmp 35) rfl (w.heap.size + 1) #[.int .i64 0, .int .i64 0] rfl rfl 55 rs q2 HX.out.2.2.2.2.1 (two_sz _ _ HX.out.2.2.1) (sh_one _ _) ?_)
    refine bodyPost_ret (results_row_tmp rfl _ _ (w.heap.size + 1) _ #[.int .i64 0, .int .i64 0] _ _ rfl (setRow_heap _ _ _ _ _ _ q2) Tryz.underlying55 rfl HX.out.2.2.2.2.1) rfl ?_
    exact ⟨rfl, Below.setRow' HX.out.1.b (by omega) _⟩
  | true =>
    go_upto_region 3 with fail
    generalize w'.alloc (.cells #[.int .i64 ((k : Int) + 1), .int .i64 y] 55) = W5 at *
    have dc0 := HX.out.1.get ⟨w.heap.size, 0, none⟩ (.slice p n c) (by simp)
    have dc1 := HX.out.1.get ⟨w.heap.size, 1, none⟩ (.int .i64 pt) (by simp)
    have dc2 := HX.out.1.get ⟨w.heap.size, 2, none⟩ (.slice (some ⟨b, o, none⟩) m e) (by simp)
    have e0 : W5.cell? ⟨w'.heap.size, 0, none⟩ = some (.int .i64 ((k : Int) + 1)) := cell_of_row _ _ 0 _ _ _ HX.out.2.1
    have e1 : W5.cell? ⟨w'.heap.size, 1, none⟩ = some (.int .i64 y) := cell_of_row _ _ 1 _ _ _ HX.out.2.1
    go_wp2_with fail
    refine (F1.out _ HX.out.1.b).mono ?_
    rintro e w6 ⟨rfl, b6⟩
    have hS6 := Lib.hid (And.intro (HX.out.1.next b6) (And.intro ((b6.block _ (Array.getElem?_eq_some_iff.1 HX.out.2.1).1).trans HX.out.2.1) ((b6.block _ (Array.getElem?_eq_some_iff.1 HX.out.2.2.2.1).1).trans HX.out.2.2.2.1)))
    clear b6 dc0 dc1 dc2 e0 e1
    have q2 := hS6.out.2.2
    have q1 := hS6.out.2.1
    cases r with
    | false =>
      go_wp2_with (refine wpList_store_row rfl 55 (.tmp 6) (.tmp 35) rfl (w.heap.size + 1) #[.int .i64 0, .int .i64 0] rfl rfl 55 rs q2 HX.out.2.2.2.2.1 (two_sz _ _ HX.out.2.2.1) (sh_one _ _) ?_)
      refine bodyPost_ret (results_row_tmp rfl _ _ (w.heap.size + 1) _ #[.int .i64 0, .int .i64 0] _ _ rfl (setRow_heap _ _ _ _ _ _ q2) Tryz.underlying55 rfl HX.out.2.2.2.2.1) rfl ?_
      exact ⟨rfl, Below.setRow' hS6.out.1.b (by omega) _⟩
    | true =>
      go_wp2_with (first | (refine wpList_load_row rfl 55 (.tmp 10) rfl w'.heap.size rfl 55 #[.int .i64 ((k : Int) + 1), .int .i64 y] (0, 0) _ q1 Tryz.underlying55 rfl HX.out.2.2.2.2.2 ?_) | (refine wpList_store_row rfl 55 (.tmp 6) (.tmp 36) rfl (w.heap.size + 1) #[.int .i64 ((k : Int) + 1), .int .i64 y] rfl rfl 55 rs q2 HX.out.2.2.2.2.2 (two_sz _ _ HX.out.2.2.1) (sh_one _ _) ?_))
      refine bodyPost_ret (results_row_tmp rfl _ _ (w.heap.size + 1) _ #[.int .i64 ((k : Int) + 1), .int .i64 y] _ _ rfl (setRow_heap _ _ _ _ _ _ q2) Tryz.underlying55 rfl HX.out.2.2.2.2.2) rfl ?_
      exact ⟨rfl, Below.setRow' hS6.out.1.b (by omega) _⟩
end Go.Proofs.YtjfbpmpdcmealaaGreatDoor.D7
