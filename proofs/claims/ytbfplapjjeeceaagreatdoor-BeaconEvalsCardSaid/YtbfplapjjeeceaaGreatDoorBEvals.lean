/-
  The walk of the law BeaconEvals.
-/
import Derived.Test.YtbfplapjjeeceaaGreatDoorBSanW
namespace Go.Proofs.YtbfplapjjeeceaaGreatDoor.B9
open Go.RowKit GM SH G4 E6 D7P
open W8 hiding i64 jn pX pY
theorem CK.write {w u : World} {L : List (Addr × Value)} (h : CK w L [] u) (g : Nat) (cs : Array Value) (hg : w.heap.size ≤ g) (hL : ∀ p ∈ L, p.1.block ≠ g) : CK w L [] (u.setRow g cs) :=
  ⟨Below.setRow' h.b hg _, fun p hp => by
    rw [World.cell?_of_block (setRow_other u g p.1.block cs (hL p hp))]; exact h.c p hp, fun p hp => by cases hp⟩
theorem infoS9 (x y : Int) : Hid ((Tryz.prog.info? 23).map (·.size) = some (#[Value.int .i64 x, Value.int .i64 y]).size) := Lib.hid (by show _ = some 2; kernel_rfl)
theorem sh_one9 (x y : Int) : (#[Value.int .i64 x, Value.int .i64 y]).all (·.oneCell') = true := by simp [Value.oneCell']
theorem two_sz9 (x y : Int) {cs : Array Value} (h : cs.size = 2) : cs.size = (#[Value.int .i64 x, Value.int .i64 y]).size := h
theorem and31 (n : Int) : bits .and .i64 n 31 = n % 32 := by
  have h127 : (BitVec.ofInt 64 31).toNat = 2 ^ 5 - 1 := by decide
  have key : (BitVec.ofInt 64 n &&& BitVec.ofInt 64 31).toNat = (n % ((2 ^ 64 : Nat) : Int)).toNat % 2 ^ 5 := by
    rw [BitVec.toNat_and, BitVec.toNat_ofInt, h127, Nat.and_two_pow_sub_one_eq_mod]
  show IntKind.i64.wrap ((BitVec.ofInt 64 n &&& BitVec.ofInt 64 31).toNat : Nat) = n % 32
  rw [key, IntKind.wrap_i64]
  omega
set_option maxRecDepth 100000 in
set_option maxHeartbeats 8000000 in
theorem evals_core (w : World) (x y r a b X Y bb u0 u1 u2 u3 v0 v1 v2 v3 m : Int) (hX : 1 + m = X) (hm : bits .and .i64 a 31 = m) (hm0 : 0 ≤ m) (hm1 : m < 32)
    (SA : Hid (∀ W, Below w.heap.size w W → Calls Tryz.prog 10 #[] W fun e w' => e = .returned (.bool true) ∧ Below W.heap.size W w'))
    (EX : Hid (∀ W, Calls Tryz.prog 11 #[.int .i64 b] W fun e w' => e = .returned (.int .i64 Y) ∧ Below W.heap.size W w'))
    (B1 : Hid (∀ W, Below w.heap.size w W → Calls Tryz.prog 12 #[.int .i64 r] W fun e w' => e = .returned (.int .i64 bb) ∧ Below W.heap.size W w'))
    (B2 : Hid (∀ W, Below w.heap.size w W → Calls Tryz.prog 13 #[.int .i64 r] W fun e w' => e = .returned (.int .i64 bb) ∧ Below W.heap.size W w'))
    (E1 : Hid (∀ W, Below w.heap.size w W → Calls Tryz.prog 14 #[.agg #[.int .i64 x, .int .i64 y], .int .i64 r] W fun e w' => e = .returned (.agg #[.int .i64 u0, .int .i64 u1, .int .i64 u2, .int .i64 u3]) ∧ Below W.heap.size W w'))
    (E2 : Hid (∀ W, Below w.heap.size w W → Calls Tryz.prog 15 #[.agg #[.int .i64 x, .int .i64 y], .int .i64 r] W fun e w' => e = .returned (.agg #[.int .i64 u0, .int .i64 u1, .int .i64 u2, .int .i64 u3]) ∧ Below W.heap.size W w'))
    (E3 : Hid (∀ W, Below w.heap.size w W → Calls Tryz.prog 14 #[.agg #[.int .i64 X, .int .i64 Y], .int .i64 r] W fun e w' => e = .returned (.agg #[.int .i64 v0, .int .i64 v1, .int .i64 v2, .int .i64 v3]) ∧ Below W.heap.size W w'))
    (E4 : Hid (∀ W, Below w.heap.size w W → Calls Tryz.prog 15 #[.agg #[.int .i64 X, .int .i64 Y], .int .i64 r] W fun e w' => e = .returned (.agg #[.int .i64 v0, .int .i64 v1, .int .i64 v2, .int .i64 v3]) ∧ Below W.heap.size W w')) :
    Calls Tryz.prog 3 #[.agg #[.int .i64 x, .int .i64 y], .int .i64 r, .agg #[.int .i64 a, .int .i64 b]] w fun e w' => e = .returned (.bool true) ∧ Below w.heap.size w w' := by
  obtain ⟨W, hW⟩ : ∃ W, (w.alloc (.cells #[.int .i64 x, .int .i64 y] 23)).alloc (.cells #[.int .i64 a, .int .i64 b] 24) = W := ⟨_, rfl⟩
  have K0 : CK w [(⟨w.heap.size, 0, none⟩, .int .i64 x), (⟨w.heap.size, 1, none⟩, .int .i64 y), (⟨w.heap.size + 1, 0, none⟩, .int .i64 a), (⟨w.heap.size + 1, 1, none⟩, .int .i64 b)] [] W := by
    have := ((CK.start w).cells #[.int .i64 x, .int .i64 y] 23 _ rfl).cells #[.int .i64 a, .int .i64 b] 24 _ rfl
    rw [hW, World.size_alloc] at this
    exact this.sub (by simp) (by simp)
  have hX1 : (1 : Int) + m ≤ 9223372036854775807 := by omega
  have hX2 : (-9223372036854775808 : Int) ≤ 1 + m := by omega
  have hX3 : IntKind.i64.wrap X = X := by rw [IntKind.wrap_i64]; omega
  go_enter Tryz.func3, Tryz.ntmps3
  go_upto_region 1 with fail
  clear hW
  have HK := Lib.hid K0; clear K0
  go_wp2_with fail
  refine (SA.out _ HK.out.b).mono ?_
  rintro e w1 ⟨rfl, b1⟩
  replace HK := Lib.hid (HK.out.next b1); clear b1
  go_upto_region 2 with fail
  refine wp_region_held_drew (S := CK w [(⟨w.heap.size, 0, none⟩, .int .i64 x), (⟨w.heap.size, 1, none⟩, .int .i64 y), (⟨w.heap.size + 1, 0, none⟩, .int .i64 a), (⟨w.heap.size + 1, 1, none⟩, .int .i64 b)] []) (by kernel_rfl) HK.out.drew (fun hS => ?_)
  clear HK
  generalize World.drew w1 = a0 at hS ⊢
  refine wpAnyH_take (i := 0) (oi := { dst := some 10, op := Op.indexAddr 24 (Operand.tmp 5) (Operand.const (Value.int IntKind.i64 0)), type := 0, pos := "law.go:28", after := #[], guard := none }) (v := ?vea0) rfl (by kernel_rfl) (by kernel_rfl) (by kernel_rfl) (fun _ _ _ h => h) (Or.inl ⟨by rfl, ?yea0⟩) hS ?rea0
  case yea0 => (intro w hS; go_simp; try with_reducible rfl)
  refine wpAnyH_take (i := 1) (oi := { dst := some 11, op := Op.load 3 (Operand.tmp 10), type := 3, pos := "law.go:28", after := #[{ on := 0, ground := Ground.data }], guard := none }) (v := .int .i64 a) rfl (by kernel_rfl) (by kernel_rfl) (by kernel_rfl) (fun _ _ _ h => h) (Or.inl ⟨by rfl, ?yea1⟩) hS ?rea1
  case yea1 => (intro w' hS; have cf := hS.get ⟨w.heap.size + 1, 0, none⟩ (.int .i64 a) (by simp); go_simp; try with_reducible rfl)
  refine wpAnyH_take (i := 2) (oi := { dst := some 12, op := Op.binOp BinOp.and 3 (Operand.tmp 11) (Operand.const (Value.int IntKind.i64 31)) 3, type := 3, pos := "law.go:28", after := #[{ on := 1, ground := Ground.data }], guard := none }) (v := ?vea2) rfl (by kernel_rfl) (by kernel_rfl) (by kernel_rfl) (fun _ _ _ h => h) (Or.inl ⟨by rfl, ?yea2⟩) hS ?rea2
  case yea2 => (intro w hS; go_simp; try with_reducible rfl)
  refine wpAnyH_take (i := 3) (oi := { dst := some 13, op := Op.binOp BinOp.add 3 (Operand.const (Value.int IntKind.i64 1)) (Operand.tmp 12) 3, type := 3, pos := "law.go:28", after := #[{ on := 2, ground := Ground.data }], guard := none }) (v := ?vea3) rfl (by kernel_rfl) (by kernel_rfl) (by kernel_rfl) (fun _ _ _ h => h) (Or.inl ⟨by rfl, ?yea3⟩) hS ?rea3
  case yea3 => (intro w hS; go_simp; try with_reducible rfl)
  refine wpAnyH_take (i := 4) (oi := { dst := some 14, op := Op.indexAddr 24 (Operand.tmp 5) (Operand.const (Value.int IntKind.i64 1)), type := 0, pos := "law.go:28", after := #[], guard := none }) (v := ?vea4) rfl (by kernel_rfl) (by kernel_rfl) (by kernel_rfl) (fun _ _ _ h => h) (Or.inl ⟨by rfl, ?yea4⟩) hS ?rea4
  case yea4 => (intro w hS; go_simp; try with_reducible rfl)
  refine wpAnyH_take (i := 5) (oi := { dst := some 15, op := Op.load 3 (Operand.tmp 14), type := 3, pos := "law.go:28", after := #[{ on := 4, ground := Ground.data }], guard := none }) (v := .int .i64 b) rfl (by kernel_rfl) (by kernel_rfl) (by kernel_rfl) (fun _ _ _ h => h) (Or.inl ⟨by rfl, ?yea5⟩) hS ?rea5
  case yea5 => (intro w' hS; have cf := hS.get ⟨w.heap.size + 1, 1, none⟩ (.int .i64 b) (by simp); go_simp; try with_reducible rfl)
  go_simp
  refine wpAnyH_ready (rs := [6, 8]) (by kernel_rfl) (by simp) ?_
  refine (AllReadyH.cons (o := { dst := some 16, op := Op.call { callee := Callee.value (Operand.func 11), args := #[Operand.tmp 15], argTypes := #[3] }, type := 3, pos := "law.go:28", after := #[{ on := 5, ground := Ground.data }], guard := none }) rfl (fun K hK => ?_) (AllReadyH.cons (o := { dst := some 8, op := Op.alloc 23, type := 0, pos := "law.go:28", after := #[], guard := none }) rfl (fun K hK => ?_) AllReadyH.nil))
  · go_simp
    go_at_call 11
    refine (EX.out _).mono ?_
    rintro e w' ⟨rfl, b⟩
    have hS2 := hS.next b
    clear b hS
    try go_simp
    refine hK.out _ _ hS2 (fun hS => ?_)
    clear hK K hS2
    refine wpAnyH_take (i := 7) (oi := { dst := some 17, op := Op.build 23 #[(0, Operand.tmp 13), (1, Operand.tmp 16)], type := 23, pos := "law.go:28", after := #[{ on := 3, ground := Ground.data }, { on := 6, ground := Ground.data }], guard := none }) (v := ?veb7) rfl (by kernel_rfl) (by kernel_rfl) (by kernel_rfl) (fun _ _ _ h => h) (Or.inl ⟨by rfl, ?yeb7⟩) hS ?reb7
    case yeb7 => (intro w hS; go_simp; try with_reducible rfl)
    go_simp
    refine wpAnyH_ready (rs := [8]) (by kernel_rfl) (by simp) ?_
    refine (AllReadyH.cons (o := { dst := some 8, op := Op.alloc 23, type := 0, pos := "law.go:28", after := #[], guard := none }) rfl (fun K hK => ?_) AllReadyH.nil)
    go_simp
    have n8 := heap_alloc_new w' (.cells #[.int .i64 0, .int .i64 0] 23)
    have l8 := hS.b.size
    have k8 := World.block_lt_of_cell? _ _ (hS.get ⟨w.heap.size + 1, 0, none⟩ (.int .i64 a) (by simp))
    have hS2 := hS.next ((Below.refl _ w').alloc (Nat.le_refl _) (.cells #[.int .i64 0, .int .i64 0] 23))
    clear hS
    refine hK.out _ _ hS2 (fun hS => ?_)
    clear hK K hS2
    obtain ⟨g8, hg8⟩ : ∃ g, w'.heap.size = g := ⟨_, rfl⟩
    rw [hg8] at n8 l8 k8 ⊢
    clear hg8
    obtain ⟨v8, hV9⟩ : ∃ V, World.alloc w' (.cells #[.int .i64 0, .int .i64 0] 23) = V := ⟨_, rfl⟩
    rw [hV9] at hS n8 ⊢
    clear hV9
    refine wpAnyH_ready (rs := [9]) (by kernel_rfl) (by simp) ?_
    refine AllReadyH.cons (o := { dst := none, op := Op.store 23 (Operand.tmp 8) (Operand.tmp 17), type := 0, pos := "law.go:28", after := #[{ on := 8, ground := Ground.data }, { on := 7, ground := Ground.data }, { on := 6, ground := Ground.chain }, { on := 0, ground := Ground.phase }, { on := 1, ground := Ground.phase }, { on := 2, ground := Ground.phase }, { on := 3, ground := Ground.phase }, { on := 4, ground := Ground.phase }, { on := 5, ground := Ground.phase }, { on := 6, ground := Ground.phase }, { on := 7, ground := Ground.phase }, { on := 8, ground := Ground.phase }], guard := none }) rfl (fun K hK => ?_) AllReadyH.nil
    rw [if_pos (by rfl)]
    refine wp_store_row 23 (.tmp 8) (.tmp 17) rfl g8 #[.int .i64 X, .int .i64 Y] (by first | rfl | (simp [Act.eval])) (by first | rfl | (simp [Act.eval])) 23 _ n8 (infoS9 X Y).out (two_sz9 _ _ rfl) (sh_one9 X Y) ?_
    have n9 := setRow_heap _ _ _ #[.int .i64 X, .int .i64 Y] _ _ n8
    have hS2 := CK.write hS g8 #[.int .i64 X, .int .i64 Y] l8 (by intro x hx; simp only [List.mem_cons, List.not_mem_nil, or_false] at hx; have k9 : w.heap.size + 1 < g8 := k8; rcases hx with rfl | rfl | rfl | rfl <;> (intro e; dsimp only at e; omega))
    clear hS n8
    refine hK.out _ _ hS2 (fun hS => ?_)
    clear hK K hS2
    refine wpAnyH_done (by kernel_rfl) ?_ _
    have HK2 : Hid (CK w [(⟨g8, 0, none⟩, .int .i64 X), (⟨g8, 1, none⟩, .int .i64 Y), (⟨w.heap.size, 0, none⟩, .int .i64 x), (⟨w.heap.size, 1, none⟩, .int .i64 y)] [] _) := Lib.hid ⟨hS.b, fun q hq => by
      simp only [List.mem_cons, List.not_mem_nil, or_false] at hq
      rcases hq with rfl | rfl | rfl | rfl
      · exact cell_of_row _ g8 0 _ _ _ n9
      · exact cell_of_row _ g8 1 _ _ _ n9
      · exact hS.get ⟨w.heap.size, 0, none⟩ (.int .i64 x) (by simp)
      · exact hS.get ⟨w.heap.size, 1, none⟩ (.int .i64 y) (by simp), fun q hq => by cases hq⟩
    clear hS n9
    go_upto_region 3 with fail
    refine wp_region_held_drew (S := CK w [(⟨g8, 0, none⟩, .int .i64 X), (⟨g8, 1, none⟩, .int .i64 Y), (⟨w.heap.size, 0, none⟩, .int .i64 x), (⟨w.heap.size, 1, none⟩, .int .i64 y)] []) (by kernel_rfl) HK2.out.drew (fun hS => ?_)
    clear HK2
    refine wpAnyH_take (i := 0) (oi := { dst := some 18, op := Op.move (Operand.tmp 7), type := 4, pos := "law.go:29", after := #[], guard := none }) (v := ?vef0) rfl (by kernel_rfl) (by kernel_rfl) (by kernel_rfl) (fun _ _ _ h => h) (Or.inl ⟨by rfl, ?yef0⟩) hS ?ref0
    case yef0 => (intro w hS; go_simp; try with_reducible rfl)
    go_simp
    refine wpAnyH_take (i := 1) (oi := { dst := some 19, op := Op.move (Operand.tmp 18), type := 4, pos := "law.go:29", after := #[{ on := 0, ground := Ground.data }], guard := none }) (v := ?vef1) rfl (by kernel_rfl) (by kernel_rfl) (by kernel_rfl) (fun _ _ _ h => h) (Or.inl ⟨by rfl, ?yef1⟩) hS ?ref1
    case yef1 => (intro w hS; go_simp; try with_reducible rfl)
    go_simp
    refine wpAnyH_take (i := 2) (oi := { dst := some 20, op := Op.move (Operand.tmp 1), type := 3, pos := "law.go:29", after := #[{ on := 1, ground := Ground.guard }], guard := some (1, true) }) (v := ?vef2) rfl (by kernel_rfl) (by kernel_rfl) (by kernel_rfl) (fun _ _ _ h => h) (Or.inl ⟨by rfl, ?yef2⟩) hS ?ref2
    case yef2 => (intro w hS; go_simp; try with_reducible rfl)
    refine wpAnyH_take (i := 4) (oi := { dst := some 22, op := Op.move (Operand.tmp 1), type := 3, pos := "law.go:29", after := #[{ on := 1, ground := Ground.guard }], guard := some (1, true) }) (v := ?vef4) rfl (by kernel_rfl) (by kernel_rfl) (by kernel_rfl) (fun _ _ _ h => h) (Or.inl ⟨by rfl, ?yef4⟩) hS ?ref4
    case yef4 => (intro w hS; go_simp; try with_reducible rfl)
    go_simp
    refine wpAnyH_ready (rs := [3]) (by kernel_rfl) (by simp) ?_
    refine AllReadyH.cons (o := { dst := some 21, op := Op.call { callee := Callee.value (Operand.func 12), args := #[Operand.tmp 20], argTypes := #[3] }, type := 3, pos := "law.go:29", after := #[{ on := 2, ground := Ground.data }, { on := 1, ground := Ground.chain }, { on := 1, ground := Ground.guard }], guard := some (1, true) }) rfl (fun K hK => ?_) AllReadyH.nil
    go_simp
    go_at_call 12
    refine (B1.out _ hS.b).mono ?_
    rintro e w' ⟨rfl, b⟩
    have hS2 := hS.next b
    clear b hS
    try go_simp
    refine hK.out _ _ hS2 (fun hS => ?_)
    clear hK K hS2
    refine wpAnyH_ready (rs := [5]) (by kernel_rfl) (by simp) ?_
    refine AllReadyH.cons (o := { dst := some 23, op := Op.call { callee := Callee.value (Operand.func 13), args := #[Operand.tmp 22], argTypes := #[3] }, type := 3, pos := "law.go:29", after := #[{ on := 4, ground := Ground.data }, { on := 3, ground := Ground.chain }, { on := 1, ground := Ground.guard }], guard := some (1, true) }) rfl (fun K hK => ?_) AllReadyH.nil
    go_simp
    go_at_call 13
    refine (B2.out _ hS.b).mono ?_
    rintro e w' ⟨rfl, b⟩
    have hS2 := hS.next b
    clear b hS
    try go_simp
    refine hK.out _ _ hS2 (fun hS => ?_)
    clear hK K hS2
    refine wpAnyH_take (i := 6) (oi := { dst := some 24, op := Op.binOp BinOp.eql 3 (Operand.tmp 21) (Operand.tmp 23) 3, type := 4, pos := "law.go:29", after := #[{ on := 3, ground := Ground.data }, { on := 5, ground := Ground.data }, { on := 1, ground := Ground.guard }], guard := some (1, true) }) (v := .bool true) rfl (by kernel_rfl) (by kernel_rfl) (by kernel_rfl) (fun _ _ _ h => h) (Or.inl ⟨by rfl, ?yef6⟩) hS ?ref6
    case yef6 => (intro w hS; go_simp; try with_reducible rfl)
    go_simp
    refine wpAnyH_take (i := 7) (oi := { dst := some 25, op := Op.pick (Operand.tmp 19) (Operand.tmp 24) (Operand.const (Value.bool false)), type := 4, pos := "law.go:29", after := #[{ on := 1, ground := Ground.data }, { on := 6, ground := Ground.data }], guard := none }) (v := ?vef7) rfl (by kernel_rfl) (by kernel_rfl) (by kernel_rfl) (fun _ _ _ h => h) (Or.inl ⟨by rfl, ?yef7⟩) hS ?ref7
    case yef7 => (intro w hS; go_simp; try with_reducible rfl)
    go_simp
    refine wpAnyH_take (i := 8) (oi := { dst := some 26, op := Op.move (Operand.tmp 25), type := 4, pos := "law.go:29", after := #[{ on := 7, ground := Ground.data }, { on := 5, ground := Ground.chain }], guard := none }) (v := ?vef8) rfl (by kernel_rfl) (by kernel_rfl) (by kernel_rfl) (fun _ _ _ h => h) (Or.inl ⟨by rfl, ?yef8⟩) hS ?ref8
    case yef8 => (intro w hS; go_simp; try with_reducible rfl)
    go_simp
    refine wpAnyH_take (i := 9) (oi := { dst := some 27, op := Op.load 23 (Operand.tmp 3), type := 23, pos := "law.go:29", after := #[{ on := 8, ground := Ground.guard }], guard := some (8, true) }) (v := .agg #[.int .i64 x, .int .i64 y]) rfl (by kernel_rfl) (by kernel_rfl) (by kernel_rfl) (fun _ _ _ h => h) (Or.inl ⟨by rfl, ?yef9⟩) hS ?ref9
    case yef9 => (intro w' hS; have cf := hS.get ⟨w.heap.size, 0, none⟩ (.int .i64 x) (by simp); have cg1 := hS.get ⟨w.heap.size, 1, none⟩ (.int .i64 y) (by simp); go_simp; try with_reducible rfl)
    refine wpAnyH_take (i := 10) (oi := { dst := some 28, op := Op.move (Operand.tmp 1), type := 3, pos := "law.go:29", after := #[{ on := 8, ground := Ground.guard }], guard := some (8, true) }) (v := ?vef10) rfl (by kernel_rfl) (by kernel_rfl) (by kernel_rfl) (fun _ _ _ h => h) (Or.inl ⟨by rfl, ?yef10⟩) hS ?ref10
    case yef10 => (intro w hS; go_simp; try with_reducible rfl)
    refine wpAnyH_take (i := 12) (oi := { dst := some 30, op := Op.load 23 (Operand.tmp 3), type := 23, pos := "law.go:29", after := #[{ on := 8, ground := Ground.guard }], guard := some (8, true) }) (v := .agg #[.int .i64 x, .int .i64 y]) rfl (by kernel_rfl) (by kernel_rfl) (by kernel_rfl) (fun _ _ _ h => h) (Or.inl ⟨by rfl, ?yef12⟩) hS ?ref12
    case yef12 => (intro w' hS; have cf := hS.get ⟨w.heap.size, 0, none⟩ (.int .i64 x) (by simp); have cg1 := hS.get ⟨w.heap.size, 1, none⟩ (.int .i64 y) (by simp); go_simp; try with_reducible rfl)
    refine wpAnyH_take (i := 13) (oi := { dst := some 31, op := Op.move (Operand.tmp 1), type := 3, pos := "law.go:29", after := #[{ on := 8, ground := Ground.guard }], guard := some (8, true) }) (v := ?vef13) rfl (by kernel_rfl) (by kernel_rfl) (by kernel_rfl) (fun _ _ _ h => h) (Or.inl ⟨by rfl, ?yef13⟩) hS ?ref13
    case yef13 => (intro w hS; go_simp; try with_reducible rfl)
    go_simp
    refine wpAnyH_ready (rs := [11]) (by kernel_rfl) (by simp) ?_
    refine AllReadyH.cons (o := { dst := some 29, op := Op.call { callee := Callee.value (Operand.func 14), args := #[Operand.tmp 27, Operand.tmp 28], argTypes := #[23, 3] }, type := 30, pos := "law.go:29", after := #[{ on := 9, ground := Ground.data }, { on := 10, ground := Ground.data }, { on := 8, ground := Ground.chain }, { on := 8, ground := Ground.guard }], guard := some (8, true) }) rfl (fun K hK => ?_) AllReadyH.nil
    go_simp
    go_at_call 14
    refine (E1.out _ hS.b).mono ?_
    rintro e w' ⟨rfl, b⟩
    have hS2 := hS.next b
    clear b hS
    try go_simp
    refine hK.out _ _ hS2 (fun hS => ?_)
    clear hK K hS2
    refine wpAnyH_ready (rs := [14]) (by kernel_rfl) (by simp) ?_
    refine AllReadyH.cons (o := { dst := some 32, op := Op.call { callee := Callee.value (Operand.func 15), args := #[Operand.tmp 30, Operand.tmp 31], argTypes := #[23, 3] }, type := 30, pos := "law.go:29", after := #[{ on := 12, ground := Ground.data }, { on := 13, ground := Ground.data }, { on := 11, ground := Ground.chain }, { on := 8, ground := Ground.guard }], guard := some (8, true) }) rfl (fun K hK => ?_) AllReadyH.nil
    go_simp
    go_at_call 15
    refine (E2.out _ hS.b).mono ?_
    rintro e w' ⟨rfl, b⟩
    have hS2 := hS.next b
    clear b hS
    try go_simp
    refine hK.out _ _ hS2 (fun hS => ?_)
    clear hK K hS2
    refine wpAnyH_take (i := 15) (oi := { dst := some 33, op := Op.binOp BinOp.eql 30 (Operand.tmp 29) (Operand.tmp 32) 30, type := 4, pos := "law.go:29", after := #[{ on := 11, ground := Ground.data }, { on := 14, ground := Ground.data }, { on := 8, ground := Ground.guard }], guard := some (8, true) }) (v := .bool true) rfl (by kernel_rfl) (by kernel_rfl) (by kernel_rfl) (fun _ _ _ h => h) (Or.inl ⟨by rfl, ?yef15⟩) hS ?ref15
    case yef15 => (intro w hS; go_simp; try with_reducible rfl)
    go_simp
    refine wpAnyH_take (i := 16) (oi := { dst := some 34, op := Op.pick (Operand.tmp 26) (Operand.tmp 33) (Operand.const (Value.bool false)), type := 4, pos := "law.go:29", after := #[{ on := 8, ground := Ground.data }, { on := 15, ground := Ground.data }], guard := none }) (v := ?vef16) rfl (by kernel_rfl) (by kernel_rfl) (by kernel_rfl) (fun _ _ _ h => h) (Or.inl ⟨by rfl, ?yef16⟩) hS ?ref16
    case yef16 => (intro w hS; go_simp; try with_reducible rfl)
    go_simp
    refine wpAnyH_take (i := 17) (oi := { dst := some 35, op := Op.move (Operand.tmp 34), type := 4, pos := "law.go:29", after := #[{ on := 16, ground := Ground.data }, { on := 14, ground := Ground.chain }], guard := none }) (v := ?vef17) rfl (by kernel_rfl) (by kernel_rfl) (by kernel_rfl) (fun _ _ _ h => h) (Or.inl ⟨by rfl, ?yef17⟩) hS ?ref17
    case yef17 => (intro w hS; go_simp; try with_reducible rfl)
    go_simp
    refine wpAnyH_take (i := 18) (oi := { dst := some 36, op := Op.load 23 (Operand.tmp 8), type := 23, pos := "law.go:29", after := #[{ on := 17, ground := Ground.guard }], guard := some (17, true) }) (v := .agg #[.int .i64 X, .int .i64 Y]) rfl (by kernel_rfl) (by kernel_rfl) (by kernel_rfl) (fun _ _ _ h => h) (Or.inl ⟨by rfl, ?yef18⟩) hS ?ref18
    case yef18 => (intro w' hS; have cf := hS.get ⟨g8, 0, none⟩ (.int .i64 X) (by simp); have cg1 := hS.get ⟨g8, 1, none⟩ (.int .i64 Y) (by simp); go_simp; try with_reducible rfl)
    refine wpAnyH_take (i := 19) (oi := { dst := some 37, op := Op.move (Operand.tmp 1), type := 3, pos := "law.go:29", after := #[{ on := 17, ground := Ground.guard }], guard := some (17, true) }) (v := ?vef19) rfl (by kernel_rfl) (by kernel_rfl) (by kernel_rfl) (fun _ _ _ h => h) (Or.inl ⟨by rfl, ?yef19⟩) hS ?ref19
    case yef19 => (intro w hS; go_simp; try with_reducible rfl)
    refine wpAnyH_take (i := 21) (oi := { dst := some 39, op := Op.load 23 (Operand.tmp 8), type := 23, pos := "law.go:29", after := #[{ on := 17, ground := Ground.guard }], guard := some (17, true) }) (v := .agg #[.int .i64 X, .int .i64 Y]) rfl (by kernel_rfl) (by kernel_rfl) (by kernel_rfl) (fun _ _ _ h => h) (Or.inl ⟨by rfl, ?yef21⟩) hS ?ref21
    case yef21 => (intro w' hS; have cf := hS.get ⟨g8, 0, none⟩ (.int .i64 X) (by simp); have cg1 := hS.get ⟨g8, 1, none⟩ (.int .i64 Y) (by simp); go_simp; try with_reducible rfl)
    refine wpAnyH_take (i := 22) (oi := { dst := some 40, op := Op.move (Operand.tmp 1), type := 3, pos := "law.go:29", after := #[{ on := 17, ground := Ground.guard }], guard := some (17, true) }) (v := ?vef22) rfl (by kernel_rfl) (by kernel_rfl) (by kernel_rfl) (fun _ _ _ h => h) (Or.inl ⟨by rfl, ?yef22⟩) hS ?ref22
    case yef22 => (intro w hS; go_simp; try with_reducible rfl)
    go_simp
    refine wpAnyH_ready (rs := [20]) (by kernel_rfl) (by simp) ?_
    refine AllReadyH.cons (o := { dst := some 38, op := Op.call { callee := Callee.value (Operand.func 14), args := #[Operand.tmp 36, Operand.tmp 37], argTypes := #[23, 3] }, type := 30, pos := "law.go:29", after := #[{ on := 18, ground := Ground.data }, { on := 19, ground := Ground.data }, { on := 17, ground := Ground.chain }, { on := 17, ground := Ground.guard }], guard := some (17, true) }) rfl (fun K hK => ?_) AllReadyH.nil
    go_simp
    go_at_call 14
    refine (E3.out _ hS.b).mono ?_
    rintro e w' ⟨rfl, b⟩
    have hS2 := hS.next b
    clear b hS
    try go_simp
    refine hK.out _ _ hS2 (fun hS => ?_)
    clear hK K hS2
    refine wpAnyH_ready (rs := [23]) (by kernel_rfl) (by simp) ?_
    refine AllReadyH.cons (o := { dst := some 41, op := Op.call { callee := Callee.value (Operand.func 15), args := #[Operand.tmp 39, Operand.tmp 40], argTypes := #[23, 3] }, type := 30, pos := "law.go:29", after := #[{ on := 21, ground := Ground.data }, { on := 22, ground := Ground.data }, { on := 20, ground := Ground.chain }, { on := 17, ground := Ground.guard }], guard := some (17, true) }) rfl (fun K hK => ?_) AllReadyH.nil
    go_simp
    go_at_call 15
    refine (E4.out _ hS.b).mono ?_
    rintro e w' ⟨rfl, b⟩
    have hS2 := hS.next b
    clear b hS
    try go_simp
    refine hK.out _ _ hS2 (fun hS => ?_)
    clear hK K hS2
    refine wpAnyH_take (i := 24) (oi := { dst := some 42, op := Op.binOp BinOp.eql 30 (Operand.tmp 38) (Operand.tmp 41) 30, type := 4, pos := "law.go:29", after := #[{ on := 20, ground := Ground.data }, { on := 23, ground := Ground.data }, { on := 17, ground := Ground.guard }], guard := some (17, true) }) (v := .bool true) rfl (by kernel_rfl) (by kernel_rfl) (by kernel_rfl) (fun _ _ _ h => h) (Or.inl ⟨by rfl, ?yef24⟩) hS ?ref24
    case yef24 => (intro w hS; go_simp; try with_reducible rfl)
    go_simp
    refine wpAnyH_take (i := 25) (oi := { dst := some 43, op := Op.pick (Operand.tmp 35) (Operand.tmp 42) (Operand.const (Value.bool false)), type := 4, pos := "law.go:29", after := #[{ on := 17, ground := Ground.data }, { on := 24, ground := Ground.data }], guard := none }) (v := ?vef25) rfl (by kernel_rfl) (by kernel_rfl) (by kernel_rfl) (fun _ _ _ h => h) (Or.inl ⟨by rfl, ?yef25⟩) hS ?ref25
    case yef25 => (intro w hS; go_simp; try with_reducible rfl)
    go_simp
    refine wpAnyH_take (i := 26) (oi := { dst := some 6, op := Op.assign (Operand.tmp 43), type := 4, pos := "law.go:29", after := #[{ on := 25, ground := Ground.data }, { on := 23, ground := Ground.chain }, { on := 0, ground := Ground.phase }, { on := 1, ground := Ground.phase }, { on := 2, ground := Ground.phase }, { on := 3, ground := Ground.phase }, { on := 4, ground := Ground.phase }, { on := 5, ground := Ground.phase }, { on := 6, ground := Ground.phase }, { on := 7, ground := Ground.phase }, { on := 8, ground := Ground.phase }, { on := 9, ground := Ground.phase }, { on := 10, ground := Ground.phase }, { on := 11, ground := Ground.phase }, { on := 12, ground := Ground.phase }, { on := 13, ground := Ground.phase }, { on := 14, ground := Ground.phase }, { on := 15, ground := Ground.phase }, { on := 16, ground := Ground.phase }, { on := 17, ground := Ground.phase }, { on := 18, ground := Ground.phase }, { on := 19, ground := Ground.phase }, { on := 20, ground := Ground.phase }, { on := 21, ground := Ground.phase }, { on := 22, ground := Ground.phase }, { on := 23, ground := Ground.phase }, { on := 24, ground := Ground.phase }, { on := 25, ground := Ground.phase }], guard := none }) (v := ?vef26) rfl (by kernel_rfl) (by kernel_rfl) (by kernel_rfl) (fun _ _ _ h => h) (Or.inl ⟨by rfl, ?yef26⟩) hS ?ref26
    case yef26 => (intro w hS; go_simp; try with_reducible rfl)
    refine wpAnyH_done (by kernel_rfl) ?_ _
    go_wp2
    go_ret
    exact ⟨rfl, hS.b⟩
  · go_simp
    have n8 := heap_alloc_new a0 (.cells #[.int .i64 0, .int .i64 0] 23)
    have l8 := hS.b.size
    have k8 := World.block_lt_of_cell? _ _ (hS.get ⟨w.heap.size + 1, 0, none⟩ (.int .i64 a) (by simp))
    have hS2 := hS.next ((Below.refl _ a0).alloc (Nat.le_refl _) (.cells #[.int .i64 0, .int .i64 0] 23))
    clear hS
    refine hK.out _ _ hS2 (fun hS => ?_)
    clear hK K hS2
    obtain ⟨g8, hg8⟩ : ∃ g, a0.heap.size = g := ⟨_, rfl⟩
    rw [hg8] at n8 l8 k8 ⊢
    clear hg8
    obtain ⟨v8, hV9⟩ : ∃ V, World.alloc a0 (.cells #[.int .i64 0, .int .i64 0] 23) = V := ⟨_, rfl⟩
    rw [hV9] at hS n8 ⊢
    clear hV9
    refine wpAnyH_ready (rs := [6]) (by kernel_rfl) (by simp) ?_
    refine (AllReadyH.cons (o := { dst := some 16, op := Op.call { callee := Callee.value (Operand.func 11), args := #[Operand.tmp 15], argTypes := #[3] }, type := 3, pos := "law.go:28", after := #[{ on := 5, ground := Ground.data }], guard := none }) rfl (fun K hK => ?_) AllReadyH.nil)
    go_simp
    go_at_call 11
    refine (EX.out _).mono ?_
    rintro e w' ⟨rfl, b⟩
    have hS2 := hS.next b
    replace n8 := (b.block _ (Array.getElem?_eq_some_iff.1 n8).1).trans n8
    clear b hS
    try go_simp
    refine hK.out _ _ hS2 (fun hS => ?_)
    clear hK K hS2
    refine wpAnyH_take (i := 7) (oi := { dst := some 17, op := Op.build 23 #[(0, Operand.tmp 13), (1, Operand.tmp 16)], type := 23, pos := "law.go:28", after := #[{ on := 3, ground := Ground.data }, { on := 6, ground := Ground.data }], guard := none }) (v := ?vec7) rfl (by kernel_rfl) (by kernel_rfl) (by kernel_rfl) (fun _ _ _ h => h) (Or.inl ⟨by rfl, ?yec7⟩) hS ?rec7
    case yec7 => (intro w hS; go_simp; try with_reducible rfl)
    go_simp
    refine wpAnyH_ready (rs := [9]) (by kernel_rfl) (by simp) ?_
    refine AllReadyH.cons (o := { dst := none, op := Op.store 23 (Operand.tmp 8) (Operand.tmp 17), type := 0, pos := "law.go:28", after := #[{ on := 8, ground := Ground.data }, { on := 7, ground := Ground.data }, { on := 6, ground := Ground.chain }, { on := 0, ground := Ground.phase }, { on := 1, ground := Ground.phase }, { on := 2, ground := Ground.phase }, { on := 3, ground := Ground.phase }, { on := 4, ground := Ground.phase }, { on := 5, ground := Ground.phase }, { on := 6, ground := Ground.phase }, { on := 7, ground := Ground.phase }, { on := 8, ground := Ground.phase }], guard := none }) rfl (fun K hK => ?_) AllReadyH.nil
    rw [if_pos (by rfl)]
    refine wp_store_row 23 (.tmp 8) (.tmp 17) rfl g8 #[.int .i64 X, .int .i64 Y] (by first | rfl | (simp [Act.eval])) (by first | rfl | (simp [Act.eval])) 23 _ n8 (infoS9 X Y).out (two_sz9 _ _ rfl) (sh_one9 X Y) ?_
    have n9 := setRow_heap _ _ _ #[.int .i64 X, .int .i64 Y] _ _ n8
    have hS2 := CK.write hS g8 #[.int .i64 X, .int .i64 Y] l8 (by intro x hx; simp only [List.mem_cons, List.not_mem_nil, or_false] at hx; have k9 : w.heap.size + 1 < g8 := k8; rcases hx with rfl | rfl | rfl | rfl <;> (intro e; dsimp only at e; omega))
    clear hS n8
    refine hK.out _ _ hS2 (fun hS => ?_)
    clear hK K hS2
    refine wpAnyH_done (by kernel_rfl) ?_ _
    have HK2 : Hid (CK w [(⟨g8, 0, none⟩, .int .i64 X), (⟨g8, 1, none⟩, .int .i64 Y), (⟨w.heap.size, 0, none⟩, .int .i64 x), (⟨w.heap.size, 1, none⟩, .int .i64 y)] [] _) := Lib.hid ⟨hS.b, fun q hq => by
      simp only [List.mem_cons, List.not_mem_nil, or_false] at hq
      rcases hq with rfl | rfl | rfl | rfl
      · exact cell_of_row _ g8 0 _ _ _ n9
      · exact cell_of_row _ g8 1 _ _ _ n9
      · exact hS.get ⟨w.heap.size, 0, none⟩ (.int .i64 x) (by simp)
      · exact hS.get ⟨w.heap.size, 1, none⟩ (.int .i64 y) (by simp), fun q hq => by cases hq⟩
    clear hS n9
    go_upto_region 3 with fail
    refine wp_region_held_drew (S := CK w [(⟨g8, 0, none⟩, .int .i64 X), (⟨g8, 1, none⟩, .int .i64 Y), (⟨w.heap.size, 0, none⟩, .int .i64 x), (⟨w.heap.size, 1, none⟩, .int .i64 y)] []) (by kernel_rfl) HK2.out.drew (fun hS => ?_)
    clear HK2
    refine wpAnyH_take (i := 0) (oi := { dst := some 18, op := Op.move (Operand.tmp 7), type := 4, pos := "law.go:29", after := #[], guard := none }) (v := ?veg0) rfl (by kernel_rfl) (by kernel_rfl) (by kernel_rfl) (fun _ _ _ h => h) (Or.inl ⟨by rfl, ?yeg0⟩) hS ?reg0
    case yeg0 => (intro w hS; go_simp; try with_reducible rfl)
    go_simp
    refine wpAnyH_take (i := 1) (oi := { dst := some 19, op := Op.move (Operand.tmp 18), type := 4, pos := "law.go:29", after := #[{ on := 0, ground := Ground.data }], guard := none }) (v := ?veg1) rfl (by kernel_rfl) (by kernel_rfl) (by kernel_rfl) (fun _ _ _ h => h) (Or.inl ⟨by rfl, ?yeg1⟩) hS ?reg1
    case yeg1 => (intro w hS; go_simp; try with_reducible rfl)
    go_simp
    refine wpAnyH_take (i := 2) (oi := { dst := some 20, op := Op.move (Operand.tmp 1), type := 3, pos := "law.go:29", after := #[{ on := 1, ground := Ground.guard }], guard := some (1, true) }) (v := ?veg2) rfl (by kernel_rfl) (by kernel_rfl) (by kernel_rfl) (fun _ _ _ h => h) (Or.inl ⟨by rfl, ?yeg2⟩) hS ?reg2
    case yeg2 => (intro w hS; go_simp; try with_reducible rfl)
    refine wpAnyH_take (i := 4) (oi := { dst := some 22, op := Op.move (Operand.tmp 1), type := 3, pos := "law.go:29", after := #[{ on := 1, ground := Ground.guard }], guard := some (1, true) }) (v := ?veg4) rfl (by kernel_rfl) (by kernel_rfl) (by kernel_rfl) (fun _ _ _ h => h) (Or.inl ⟨by rfl, ?yeg4⟩) hS ?reg4
    case yeg4 => (intro w hS; go_simp; try with_reducible rfl)
    go_simp
    refine wpAnyH_ready (rs := [3]) (by kernel_rfl) (by simp) ?_
    refine AllReadyH.cons (o := { dst := some 21, op := Op.call { callee := Callee.value (Operand.func 12), args := #[Operand.tmp 20], argTypes := #[3] }, type := 3, pos := "law.go:29", after := #[{ on := 2, ground := Ground.data }, { on := 1, ground := Ground.chain }, { on := 1, ground := Ground.guard }], guard := some (1, true) }) rfl (fun K hK => ?_) AllReadyH.nil
    go_simp
    go_at_call 12
    refine (B1.out _ hS.b).mono ?_
    rintro e w' ⟨rfl, b⟩
    have hS2 := hS.next b
    clear b hS
    try go_simp
    refine hK.out _ _ hS2 (fun hS => ?_)
    clear hK K hS2
    refine wpAnyH_ready (rs := [5]) (by kernel_rfl) (by simp) ?_
    refine AllReadyH.cons (o := { dst := some 23, op := Op.call { callee := Callee.value (Operand.func 13), args := #[Operand.tmp 22], argTypes := #[3] }, type := 3, pos := "law.go:29", after := #[{ on := 4, ground := Ground.data }, { on := 3, ground := Ground.chain }, { on := 1, ground := Ground.guard }], guard := some (1, true) }) rfl (fun K hK => ?_) AllReadyH.nil
    go_simp
    go_at_call 13
    refine (B2.out _ hS.b).mono ?_
    rintro e w' ⟨rfl, b⟩
    have hS2 := hS.next b
    clear b hS
    try go_simp
    refine hK.out _ _ hS2 (fun hS => ?_)
    clear hK K hS2
    refine wpAnyH_take (i := 6) (oi := { dst := some 24, op := Op.binOp BinOp.eql 3 (Operand.tmp 21) (Operand.tmp 23) 3, type := 4, pos := "law.go:29", after := #[{ on := 3, ground := Ground.data }, { on := 5, ground := Ground.data }, { on := 1, ground := Ground.guard }], guard := some (1, true) }) (v := .bool true) rfl (by kernel_rfl) (by kernel_rfl) (by kernel_rfl) (fun _ _ _ h => h) (Or.inl ⟨by rfl, ?yeg6⟩) hS ?reg6
    case yeg6 => (intro w hS; go_simp; try with_reducible rfl)
    go_simp
    refine wpAnyH_take (i := 7) (oi := { dst := some 25, op := Op.pick (Operand.tmp 19) (Operand.tmp 24) (Operand.const (Value.bool false)), type := 4, pos := "law.go:29", after := #[{ on := 1, ground := Ground.data }, { on := 6, ground := Ground.data }], guard := none }) (v := ?veg7) rfl (by kernel_rfl) (by kernel_rfl) (by kernel_rfl) (fun _ _ _ h => h) (Or.inl ⟨by rfl, ?yeg7⟩) hS ?reg7
    case yeg7 => (intro w hS; go_simp; try with_reducible rfl)
    go_simp
    refine wpAnyH_take (i := 8) (oi := { dst := some 26, op := Op.move (Operand.tmp 25), type := 4, pos := "law.go:29", after := #[{ on := 7, ground := Ground.data }, { on := 5, ground := Ground.chain }], guard := none }) (v := ?veg8) rfl (by kernel_rfl) (by kernel_rfl) (by kernel_rfl) (fun _ _ _ h => h) (Or.inl ⟨by rfl, ?yeg8⟩) hS ?reg8
    case yeg8 => (intro w hS; go_simp; try with_reducible rfl)
    go_simp
    refine wpAnyH_take (i := 9) (oi := { dst := some 27, op := Op.load 23 (Operand.tmp 3), type := 23, pos := "law.go:29", after := #[{ on := 8, ground := Ground.guard }], guard := some (8, true) }) (v := .agg #[.int .i64 x, .int .i64 y]) rfl (by kernel_rfl) (by kernel_rfl) (by kernel_rfl) (fun _ _ _ h => h) (Or.inl ⟨by rfl, ?yeg9⟩) hS ?reg9
    case yeg9 => (intro w' hS; have cf := hS.get ⟨w.heap.size, 0, none⟩ (.int .i64 x) (by simp); have cg1 := hS.get ⟨w.heap.size, 1, none⟩ (.int .i64 y) (by simp); go_simp; try with_reducible rfl)
    refine wpAnyH_take (i := 10) (oi := { dst := some 28, op := Op.move (Operand.tmp 1), type := 3, pos := "law.go:29", after := #[{ on := 8, ground := Ground.guard }], guard := some (8, true) }) (v := ?veg10) rfl (by kernel_rfl) (by kernel_rfl) (by kernel_rfl) (fun _ _ _ h => h) (Or.inl ⟨by rfl, ?yeg10⟩) hS ?reg10
    case yeg10 => (intro w hS; go_simp; try with_reducible rfl)
    refine wpAnyH_take (i := 12) (oi := { dst := some 30, op := Op.load 23 (Operand.tmp 3), type := 23, pos := "law.go:29", after := #[{ on := 8, ground := Ground.guard }], guard := some (8, true) }) (v := .agg #[.int .i64 x, .int .i64 y]) rfl (by kernel_rfl) (by kernel_rfl) (by kernel_rfl) (fun _ _ _ h => h) (Or.inl ⟨by rfl, ?yeg12⟩) hS ?reg12
    case yeg12 => (intro w' hS; have cf := hS.get ⟨w.heap.size, 0, none⟩ (.int .i64 x) (by simp); have cg1 := hS.get ⟨w.heap.size, 1, none⟩ (.int .i64 y) (by simp); go_simp; try with_reducible rfl)
    refine wpAnyH_take (i := 13) (oi := { dst := some 31, op := Op.move (Operand.tmp 1), type := 3, pos := "law.go:29", after := #[{ on := 8, ground := Ground.guard }], guard := some (8, true) }) (v := ?veg13) rfl (by kernel_rfl) (by kernel_rfl) (by kernel_rfl) (fun _ _ _ h => h) (Or.inl ⟨by rfl, ?yeg13⟩) hS ?reg13
    case yeg13 => (intro w hS; go_simp; try with_reducible rfl)
    go_simp
    refine wpAnyH_ready (rs := [11]) (by kernel_rfl) (by simp) ?_
    refine AllReadyH.cons (o := { dst := some 29, op := Op.call { callee := Callee.value (Operand.func 14), args := #[Operand.tmp 27, Operand.tmp 28], argTypes := #[23, 3] }, type := 30, pos := "law.go:29", after := #[{ on := 9, ground := Ground.data }, { on := 10, ground := Ground.data }, { on := 8, ground := Ground.chain }, { on := 8, ground := Ground.guard }], guard := some (8, true) }) rfl (fun K hK => ?_) AllReadyH.nil
    go_simp
    go_at_call 14
    refine (E1.out _ hS.b).mono ?_
    rintro e w' ⟨rfl, b⟩
    have hS2 := hS.next b
    clear b hS
    try go_simp
    refine hK.out _ _ hS2 (fun hS => ?_)
    clear hK K hS2
    refine wpAnyH_ready (rs := [14]) (by kernel_rfl) (by simp) ?_
    refine AllReadyH.cons (o := { dst := some 32, op := Op.call { callee := Callee.value (Operand.func 15), args := #[Operand.tmp 30, Operand.tmp 31], argTypes := #[23, 3] }, type := 30, pos := "law.go:29", after := #[{ on := 12, ground := Ground.data }, { on := 13, ground := Ground.data }, { on := 11, ground := Ground.chain }, { on := 8, ground := Ground.guard }], guard := some (8, true) }) rfl (fun K hK => ?_) AllReadyH.nil
    go_simp
    go_at_call 15
    refine (E2.out _ hS.b).mono ?_
    rintro e w' ⟨rfl, b⟩
    have hS2 := hS.next b
    clear b hS
    try go_simp
    refine hK.out _ _ hS2 (fun hS => ?_)
    clear hK K hS2
    refine wpAnyH_take (i := 15) (oi := { dst := some 33, op := Op.binOp BinOp.eql 30 (Operand.tmp 29) (Operand.tmp 32) 30, type := 4, pos := "law.go:29", after := #[{ on := 11, ground := Ground.data }, { on := 14, ground := Ground.data }, { on := 8, ground := Ground.guard }], guard := some (8, true) }) (v := .bool true) rfl (by kernel_rfl) (by kernel_rfl) (by kernel_rfl) (fun _ _ _ h => h) (Or.inl ⟨by rfl, ?yeg15⟩) hS ?reg15
    case yeg15 => (intro w hS; go_simp; try with_reducible rfl)
    go_simp
    refine wpAnyH_take (i := 16) (oi := { dst := some 34, op := Op.pick (Operand.tmp 26) (Operand.tmp 33) (Operand.const (Value.bool false)), type := 4, pos := "law.go:29", after := #[{ on := 8, ground := Ground.data }, { on := 15, ground := Ground.data }], guard := none }) (v := ?veg16) rfl (by kernel_rfl) (by kernel_rfl) (by kernel_rfl) (fun _ _ _ h => h) (Or.inl ⟨by rfl, ?yeg16⟩) hS ?reg16
    case yeg16 => (intro w hS; go_simp; try with_reducible rfl)
    go_simp
    refine wpAnyH_take (i := 17) (oi := { dst := some 35, op := Op.move (Operand.tmp 34), type := 4, pos := "law.go:29", after := #[{ on := 16, ground := Ground.data }, { on := 14, ground := Ground.chain }], guard := none }) (v := ?veg17) rfl (by kernel_rfl) (by kernel_rfl) (by kernel_rfl) (fun _ _ _ h => h) (Or.inl ⟨by rfl, ?yeg17⟩) hS ?reg17
    case yeg17 => (intro w hS; go_simp; try with_reducible rfl)
    go_simp
    refine wpAnyH_take (i := 18) (oi := { dst := some 36, op := Op.load 23 (Operand.tmp 8), type := 23, pos := "law.go:29", after := #[{ on := 17, ground := Ground.guard }], guard := some (17, true) }) (v := .agg #[.int .i64 X, .int .i64 Y]) rfl (by kernel_rfl) (by kernel_rfl) (by kernel_rfl) (fun _ _ _ h => h) (Or.inl ⟨by rfl, ?yeg18⟩) hS ?reg18
    case yeg18 => (intro w' hS; have cf := hS.get ⟨g8, 0, none⟩ (.int .i64 X) (by simp); have cg1 := hS.get ⟨g8, 1, none⟩ (.int .i64 Y) (by simp); go_simp; try with_reducible rfl)
    refine wpAnyH_take (i := 19) (oi := { dst := some 37, op := Op.move (Operand.tmp 1), type := 3, pos := "law.go:29", after := #[{ on := 17, ground := Ground.guard }], guard := some (17, true) }) (v := ?veg19) rfl (by kernel_rfl) (by kernel_rfl) (by kernel_rfl) (fun _ _ _ h => h) (Or.inl ⟨by rfl, ?yeg19⟩) hS ?reg19
    case yeg19 => (intro w hS; go_simp; try with_reducible rfl)
    refine wpAnyH_take (i := 21) (oi := { dst := some 39, op := Op.load 23 (Operand.tmp 8), type := 23, pos := "law.go:29", after := #[{ on := 17, ground := Ground.guard }], guard := some (17, true) }) (v := .agg #[.int .i64 X, .int .i64 Y]) rfl (by kernel_rfl) (by kernel_rfl) (by kernel_rfl) (fun _ _ _ h => h) (Or.inl ⟨by rfl, ?yeg21⟩) hS ?reg21
    case yeg21 => (intro w' hS; have cf := hS.get ⟨g8, 0, none⟩ (.int .i64 X) (by simp); have cg1 := hS.get ⟨g8, 1, none⟩ (.int .i64 Y) (by simp); go_simp; try with_reducible rfl)
    refine wpAnyH_take (i := 22) (oi := { dst := some 40, op := Op.move (Operand.tmp 1), type := 3, pos := "law.go:29", after := #[{ on := 17, ground := Ground.guard }], guard := some (17, true) }) (v := ?veg22) rfl (by kernel_rfl) (by kernel_rfl) (by kernel_rfl) (fun _ _ _ h => h) (Or.inl ⟨by rfl, ?yeg22⟩) hS ?reg22
    case yeg22 => (intro w hS; go_simp; try with_reducible rfl)
    go_simp
    refine wpAnyH_ready (rs := [20]) (by kernel_rfl) (by simp) ?_
    refine AllReadyH.cons (o := { dst := some 38, op := Op.call { callee := Callee.value (Operand.func 14), args := #[Operand.tmp 36, Operand.tmp 37], argTypes := #[23, 3] }, type := 30, pos := "law.go:29", after := #[{ on := 18, ground := Ground.data }, { on := 19, ground := Ground.data }, { on := 17, ground := Ground.chain }, { on := 17, ground := Ground.guard }], guard := some (17, true) }) rfl (fun K hK => ?_) AllReadyH.nil
    go_simp
    go_at_call 14
    refine (E3.out _ hS.b).mono ?_
    rintro e w' ⟨rfl, b⟩
    have hS2 := hS.next b
    clear b hS
    try go_simp
    refine hK.out _ _ hS2 (fun hS => ?_)
    clear hK K hS2
    refine wpAnyH_ready (rs := [23]) (by kernel_rfl) (by simp) ?_
    refine AllReadyH.cons (o := { dst := some 41, op := Op.call { callee := Callee.value (Operand.func 15), args := #[Operand.tmp 39, Operand.tmp 40], argTypes := #[23, 3] }, type := 30, pos := "law.go:29", after := #[{ on := 21, ground := Ground.data }, { on := 22, ground := Ground.data }, { on := 20, ground := Ground.chain }, { on := 17, ground := Ground.guard }], guard := some (17, true) }) rfl (fun K hK => ?_) AllReadyH.nil
    go_simp
    go_at_call 15
    refine (E4.out _ hS.b).mono ?_
    rintro e w' ⟨rfl, b⟩
    have hS2 := hS.next b
    clear b hS
    try go_simp
    refine hK.out _ _ hS2 (fun hS => ?_)
    clear hK K hS2
    refine wpAnyH_take (i := 24) (oi := { dst := some 42, op := Op.binOp BinOp.eql 30 (Operand.tmp 38) (Operand.tmp 41) 30, type := 4, pos := "law.go:29", after := #[{ on := 20, ground := Ground.data }, { on := 23, ground := Ground.data }, { on := 17, ground := Ground.guard }], guard := some (17, true) }) (v := .bool true) rfl (by kernel_rfl) (by kernel_rfl) (by kernel_rfl) (fun _ _ _ h => h) (Or.inl ⟨by rfl, ?yeg24⟩) hS ?reg24
    case yeg24 => (intro w hS; go_simp; try with_reducible rfl)
    go_simp
    refine wpAnyH_take (i := 25) (oi := { dst := some 43, op := Op.pick (Operand.tmp 35) (Operand.tmp 42) (Operand.const (Value.bool false)), type := 4, pos := "law.go:29", after := #[{ on := 17, ground := Ground.data }, { on := 24, ground := Ground.data }], guard := none }) (v := ?veg25) rfl (by kernel_rfl) (by kernel_rfl) (by kernel_rfl) (fun _ _ _ h => h) (Or.inl ⟨by rfl, ?yeg25⟩) hS ?reg25
    case yeg25 => (intro w hS; go_simp; try with_reducible rfl)
    go_simp
    refine wpAnyH_take (i := 26) (oi := { dst := some 6, op := Op.assign (Operand.tmp 43), type := 4, pos := "law.go:29", after := #[{ on := 25, ground := Ground.data }, { on := 23, ground := Ground.chain }, { on := 0, ground := Ground.phase }, { on := 1, ground := Ground.phase }, { on := 2, ground := Ground.phase }, { on := 3, ground := Ground.phase }, { on := 4, ground := Ground.phase }, { on := 5, ground := Ground.phase }, { on := 6, ground := Ground.phase }, { on := 7, ground := Ground.phase }, { on := 8, ground := Ground.phase }, { on := 9, ground := Ground.phase }, { on := 10, ground := Ground.phase }, { on := 11, ground := Ground.phase }, { on := 12, ground := Ground.phase }, { on := 13, ground := Ground.phase }, { on := 14, ground := Ground.phase }, { on := 15, ground := Ground.phase }, { on := 16, ground := Ground.phase }, { on := 17, ground := Ground.phase }, { on := 18, ground := Ground.phase }, { on := 19, ground := Ground.phase }, { on := 20, ground := Ground.phase }, { on := 21, ground := Ground.phase }, { on := 22, ground := Ground.phase }, { on := 23, ground := Ground.phase }, { on := 24, ground := Ground.phase }, { on := 25, ground := Ground.phase }], guard := none }) (v := ?veg26) rfl (by kernel_rfl) (by kernel_rfl) (by kernel_rfl) (fun _ _ _ h => h) (Or.inl ⟨by rfl, ?yeg26⟩) hS ?reg26
    case yeg26 => (intro w hS; go_simp; try with_reducible rfl)
    refine wpAnyH_done (by kernel_rfl) ?_ _
    go_wp2
    go_ret
    exact ⟨rfl, hS.b⟩
theorem m_X (m : Int) (h : 0 ≤ m ∧ m < 32) : i64 (1 + m) := ⟨by omega, by omega⟩
theorem evals_walk (w : World) (x y r a b : Int) (hx : i64 x) (hy : i64 y) (hr : i64 r) (ha : i64 a) (hb : i64 b) (hT : TS w) :
    Calls Tryz.prog 3 #[.agg #[.int .i64 x, .int .i64 y], .int .i64 r, .agg #[.int .i64 a, .int .i64 b]] w fun e w' => e = .returned (.bool true) ∧ Below w.heap.size w w' := by
  have hm : 0 ≤ a % 32 ∧ a % 32 < 32 := ⟨by omega, by omega⟩
  have hY : i64 (ex b) := i64_of (ex_rng b) (by decide)
  obtain ⟨p, hp⟩ : ∃ p, evl x y r = p := ⟨_, rfl⟩
  obtain ⟨q, hq⟩ : ∃ q, evl (1 + a % 32) (ex b) r = q := ⟨_, rfl⟩
  have e1 := fun W (k : Below w.heap.size w W) => Eval_any W x y r p hp hx hy hr (hT.below k)
  have e2 := fun W (k : Below w.heap.size w W) => refEval_any W x y r p hp hx hy hr (hT.below k)
  have e3 := fun W (k : Below w.heap.size w W) => Eval_any W _ _ r q hq (m_X _ hm) hY hr (hT.below k)
  have e4 := fun W (k : Below w.heap.size w W) => refEval_any W _ _ r q hq (m_X _ hm) hY hr (hT.below k)
  obtain ⟨p0, p1, p2, p3⟩ := p
  obtain ⟨q0, q1, q2, q3⟩ := q
  exact evals_core w x y r a b (1 + a % 32) (ex b) (bs r) p0 p1 p2 p3 q0 q1 q2 q3 (a % 32) rfl (and31 a) hm.1 hm.2 (Lib.hid fun W k => sanity_any W (hT.below k)) (Lib.hid fun W => (refExponent_any W b hb).mono fun _ _ h => ⟨h.1, by rw [h.2]; exact Below.refl _ _⟩)
    (Lib.hid fun W k => Base_any W r _ rfl hr (hT.below k)) (Lib.hid fun W k => refBase_any W r _ rfl hr (hT.below k)) (Lib.hid e1) (Lib.hid e2) (Lib.hid e3) (Lib.hid e4)
end Go.Proofs.YtbfplapjjeeceaaGreatDoor.B9
