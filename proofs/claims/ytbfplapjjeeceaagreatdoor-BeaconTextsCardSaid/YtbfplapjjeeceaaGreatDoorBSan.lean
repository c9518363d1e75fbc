/-
  The walks of Text, in the program and in the reference, and of the reference's Ints.
  The numbers of the chapter's examples.
-/
import Derived.Test.YtbfplapjjeeceaaGreatDoorBVfy
import Derived.Test.YtbfplapjjeeceaaGreatDoorBCom
namespace Go.Proofs.YtbfplapjjeeceaaGreatDoor.B9
open Go.RowKit GM SH G4 E6 D7P
open W8 hiding i64 jn
/-- the text of a partial -/
def txp (s : Pa) : ByteArray := dcm s.1 ++ (⟨#[32]⟩ : ByteArray) ++ dcm s.2.1 ++ (⟨#[32]⟩ : ByteArray) ++ dcm s.2.2.1 ++ (⟨#[32]⟩ : ByteArray) ++ dcm s.2.2.2
set_option maxRecDepth 100000 in
set_option maxHeartbeats 4000000 in
theorem Text_core (w : World) (x v c z : Int) (X V C Z : ByteArray) (x1 : X.size ≤ 21) (v1 : V.size ≤ 21) (c1 : C.size ≤ 21) (z1 : Z.size ≤ 21)
    (I0 : Hid (∀ W, Below w.heap.size w W → Calls Tryz.prog 35 #[.int .i64 x] W fun e w' => e = .returned (.string X) ∧ Below W.heap.size W w'))
    (I1 : Hid (∀ W, Below w.heap.size w W → Calls Tryz.prog 35 #[.int .i64 v] W fun e w' => e = .returned (.string V) ∧ Below W.heap.size W w'))
    (I2 : Hid (∀ W, Below w.heap.size w W → Calls Tryz.prog 35 #[.int .i64 c] W fun e w' => e = .returned (.string C) ∧ Below W.heap.size W w'))
    (I3 : Hid (∀ W, Below w.heap.size w W → Calls Tryz.prog 35 #[.int .i64 z] W fun e w' => e = .returned (.string Z) ∧ Below W.heap.size W w')) :
    Calls Tryz.prog 28 #[.agg #[.int .i64 x, .int .i64 v, .int .i64 c, .int .i64 z]] w fun e w' => e = .returned (.string (X ++ (⟨#[32]⟩ : ByteArray) ++ V ++ (⟨#[32]⟩ : ByteArray) ++ C ++ (⟨#[32]⟩ : ByteArray) ++ Z)) ∧ Below w.heap.size w w' := by
  obtain ⟨W, hW⟩ : ∃ W, w.alloc (.cells #[.int .i64 x, .int .i64 v, .int .i64 c, .int .i64 z] 30) = W := ⟨_, rfl⟩
  have K0 : CK w [(⟨w.heap.size, 0, none⟩, .int .i64 x), (⟨w.heap.size, 1, none⟩, .int .i64 v), (⟨w.heap.size, 2, none⟩, .int .i64 c), (⟨w.heap.size, 3, none⟩, .int .i64 z)] [] W := by
    have := (CK.start w).cells #[.int .i64 x, .int .i64 v, .int .i64 c, .int .i64 z] 30 _ rfl
    rw [hW] at this
    exact this.sub (by simp) (by simp)
  have b1 : (9223372036854775807 < X.size + 1) = False := eq_false (by omega)
  have b2 : (9223372036854775807 < X.size + 1 + V.size) = False := eq_false (by omega)
  have b3 : (9223372036854775807 < X.size + 1 + V.size + 1) = False := eq_false (by omega)
  have b4 : (9223372036854775807 < X.size + 1 + V.size + 1 + C.size) = False := eq_false (by omega)
  have b5 : (9223372036854775807 < X.size + 1 + V.size + 1 + C.size + 1) = False := eq_false (by omega)
  have b6 : (9223372036854775807 < X.size + 1 + V.size + 1 + C.size + 1 + Z.size) = False := eq_false (by omega)
  clear x1 v1 c1 z1
  go_enter Tryz.func28, Tryz.ntmps28
  go_upto_region 1 with fail
  clear hW
  have HK := Lib.hid K0; clear K0
  refine wp_region_held_drew (S := CK w [(⟨w.heap.size, 0, none⟩, .int .i64 x), (⟨w.heap.size, 1, none⟩, .int .i64 v), (⟨w.heap.size, 2, none⟩, .int .i64 c), (⟨w.heap.size, 3, none⟩, .int .i64 z)] []) (by kernel_rfl) HK.out.drew (fun hS => ?_)
  clear HK
  refine wpAnyH_take (i := 0) (v := ?vta0) rfl (by kernel_rfl) (by kernel_rfl) (by kernel_rfl) (fun _ _ _ h => h) (Or.inl ⟨by rfl, ?yta0⟩) hS ?rta0
  case yta0 => (intro w hS; go_simp; try with_reducible rfl)
  refine wpAnyH_take (i := 4) (v := ?vta4) rfl (by kernel_rfl) (by kernel_rfl) (by kernel_rfl) (fun _ _ _ h => h) (Or.inl ⟨by rfl, ?yta4⟩) hS ?rta4
  case yta4 => (intro w hS; go_simp; try with_reducible rfl)
  refine wpAnyH_take (i := 9) (v := ?vta9) rfl (by kernel_rfl) (by kernel_rfl) (by kernel_rfl) (fun _ _ _ h => h) (Or.inl ⟨by rfl, ?yta9⟩) hS ?rta9
  case yta9 => (intro w hS; go_simp; try with_reducible rfl)
  refine wpAnyH_take (i := 15) (v := ?vta15) rfl (by kernel_rfl) (by kernel_rfl) (by kernel_rfl) (fun _ _ _ h => h) (Or.inl ⟨by rfl, ?yta15⟩) hS ?rta15
  case yta15 => (intro w hS; go_simp; try with_reducible rfl)
  go_simp
  refine wpAnyH_take (i := 1) (v := .int .i64 x) rfl (by kernel_rfl) (by kernel_rfl) (by kernel_rfl) (fun _ _ _ h => h) (Or.inl ⟨by rfl, ?yta1⟩) hS ?rta1
  case yta1 => (intro w' hS; have cf := hS.get ⟨w.heap.size, 0, none⟩ (.int .i64 x) (by simp); go_simp; try with_reducible rfl)
  refine wpAnyH_take (i := 5) (v := .int .i64 v) rfl (by kernel_rfl) (by kernel_rfl) (by kernel_rfl) (fun _ _ _ h => h) (Or.inl ⟨by rfl, ?yta5⟩) hS ?rta5
  case yta5 => (intro w' hS; have cf := hS.get ⟨w.heap.size, 1, none⟩ (.int .i64 v) (by simp); go_simp; try with_reducible rfl)
  refine wpAnyH_take (i := 10) (v := ?vta10) rfl (by kernel_rfl) (by kernel_rfl) (by kernel_rfl) (fun _ _ _ h => h) (Or.inl ⟨by rfl, ?yta10⟩) hS ?rta10
  case yta10 => (intro w hS; go_simp; try with_reducible rfl)
  refine wpAnyH_take (i := 16) (v := ?vta16) rfl (by kernel_rfl) (by kernel_rfl) (by kernel_rfl) (fun _ _ _ h => h) (Or.inl ⟨by rfl, ?yta16⟩) hS ?rta16
  case yta16 => (intro w hS; go_simp; try with_reducible rfl)
  go_simp
  refine wpAnyH_take (i := 11) (v := .int .i64 c) rfl (by kernel_rfl) (by kernel_rfl) (by kernel_rfl) (fun _ _ _ h => h) (Or.inl ⟨by rfl, ?yta11⟩) hS ?rta11
  case yta11 => (intro w' hS; have cf := hS.get ⟨w.heap.size, 2, none⟩ (.int .i64 c) (by simp); go_simp; try with_reducible rfl)
  refine wpAnyH_take (i := 17) (v := .int .i64 z) rfl (by kernel_rfl) (by kernel_rfl) (by kernel_rfl) (fun _ _ _ h => h) (Or.inl ⟨by rfl, ?yta17⟩) hS ?rta17
  case yta17 => (intro w' hS; have cf := hS.get ⟨w.heap.size, 3, none⟩ (.int .i64 z) (by simp); go_simp; try with_reducible rfl)
  go_simp
  refine wpAnyH_ready (rs := [2]) (by kernel_rfl) (by simp) ?_
  refine AllReadyH.cons (o := { dst := some 5, op := .call { callee := .value (.func 35), args := #[.tmp 4], argTypes := #[3] }, type := 9, pos := "text.go:12", after := #[⟨1, .data⟩], guard := none }) rfl (fun K hK => ?_) AllReadyH.nil
  go_simp
  go_at_call 35
  refine (I0.out _ hS.b).mono ?_
  rintro e w' ⟨rfl, b⟩
  have hS2 := hS.next b
  clear b hS
  try go_simp
  refine hK.out _ _ hS2 (fun hS => ?_)
  clear hK K hS2
  refine wpAnyH_take (i := 3) (v := ?vta3) rfl (by kernel_rfl) (by kernel_rfl) (by kernel_rfl) (fun _ _ _ h => h) (Or.inl ⟨by rfl, ?yta3⟩) hS ?rta3
  case yta3 => (intro w hS; go_simp; try with_reducible rfl)
  go_simp
  refine wpAnyH_ready (rs := [6]) (by kernel_rfl) (by simp) ?_
  refine AllReadyH.cons (o := { dst := some 9, op := .call { callee := .value (.func 35), args := #[.tmp 8], argTypes := #[3] }, type := 9, pos := "text.go:12", after := #[⟨5, .data⟩, ⟨2, .chain⟩], guard := none }) rfl (fun K hK => ?_) AllReadyH.nil
  go_simp
  go_at_call 35
  refine (I1.out _ hS.b).mono ?_
  rintro e w' ⟨rfl, b⟩
  have hS2 := hS.next b
  clear b hS
  try go_simp
  refine hK.out _ _ hS2 (fun hS => ?_)
  clear hK K hS2
  refine wpAnyH_take (i := 7) (v := ?vta7) rfl (by kernel_rfl) (by kernel_rfl) (by kernel_rfl) (fun _ _ _ h => h) (Or.inl ⟨by rfl, ?yta7⟩) hS ?rta7
  case yta7 => (intro w hS; go_simp; try with_reducible rfl)
  go_simp
  refine wpAnyH_take (i := 8) (v := ?vta8) rfl (by kernel_rfl) (by kernel_rfl) (by kernel_rfl) (fun _ _ _ h => h) (Or.inl ⟨by rfl, ?yta8⟩) hS ?rta8
  case yta8 => (intro w hS; go_simp; try with_reducible rfl)
  go_simp
  refine wpAnyH_ready (rs := [12]) (by kernel_rfl) (by simp) ?_
  refine AllReadyH.cons (o := { dst := some 15, op := .call { callee := .value (.func 35), args := #[.tmp 14], argTypes := #[3] }, type := 9, pos := "text.go:12", after := #[⟨11, .data⟩, ⟨6, .chain⟩], guard := none }) rfl (fun K hK => ?_) AllReadyH.nil
  go_simp
  go_at_call 35
  refine (I2.out _ hS.b).mono ?_
  rintro e w' ⟨rfl, b⟩
  have hS2 := hS.next b
  clear b hS
  try go_simp
  refine hK.out _ _ hS2 (fun hS => ?_)
  clear hK K hS2
  refine wpAnyH_take (i := 13) (v := ?vta13) rfl (by kernel_rfl) (by kernel_rfl) (by kernel_rfl) (fun _ _ _ h => h) (Or.inl ⟨by rfl, ?yta13⟩) hS ?rta13
  case yta13 => (intro w hS; go_simp; try with_reducible rfl)
  go_simp
  refine wpAnyH_take (i := 14) (v := ?vta14) rfl (by kernel_rfl) (by kernel_rfl) (by kernel_rfl) (fun _ _ _ h => h) (Or.inl ⟨by rfl, ?yta14⟩) hS ?rta14
  case yta14 => (intro w hS; go_simp; try with_reducible rfl)
  go_simp
  refine wpAnyH_ready (rs := [18]) (by kernel_rfl) (by simp) ?_
  refine AllReadyH.cons (o := { dst := some 21, op := .call { callee := .value (.func 35), args := #[.tmp 20], argTypes := #[3] }, type := 9, pos := "text.go:12", after := #[⟨17, .data⟩, ⟨12, .chain⟩], guard := none }) rfl (fun K hK => ?_) AllReadyH.nil
  go_simp
  go_at_call 35
  refine (I3.out _ hS.b).mono ?_
  rintro e w' ⟨rfl, b⟩
  have hS2 := hS.next b
  clear b hS
  try go_simp
  refine hK.out _ _ hS2 (fun hS => ?_)
  clear hK K hS2
  refine wpAnyH_take (i := 19) (v := ?vta19) rfl (by kernel_rfl) (by kernel_rfl) (by kernel_rfl) (fun _ _ _ h => h) (Or.inl ⟨by rfl, ?yta19⟩) hS ?rta19
  case yta19 => (intro w hS; go_simp; try with_reducible rfl)
  go_simp
  refine wpAnyH_take (i := 20) (v := ?vta20) rfl (by kernel_rfl) (by kernel_rfl) (by kernel_rfl) (fun _ _ _ h => h) (Or.inl ⟨by rfl, ?yta20⟩) hS ?rta20
  case yta20 => (intro w hS; go_simp; try with_reducible rfl)
  refine wpAnyH_done (by kernel_rfl) ?_ _
  go_wp2
  go_ret
  exact ⟨rfl, hS.b⟩
set_option maxRecDepth 100000 in
set_option maxHeartbeats 4000000 in
theorem refText9_core (w : World) (x v c z : Int) (X V C Z : ByteArray) (x1 : X.size ≤ 21) (v1 : V.size ≤ 21) (c1 : C.size ≤ 21) (z1 : Z.size ≤ 21)
    (I0 : Hid (∀ W, Below w.heap.size w W → Calls Tryz.prog 37 #[.int .i64 x] W fun e w' => e = .returned (.string X) ∧ Below W.heap.size W w'))
    (I1 : Hid (∀ W, Below w.heap.size w W → Calls Tryz.prog 37 #[.int .i64 v] W fun e w' => e = .returned (.string V) ∧ Below W.heap.size W w'))
    (I2 : Hid (∀ W, Below w.heap.size w W → Calls Tryz.prog 37 #[.int .i64 c] W fun e w' => e = .returned (.string C) ∧ Below W.heap.size W w'))
    (I3 : Hid (∀ W, Below w.heap.size w W → Calls Tryz.prog 37 #[.int .i64 z] W fun e w' => e = .returned (.string Z) ∧ Below W.heap.size W w')) :
    Calls Tryz.prog 30 #[.agg #[.int .i64 x, .int .i64 v, .int .i64 c, .int .i64 z]] w fun e w' => e = .returned (.string (X ++ (⟨#[32]⟩ : ByteArray) ++ V ++ (⟨#[32]⟩ : ByteArray) ++ C ++ (⟨#[32]⟩ : ByteArray) ++ Z)) ∧ Below w.heap.size w w' := by
  obtain ⟨W, hW⟩ : ∃ W, w.alloc (.cells #[.int .i64 x, .int .i64 v, .int .i64 c, .int .i64 z] 30) = W := ⟨_, rfl⟩
  have K0 : CK w [(⟨w.heap.size, 0, none⟩, .int .i64 x), (⟨w.heap.size, 1, none⟩, .int .i64 v), (⟨w.heap.size, 2, none⟩, .int .i64 c), (⟨w.heap.size, 3, none⟩, .int .i64 z)] [] W := by
    have := (CK.start w).cells #[.int .i64 x, .int .i64 v, .int .i64 c, .int .i64 z] 30 _ rfl
    rw [hW] at this
    exact this.sub (by simp) (by simp)
  have b1 : (9223372036854775807 < X.size + 1) = False := eq_false (by omega)
  have b2 : (9223372036854775807 < X.size + 1 + V.size) = False := eq_false (by omega)
  have b3 : (9223372036854775807 < X.size + 1 + V.size + 1) = False := eq_false (by omega)
  have b4 : (9223372036854775807 < X.size + 1 + V.size + 1 + C.size) = False := eq_false (by omega)
  have b5 : (9223372036854775807 < X.size + 1 + V.size + 1 + C.size + 1) = False := eq_false (by omega)
  have b6 : (9223372036854775807 < X.size + 1 + V.size + 1 + C.size + 1 + Z.size) = False := eq_false (by omega)
  clear x1 v1 c1 z1
  go_enter Tryz.func30, Tryz.ntmps30
  go_upto_region 1 with fail
  clear hW
  have HK := Lib.hid K0; clear K0
  refine wp_region_held_drew (S := CK w [(⟨w.heap.size, 0, none⟩, .int .i64 x), (⟨w.heap.size, 1, none⟩, .int .i64 v), (⟨w.heap.size, 2, none⟩, .int .i64 c), (⟨w.heap.size, 3, none⟩, .int .i64 z)] []) (by kernel_rfl) HK.out.drew (fun hS => ?_)
  clear HK
  refine wpAnyH_take (i := 0) (v := ?vtb0) rfl (by kernel_rfl) (by kernel_rfl) (by kernel_rfl) (fun _ _ _ h => h) (Or.inl ⟨by rfl, ?ytb0⟩) hS ?rtb0
  case ytb0 => (intro w hS; go_simp; try with_reducible rfl)
  refine wpAnyH_take (i := 4) (v := ?vtb4) rfl (by kernel_rfl) (by kernel_rfl) (by kernel_rfl) (fun _ _ _ h => h) (Or.inl ⟨by rfl, ?ytb4⟩) hS ?rtb4
  case ytb4 => (intro w hS; go_simp; try with_reducible rfl)
  refine wpAnyH_take (i := 9) (v := ?vtb9) rfl (by kernel_rfl) (by kernel_rfl) (by kernel_rfl) (fun _ _ _ h => h) (Or.inl ⟨by rfl, ?ytb9⟩) hS ?rtb9
  case ytb9 => (intro w hS; go_simp; try with_reducible rfl)
  refine wpAnyH_take (i := 15) (v := ?vtb15) rfl (by kernel_rfl) (by kernel_rfl) (by kernel_rfl) (fun _ _ _ h => h) (Or.inl ⟨by rfl, ?ytb15⟩) hS ?rtb15
  case ytb15 => (intro w hS; go_simp; try with_reducible rfl)
  go_simp
  refine wpAnyH_take (i := 1) (v := .int .i64 x) rfl (by kernel_rfl) (by kernel_rfl) (by kernel_rfl) (fun _ _ _ h => h) (Or.inl ⟨by rfl, ?ytb1⟩) hS ?rtb1
  case ytb1 => (intro w' hS; have cf := hS.get ⟨w.heap.size, 0, none⟩ (.int .i64 x) (by simp); go_simp; try with_reducible rfl)
  refine wpAnyH_take (i := 5) (v := .int .i64 v) rfl (by kernel_rfl) (by kernel_rfl) (by kernel_rfl) (fun _ _ _ h => h) (Or.inl ⟨by rfl, ?ytb5⟩) hS ?rtb5
  case ytb5 => (intro w' hS; have cf := hS.get ⟨w.heap.size, 1, none⟩ (.int .i64 v) (by simp); go_simp; try with_reducible rfl)
  refine wpAnyH_take (i := 10) (v := ?vtb10) rfl (by kernel_rfl) (by kernel_rfl) (by kernel_rfl) (fun _ _ _ h => h) (Or.inl ⟨by rfl, ?ytb10⟩) hS ?rtb10
  case ytb10 => (intro w hS; go_simp; try with_reducible rfl)
  refine wpAnyH_take (i := 16) (v := ?vtb16) rfl (by kernel_rfl) (by kernel_rfl) (by kernel_rfl) (fun _ _ _ h => h) (Or.inl ⟨by rfl, ?ytb16⟩) hS ?rtb16
  case ytb16 => (intro w hS; go_simp; try with_reducible rfl)
  go_simp
  refine wpAnyH_take (i := 11) (v := .int .i64 c) rfl (by kernel_rfl) (by kernel_rfl) (by kernel_rfl) (fun _ _ _ h => h) (Or.inl ⟨by rfl, ?ytb11⟩) hS ?rtb11
  case ytb11 => (intro w' hS; have cf := hS.get ⟨w.heap.size, 2, none⟩ (.int .i64 c) (by simp); go_simp; try with_reducible rfl)
  refine wpAnyH_take (i := 17) (v := .int .i64 z) rfl (by kernel_rfl) (by kernel_rfl) (by kernel_rfl) (fun _ _ _ h => h) (Or.inl ⟨by rfl, ?ytb17⟩) hS ?rtb17
  case ytb17 => (intro w' hS; have cf := hS.get ⟨w.heap.size, 3, none⟩ (.int .i64 z) (by simp); go_simp; try with_reducible rfl)
  go_simp
  refine wpAnyH_ready (rs := [2]) (by kernel_rfl) (by simp) ?_
  refine AllReadyH.cons (o := { dst := some 5, op := .call { callee := .value (.func 37), args := #[.tmp 4], argTypes := #[3] }, type := 9, pos := "ref.go:79", after := #[⟨1, .data⟩], guard := none }) rfl (fun K hK => ?_) AllReadyH.nil
  go_simp
  go_at_call 37
  refine (I0.out _ hS.b).mono ?_
  rintro e w' ⟨rfl, b⟩
  have hS2 := hS.next b
  clear b hS
  try go_simp
  refine hK.out _ _ hS2 (fun hS => ?_)
  clear hK K hS2
  refine wpAnyH_take (i := 3) (v := ?vtb3) rfl (by kernel_rfl) (by kernel_rfl) (by kernel_rfl) (fun _ _ _ h => h) (Or.inl ⟨by rfl, ?ytb3⟩) hS ?rtb3
  case ytb3 => (intro w hS; go_simp; try with_reducible rfl)
  go_simp
  refine wpAnyH_ready (rs := [6]) (by kernel_rfl) (by simp) ?_
  refine AllReadyH.cons (o := { dst := some 9, op := .call { callee := .value (.func 37), args := #[.tmp 8], argTypes := #[3] }, type := 9, pos := "ref.go:79", after := #[⟨5, .data⟩, ⟨2, .chain⟩], guard := none }) rfl (fun K hK => ?_) AllReadyH.nil
  go_simp
  go_at_call 37
  refine (I1.out _ hS.b).mono ?_
  rintro e w' ⟨rfl, b⟩
  have hS2 := hS.next b
  clear b hS
  try go_simp
  refine hK.out _ _ hS2 (fun hS => ?_)
  clear hK K hS2
  refine wpAnyH_take (i := 7) (v := ?vtb7) rfl (by kernel_rfl) (by kernel_rfl) (by kernel_rfl) (fun _ _ _ h => h) (Or.inl ⟨by rfl, ?ytb7⟩) hS ?rtb7
  case ytb7 => (intro w hS; go_simp; try with_reducible rfl)
  go_simp
  refine wpAnyH_take (i := 8) (v := ?vtb8) rfl (by kernel_rfl) (by kernel_rfl) (by kernel_rfl) (fun _ _ _ h => h) (Or.inl ⟨by rfl, ?ytb8⟩) hS ?rtb8
  case ytb8 => (intro w hS; go_simp; try with_reducible rfl)
  go_simp
  refine wpAnyH_ready (rs := [12]) (by kernel_rfl) (by simp) ?_
  refine AllReadyH.cons (o := { dst := some 15, op := .call { callee := .value (.func 37), args := #[.tmp 14], argTypes := #[3] }, type := 9, pos := "ref.go:79", after := #[⟨11, .data⟩, ⟨6, .chain⟩], guard := none }) rfl (fun K hK => ?_) AllReadyH.nil
  go_simp
  go_at_call 37
  refine (I2.out _ hS.b).mono ?_
  rintro e w' ⟨rfl, b⟩
  have hS2 := hS.next b
  clear b hS
  try go_simp
  refine hK.out _ _ hS2 (fun hS => ?_)
  clear hK K hS2
  refine wpAnyH_take (i := 13) (v := ?vtb13) rfl (by kernel_rfl) (by kernel_rfl) (by kernel_rfl) (fun _ _ _ h => h) (Or.inl ⟨by rfl, ?ytb13⟩) hS ?rtb13
  case ytb13 => (intro w hS; go_simp; try with_reducible rfl)
  go_simp
  refine wpAnyH_take (i := 14) (v := ?vtb14) rfl (by kernel_rfl) (by kernel_rfl) (by kernel_rfl) (fun _ _ _ h => h) (Or.inl ⟨by rfl, ?ytb14⟩) hS ?rtb14
  case ytb14 => (intro w hS; go_simp; try with_reducible rfl)
  go_simp
  refine wpAnyH_ready (rs := [18]) (by kernel_rfl) (by simp) ?_
  refine AllReadyH.cons (o := { dst := some 21, op := .call { callee := .value (.func 37), args := #[.tmp 20], argTypes := #[3] }, type := 9, pos := "ref.go:79", after := #[⟨17, .data⟩, ⟨12, .chain⟩], guard := none }) rfl (fun K hK => ?_) AllReadyH.nil
  go_simp
  go_at_call 37
  refine (I3.out _ hS.b).mono ?_
  rintro e w' ⟨rfl, b⟩
  have hS2 := hS.next b
  clear b hS
  try go_simp
  refine hK.out _ _ hS2 (fun hS => ?_)
  clear hK K hS2
  refine wpAnyH_take (i := 19) (v := ?vtb19) rfl (by kernel_rfl) (by kernel_rfl) (by kernel_rfl) (fun _ _ _ h => h) (Or.inl ⟨by rfl, ?ytb19⟩) hS ?rtb19
  case ytb19 => (intro w hS; go_simp; try with_reducible rfl)
  go_simp
  refine wpAnyH_take (i := 20) (v := ?vtb20) rfl (by kernel_rfl) (by kernel_rfl) (by kernel_rfl) (fun _ _ _ h => h) (Or.inl ⟨by rfl, ?ytb20⟩) hS ?rtb20
  case ytb20 => (intro w hS; go_simp; try with_reducible rfl)
  refine wpAnyH_done (by kernel_rfl) ?_ _
  go_wp2
  go_ret
  exact ⟨rfl, hS.b⟩
theorem Text_any (w : World) (s : Pa) (t : ByteArray) (ht : txp s = t) (hs : pi64 s) (hT : TS w) :
    Calls Tryz.prog 28 #[pav s] w fun e w' => e = .returned (.string t) ∧ Below w.heap.size w w' := by
  obtain ⟨x, v, c, z⟩ := s
  obtain ⟨hx, hv, hc, hz⟩ := hs
  subst ht
  unfold txp
  dsimp only at hx hv hc hz ⊢
  exact Text_core w x v c z (dcm x) (dcm v) (dcm c) (dcm z) (dcm_size x hx) (dcm_size v hv) (dcm_size c hc) (dcm_size z hz) (Lib.hid fun W b => itoa_any W x hx (hT.below b)) (Lib.hid fun W b => itoa_any W v hv (hT.below b)) (Lib.hid fun W b => itoa_any W c hc (hT.below b)) (Lib.hid fun W b => itoa_any W z hz (hT.below b))
theorem refText9_any (w : World) (s : Pa) (t : ByteArray) (ht : txp s = t) (hs : pi64 s) (hT : TS w) :
    Calls Tryz.prog 30 #[pav s] w fun e w' => e = .returned (.string t) ∧ Below w.heap.size w w' := by
  obtain ⟨x, v, c, z⟩ := s
  obtain ⟨hx, hv, hc, hz⟩ := hs
  subst ht
  unfold txp
  dsimp only at hx hv hc hz ⊢
  exact refText9_core w x v c z (dcm x) (dcm v) (dcm c) (dcm z) (dcm_size x hx) (dcm_size v hv) (dcm_size c hc) (dcm_size z hz) (Lib.hid fun W b => decimal9 W x hx (hT.below b)) (Lib.hid fun W b => decimal9 W v hv (hT.below b)) (Lib.hid fun W b => decimal9 W c hc (hT.below b)) (Lib.hid fun W b => decimal9 W z hz (hT.below b))
theorem take_ne {α : Type} {A B : List α} {k : Nat} {x y : α} (hx : A[k]? = some x) (hy : B[k]? = some y) (h : x ≠ y) : A ≠ B := fun e => by
  subst e; rw [hx] at hy; injection hy with e; exact h e
theorem take_eq {α : Type} {A B : List α} {k : Nat} {x : α} (h : A.take k = B.take k) (hx : A[k]? = some x) (hy : B[k]? = some x) : A.take (k+1) = B.take (k+1) := by
  rw [List.take_add_one, List.take_add_one, hx, hy, h]
set_option maxRecDepth 100000 in
set_option maxHeartbeats 2000000 in
theorem Ints9 (w : World) (av bv : Value) (A B : List Int) (hA : SLi w av A) (hB : SLi w bv B) :
    Calls Tryz.prog 27 #[av, bv] w fun e w' => e = .returned (.bool (decide (A = B))) ∧ Below w.heap.size w w' := by
  obtain ⟨⟨p, c, rfl, hc⟩, hr, hln⟩ := hA
  obtain ⟨⟨q, d, rfl, hd⟩, hs, hln2⟩ := hB
  by_cases hl : A.length = B.length
  · have HI := Lib.hid (And.intro hc hd); clear hc hd hr hs
    obtain ⟨N, hN⟩ : ∃ N, A.length = N := ⟨_, rfl⟩
    rw [hN] at hl hln
    rw [hN, ← hl]
    have HN := Lib.hid (And.intro hN hl); clear hN hl hln2
    go_enter Tryz.func27, Tryz.ntmps27
    go_wp2_with fail
    go_loopw [5] (fun i wr => ∃ (k : Nat), k ≤ N ∧ i = .int .i64 (k : Int) ∧ Hid (A.take k = B.take k ∧ Below w.heap.size w wr)) (fun i _ => N - (match i with | .int _ i => i.toNat | _ => 0))
    case atStart => exact ⟨0, Nat.zero_le _, rfl, Lib.hid ⟨by simp, Below.refl _ _⟩⟩
    case round =>
      obtain ⟨k, hk, rfl, ht⟩ := hrel
      by_cases hlt : k < N
      · obtain ⟨x, hx⟩ : ∃ x, A[k]? = some x := ⟨A[k]'(by rw [HN.out.1]; exact hlt), List.getElem?_eq_getElem _⟩
        obtain ⟨y, hy⟩ : ∃ x, B[k]? = some x := ⟨B[k]'(by rw [← HN.out.2]; exact hlt), List.getElem?_eq_getElem _⟩
        obtain ⟨b, o, hp, hcx⟩ := HI.out.1 k x hx
        obtain ⟨b2, o2, hq, hcy⟩ := HI.out.2 k y hy
        subst hp
        subst hq
        have c1 := (ht.out.2.cell (p := ⟨b, o + k, none⟩) (World.block_lt_of_cell? _ _ hcx)).trans hcx
        have c2 := (ht.out.2.cell (p := ⟨b2, o2 + k, none⟩) (World.block_lt_of_cell? _ _ hcy)).trans hcy
        by_cases e : x = y
        · subst e
          have ht2 := Lib.hid (show A.take (k+1) = B.take (k+1) ∧ Below w.heap.size w wr.drew from ⟨take_eq ht.out.1 hx hy, ht.out.2.drew⟩)
          clear hx hy hcx hcy
          go_wp2_with fail
          go_region
          go_wp2
          exact ⟨⟨k + 1, by omega, by go_num, ht2⟩, by simp; omega⟩
        · have E := Lib.hid (show decide (A = B) = false from decide_eq_false (take_ne hx hy e))
          have ht2 := Lib.hid ht.out.2.drew
          clear hx hy hcx hcy
          go_wp2_with fail
          go_region
          go_wp2
          go_ret
          exact ⟨by rw [E.out]; rfl, ht2.out⟩
      · obtain rfl : k = N := by omega
        have E := Lib.hid (show decide (A = B) = true from decide_eq_true (by
          have := ht.out.1
          rwa [List.take_of_length_le (by rw [HN.out.1]; exact Nat.le_refl _), List.take_of_length_le (by rw [← HN.out.2]; exact Nat.le_refl _)] at this))
        go_wp2
        go_ret
        exact ⟨by rw [E.out]; rfl, ht.out.2⟩
  · have E := Lib.hid (show decide (A = B) = false from decide_eq_false (fun e => hl (by rw [e])))
    have hl' : ¬ (A.length : Int) = (B.length : Int) := by omega
    clear hl hc hd
    generalize A.length = n at *
    generalize B.length = n2 at *
    go_enter Tryz.func27, Tryz.ntmps27
    go_wp2
    go_ret
    exact ⟨by rw [E.out]; rfl, Below.refl _ _⟩
end Go.Proofs.YtbfplapjjeeceaaGreatDoor.B9
namespace SH
/-- two blocks, so that the kernel computes each number once -/
def sha2E (b : List UInt8) : List UInt8 := frcS (blockE square ((b ++ pad b.length).take 64)) fun s => frcS (blockE s ((b ++ pad b.length).drop 64)) out
theorem sha_two (b : List UInt8) (h0 : 56 ≤ b.length) (h : b.length < 120) : sha b = sha2E b := by
  unfold sha sha2E
  rw [frcS_eq, frcS_eq, blockE_eq, blockE_eq]
  have h1 : (b.length + 72) / 64 = 2 := by omega
  have h2 : (b ++ pad b.length).length = 128 := by simp [pad, len8, zeros]; omega
  rw [h1]
  show out (block (block (blocks square _ 0) _) _) = _
  rw [blocks, Nat.mul_zero, List.drop_zero, List.take_of_length_le (l := (b ++ pad b.length).drop (64 * 1)) (by rw [List.length_drop]; omega)]
end SH
namespace Go.Proofs.YtbfplapjjeeceaaGreatDoor.B9
open Go.RowKit GM SH G4 E6 D7P
open W8 hiding i64 jn pX
/-- the digits of a number of at most k digits -/
def dgt : Nat → Nat → List UInt8
  | 0, _ => []
  | k+1, n => if n < 10 then [UInt8.ofNat (48 + n)] else dgt k (n / 10) ++ [UInt8.ofNat (48 + n % 10)]
theorem dgt_eq : ∀ (k n : Nat), 0 < k → n < 10^k → dgt k n = Lib.decDigits n
  | 0, _, h, _ => by omega
  | k+1, n, _, hn => by
    rw [dgt, Lib.decDigits]
    split
    · rfl
    · rename_i h
      have hk : 0 < k := by
        rcases Nat.eq_zero_or_pos k with h0 | h0
        · subst h0; simp at hn; omega
        · exact h0
      rw [dgt_eq k (n / 10) hk (by rw [Nat.pow_succ] at hn; omega)]
def twl (s : List UInt8) (l : List Nat) : List UInt8 := l.foldl (fun s n => s ++ [47] ++ dgt 20 n) s
theorem dcm_dgt (n : Nat) (h : n < 10^20) : (dcm (n : Int)).data.toList = dgt 20 n := by
  rw [dgt_eq 20 n (by decide) h]
  unfold dcm Lib.itoa
  rw [if_neg (by omega), Int.toNat_natCast]
theorem tw_list (l : List Nat) (hl : ∀ n ∈ l, n < 10^20) : ∀ s : ByteArray, (tw s (l.map (Nat.cast : Nat → Int))).data.toList = twl s.data.toList l := by
  induction l with
  | nil => intro s; rfl
  | cons a l ih =>
    intro s
    show (tw (s ++ (⟨#[47]⟩ : ByteArray) ++ dcm (a : Int)) (l.map (Nat.cast : Nat → Int))).data.toList = twl (s.data.toList ++ [47] ++ dgt 20 a) l
    rw [ih (fun n hn => hl n (by simp [hn]))]
    congr 1
    rw [ByteArray.data_append, Array.toList_append, ByteArray.data_append, Array.toList_append, dcm_dgt a (hl a (by simp))]
theorem sc_list (s : ByteArray) (l : List Nat) (hl : ∀ n ∈ l, n < 10^20) : sc (tw s (l.map (Nat.cast : Nat → Int))) = hnum (sha ([115, 47] ++ twl s.data.toList l)) % 1152921504606845789 := by
  unfold sc
  rw [ByteArray.data_append, Array.toList_append, tw_list l hl]
theorem pp_nat (b e : Nat) (he : e < 2^64) : pp (b : Int) (e : Int) = ((NM.pw 2305843009213691579 64 b e : Nat) : Int) := gp_nat b e 2305843009213691579 (by decide) he
theorem dcm_3 : dcm 3 = ⟨#[51]⟩ := by
  refine ba_ext ?_
  rw [show (3 : Int) = ((3 : Nat) : Int) from rfl, dcm_dgt _ (by decide)]
  decide +kernel
theorem bs_3 : bs 3 = 395959045349903426 := by
  unfold bs el rt
  rw [dcm_3]
  have : hnum (sha ((⟨#[101, 47]⟩ : ByteArray) ++ (wR ++ (⟨#[51]⟩ : ByteArray))).data.toList) = 4019125650583730171 := by
    rw [sha_small _ (by decide +kernel)]
    decide +kernel
  rw [this]
  decide +kernel
theorem mem_b : mem 395959045349903426 = true := by rw [← bs_3]; exact bs_mem 3
theorem k_p : nk 8 4 395959045349903426 = 666323555495277270 := by
  show sc (tw wN ([8, 4, 395959045349903426].map (Nat.cast : Nat → Int))) = _
  rw [sc_list _ _ (by decide), sha_small _ (by decide +kernel)]
  decide +kernel
theorem V_p : pp 395959045349903426 8 = 102382884631579062 := (pp_nat 395959045349903426 8 (by decide)).trans (by decide +kernel)
theorem G_p : pp 4 8 = 65536 := (pp_nat 4 8 (by decide)).trans (by decide +kernel)
theorem g_p : pp 4 666323555495277270 = 2010864775221906810 := (pp_nat 4 666323555495277270 (by decide)).trans (by decide +kernel)
theorem r_p : pp 395959045349903426 666323555495277270 = 1481970882570046920 := (pp_nat 395959045349903426 666323555495277270 (by decide)).trans (by decide +kernel)
theorem C_p : ch [4, 65536, 395959045349903426, 102382884631579062, 2010864775221906810, 1481970882570046920] = 1125051477765462390 := by
  show sc (tw wE ([4, 65536, 395959045349903426, 102382884631579062, 2010864775221906810, 1481970882570046920].map (Nat.cast : Nat → Int))) = _
  rw [sc_list _ _ (by decide), sha_two _ (by decide +kernel) (by decide +kernel)]
  decide +kernel
theorem D_p : ch [4, 16384, 395959045349903426, 102382884631579062, 1312901029696479932, 1481970882570046920] = 174218842814042049 := by
  show sc (tw wE ([4, 16384, 395959045349903426, 102382884631579062, 1312901029696479932, 1481970882570046920].map (Nat.cast : Nat → Int))) = _
  rw [sc_list _ _ (by decide), sha_two _ (by decide +kernel) (by decide +kernel)]
  decide +kernel
theorem ex_p : ex 8 = 8 := ex_id 8 (by decide)
theorem prC_p : prC 8 4 395959045349903426 = 1125051477765462390 := by
  unfold prC
  rw [if_pos ⟨mem_4, mem_b⟩, ex_p, k_p]
  unfold pvC
  rw [G_p, V_p, g_p, r_p, C_p]
theorem prZ_p : prZ 8 4 395959045349903426 = 443363340764210078 := by
  unfold prZ pvZ
  rw [if_pos ⟨mem_4, mem_b⟩, ex_p, k_p]
  unfold pvC
  rw [G_p, V_p, g_p, r_p, C_p]
  decide +kernel
theorem s_p : sd 4 16384 1125051477765462390 443363340764210078 = 1312901029696479932 := by
  have h1 : pp 4 443363340764210078 = ((NM.pw 2305843009213691579 64 4 443363340764210078 : Nat) : Int) := pp_nat 4 443363340764210078 (by decide)
  have h2 : pp 16384 (1152921504606845789 - 1125051477765462390) = ((NM.pw 2305843009213691579 64 16384 27870026841383399 : Nat) : Int) := pp_nat 16384 27870026841383399 (by decide)
  unfold sd
  rw [h1, h2]
  decide +kernel
theorem t_p : sd 395959045349903426 102382884631579062 1125051477765462390 443363340764210078 = 1481970882570046920 := by
  have h1 : pp 395959045349903426 443363340764210078 = ((NM.pw 2305843009213691579 64 395959045349903426 443363340764210078 : Nat) : Int) := pp_nat 395959045349903426 443363340764210078 (by decide)
  have h2 : pp 102382884631579062 (1152921504606845789 - 1125051477765462390) = ((NM.pw 2305843009213691579 64 102382884631579062 27870026841383399 : Nat) : Int) := pp_nat 102382884631579062 27870026841383399 (by decide)
  unfold sd
  rw [h1, h2]
  decide +kernel
theorem vf_p : vf 4 16384 (bs 3) (pp (bs 3) 8) (prC 8 4 (bs 3)) (prZ 8 4 (bs 3)) = false := by
  rw [bs_3, prC_p, prZ_p, V_p]
  unfold vf
  rw [s_p, t_p, D_p]
  have : ((1125051477765462390 : Int) == 174218842814042049) = false := by decide
  rw [this, Bool.and_false]
theorem k_q : nk 10 4 395959045349903426 = 751442576128071416 := by
  show sc (tw wN ([10, 4, 395959045349903426].map (Nat.cast : Nat → Int))) = _
  rw [sc_list _ _ (by decide), sha_small _ (by decide +kernel)]
  decide +kernel
theorem V_q : pp 395959045349903426 10 = 1708977987038452465 := (pp_nat 395959045349903426 10 (by decide)).trans (by decide +kernel)
theorem G_q : pp 4 10 = 1048576 := (pp_nat 4 10 (by decide)).trans (by decide +kernel)
theorem g_q : pp 4 751442576128071416 = 1104587238381536895 := (pp_nat 4 751442576128071416 (by decide)).trans (by decide +kernel)
theorem r_q : pp 395959045349903426 751442576128071416 = 1383066778945144865 := (pp_nat 395959045349903426 751442576128071416 (by decide)).trans (by decide +kernel)
theorem C_q : ch [4, 1048576, 395959045349903426, 1708977987038452465, 1104587238381536895, 1383066778945144865] = 1075114570468223935 := by
  show sc (tw wE ([4, 1048576, 395959045349903426, 1708977987038452465, 1104587238381536895, 1383066778945144865].map (Nat.cast : Nat → Int))) = _
  rw [sc_list _ _ (by decide), sha_two _ (by decide +kernel) (by decide +kernel)]
  decide +kernel
theorem D_q : ch [4, 262144, 395959045349903426, 1708977987038452465, 1623943396928427581, 1383066778945144865] = 803523995197351831 := by
  show sc (tw wE ([4, 262144, 395959045349903426, 1708977987038452465, 1623943396928427581, 1383066778945144865].map (Nat.cast : Nat → Int))) = _
  rw [sc_list _ _ (by decide), sha_two _ (by decide +kernel) (by decide +kernel)]
  decide +kernel
theorem ex_q : ex 10 = 10 := ex_id 10 (by decide)
theorem prC_q : prC 10 4 395959045349903426 = 1075114570468223935 := by
  unfold prC
  rw [if_pos ⟨mem_4, mem_b⟩, ex_q, k_q]
  unfold pvC
  rw [G_q, V_q, g_q, r_q, C_q]
theorem prZ_q : prZ 10 4 395959045349903426 = 1126294739348698665 := by
  unfold prZ pvZ
  rw [if_pos ⟨mem_4, mem_b⟩, ex_q, k_q]
  unfold pvC
  rw [G_q, V_q, g_q, r_q, C_q]
  decide +kernel
theorem s_q : sd 4 262144 1075114570468223935 1126294739348698665 = 1623943396928427581 := by
  have h1 : pp 4 1126294739348698665 = ((NM.pw 2305843009213691579 64 4 1126294739348698665 : Nat) : Int) := pp_nat 4 1126294739348698665 (by decide)
  have h2 : pp 262144 (1152921504606845789 - 1075114570468223935) = ((NM.pw 2305843009213691579 64 262144 77806934138621854 : Nat) : Int) := pp_nat 262144 77806934138621854 (by decide)
  unfold sd
  rw [h1, h2]
  decide +kernel
theorem t_q : sd 395959045349903426 1708977987038452465 1075114570468223935 1126294739348698665 = 1383066778945144865 := by
  have h1 : pp 395959045349903426 1126294739348698665 = ((NM.pw 2305843009213691579 64 395959045349903426 1126294739348698665 : Nat) : Int) := pp_nat 395959045349903426 1126294739348698665 (by decide)
  have h2 : pp 1708977987038452465 (1152921504606845789 - 1075114570468223935) = ((NM.pw 2305843009213691579 64 1708977987038452465 77806934138621854 : Nat) : Int) := pp_nat 1708977987038452465 77806934138621854 (by decide)
  unfold sd
  rw [h1, h2]
  decide +kernel
theorem vf_q : vf 4 262144 (bs 3) (pp (bs 3) 10) (prC 10 4 (bs 3)) (prZ 10 4 (bs 3)) = false := by
  rw [bs_3, prC_q, prZ_q, V_q]
  unfold vf
  rw [s_q, t_q, D_q]
  have : ((1075114570468223935 : Int) == 803523995197351831) = false := by decide
  rw [this, Bool.and_false]
theorem pp4 (y r : Nat) (hy : y < 2^64) (h : NM.pw 2305843009213691579 64 4 y = r) : pp 4 (y : Int) = (r : Int) := (pp_nat 4 y hy).trans (by rw [h])
/-- the keys of the examples -/
def CX : List Int := [1024, 16]
def LX : List (List Int) := [[1, 2], [3, 4, 5]]
theorem rgX : rgt CX LX := by
  refine ⟨⟨fun k l h => ?_, fun k l j x h hx => ?_⟩, by decide, by decide, by decide, ?_⟩
  · match k, h with
    | 0, h => obtain rfl : [1, 2] = l := by simpa [LX] using h
              simp
    | 1, h => obtain rfl : [3, 4, 5] = l := by simpa [LX] using h
              simp
    | k+2, h => simp [LX] at h
  · match k, h with
    | 0, h =>
      obtain rfl : [1, 2] = l := by simpa [LX] using h
      match j, hx with
      | 0, hx => obtain rfl : (1 : Int) = x := by simpa using hx
                 rfl
      | 1, hx => obtain rfl : (2 : Int) = x := by simpa using hx
                 rfl
      | j+2, hx => simp at hx
    | 1, h =>
      obtain rfl : [3, 4, 5] = l := by simpa [LX] using h
      match j, hx with
      | 0, hx => obtain rfl : (3 : Int) = x := by simpa using hx
                 rfl
      | 1, hx => obtain rfl : (4 : Int) = x := by simpa using hx
                 rfl
      | 2, hx => obtain rfl : (5 : Int) = x := by simpa using hx
                 rfl
      | j+3, hx => simp at hx
    | k+2, h => simp [LX] at h
  · have h1 : mem 1024 = true := by
      rw [← show pp 4 5 = 1024 from pp4 5 1024 (by decide) (by decide +kernel)]; exact pp_mem mem_4 5 (by decide)
    have h2 : mem 16 = true := by
      rw [← show pp 4 2 = 16 from pp4 2 16 (by decide) (by decide +kernel)]; exact pp_mem mem_4 2 (by decide)
    simp [CX, h1, h2]
theorem pw5 : pp 4 5 = 1024 := pp4 5 1024 (by decide) (by decide +kernel)
theorem pw2 : pp 4 2 = 16 := pp4 2 16 (by decide) (by decide +kernel)
theorem avX (x : Int) (_ : 0 ≤ x) : D7.av CX x = pp 4 (D7.vl [5, 2] x) := by
  have h := D7.af_pow x [5, 2] 1 0 (by decide) (by decide) (by decide)
  have e : ([5, 2] : List Int).map (pp 4) = CX := by simp [CX, pw5, pw2]
  rw [e, pp_zero] at h
  exact h
theorem vl1 : D7.vl [5, 2] 1 = 7 := by decide +kernel
theorem vl2 : D7.vl [5, 2] 2 = 9 := by decide +kernel
theorem vl4 : D7.vl [5, 2] 4 = 13 := by decide +kernel
/-- a partial of the share at a point is accepted -/
theorem vf_eval (r y : Int) (hy : 0 ≤ y ∧ y < 1152921504606845789) : vf 4 (pp 4 y) (bs r) (pp (bs r) y) (prC y 4 (bs r)) (prZ y 4 (bs r)) = true := by
  have h := vf_holds y 4 (bs r) mem_4 (bs_mem r)
  rwa [ex_id y hy] at h
/-- the partials of the examples -/
def pX (x y : Int) : Pa := (x, pp (bs 3) y, prC y 4 (bs 3), prZ y 4 (bs 3))
theorem evX (x y : Int) (h : 1 ≤ x ∧ x ≤ 60 ∧ 0 ≤ y ∧ y < 1152921504606845789) : evl x y 3 = pX x y := evl_yes x y 3 h
theorem accX (x y : Int) (h : 1 ≤ x ∧ x ≤ 5) (hy : 0 ≤ y ∧ y < 1152921504606845789) (hv : D7.vl [5, 2] x = y) : acc CX (many LX : Nat) 3 (pX x y) = true := by
  unfold acc pX
  dsimp only
  rw [decide_eq_true h.1, decide_eq_true (show x ≤ ((many LX : Nat) : Int) from h.2), avX x (by omega), hv, vf_eval 3 y hy]; rfl
theorem acc_17 : acc CX (many LX : Nat) 3 (pX 1 7) = true := accX 1 7 (by decide) (by decide) vl1
theorem acc_413 : acc CX (many LX : Nat) 3 (pX 4 13) = true := accX 4 13 (by decide) (by decide) vl4
theorem acc_29 : acc CX (many LX : Nat) 3 (pX 2 9) = true := accX 2 9 (by decide) (by decide) vl2
theorem acc_210 : acc CX (many LX : Nat) 3 (pX 2 10) = false := by
  unfold acc pX
  dsimp only
  rw [avX 2 (by decide), vl2, show pp 4 9 = 262144 from pp4 9 262144 (by decide) (by decide +kernel), vf_q, Bool.and_false]
theorem acc_18 : acc CX (many LX : Nat) 3 (pX 1 8) = false := by
  unfold acc pX
  dsimp only
  rw [avX 1 (by decide), vl1, show pp 4 7 = 16384 from pp4 7 16384 (by decide) (by decide +kernel), vf_p, Bool.and_false]
theorem flt_nil (f : Pa → Bool) : ([] : List Pa).filter f = [] := rfl
theorem flt_yes {f : Pa → Bool} {s : Pa} (h : f s = true) (l : List Pa) : (s :: l).filter f = s :: l.filter f := by rw [List.filter_cons, h]; rfl
theorem flt_no {f : Pa → Bool} {s : Pa} (h : f s = false) (l : List Pa) : (s :: l).filter f = l.filter f := by rw [List.filter_cons, h]; rfl
/-- the first of two partials with one point counts alone -/
theorem und_two (s : Pa) : und [s, s] = [s] := by
  show (if frs [s, s] 0 then s :: (if frs [s, s] 1 then [s] else []) else if frs [s, s] 1 then [s] else []) = [s]
  have h0 : frs [s, s] 0 = true := rfl
  have h1 : frs [s, s] 1 = false := by
    show (!([s.1] : List Int).contains s.1) = false
    simp
  rw [h0, h1]; rfl
theorem neg_f {f : Pa → Bool} {s : Pa} {b : Bool} (h : f s = b) : (fun t => !f t) s = !b := by show (!f s) = !b; rw [h]
/-- two right partials at different points lead to the power with 5 -/
theorem lfX (x1 y1 x2 y2 : Int) (h1 : 1 ≤ x1 ∧ x1 ≤ 5) (h2 : 1 ≤ x2 ∧ x2 ≤ 5) (hne : x1 ≠ x2) (v1 : D7.vl [5, 2] x1 = y1) (v2 : D7.vl [5, 2] x2 = y2) : lf 2 (prs [pX x1 y1, pX x2 y2]) = pp (bs 3) 5 := by
  have hm : ∀ y, 0 ≤ y → mem (pp (bs 3) y) = true := fun y hy => pp_mem (bs_mem 3) y hy
  have hy1 : 0 ≤ y1 := by rw [← v1]; exact (D7.vl_rng _ _).1
  have hy2 : 0 ≤ y2 := by rw [← v2]; exact (D7.vl_rng _ _).1
  have e : prs [pX x1 y1, pX x2 y2] = [(x1, pp (bs 3) y1), (x2, pp (bs 3) y2)] := rfl
  rw [e]
  have hc : cnt mem [(x1, pp (bs 3) y1), (x2, pp (bs 3) y2)] = [(x1, pp (bs 3) y1), (x2, pp (bs 3) y2)] := cnt_self _ (fun s hs => by
    simp only [List.mem_cons, List.not_mem_nil, or_false] at hs
    rcases hs with rfl | rfl
    · exact ⟨h1.1, by show x1 < _; omega, hm y1 hy1⟩
    · exact ⟨h2.1, by show x2 < _; omega, hm y2 hy2⟩) (by simp [hne])
  have he : enough mem 2 [(x1, pp (bs 3) y1), (x2, pp (bs 3) y2)] = true := enough_yes (by decide) (by rw [hc]; simp)
  unfold lf
  rw [he, if_pos rfl]
  unfold W8.pX W8.pY
  rw [hc]
  have hj := jl_const (bs_mem 3) [5, 2] [x1, x2] ⟨fun x hx => by simp at hx; rcases hx with rfl | rfl <;> omega, by simp [hne]⟩ (Nat.le_refl _) (by decide)
  simp only [List.map_cons, List.map_nil, v1, v2] at hj
  exact hj
theorem txp_0 : txp (0, 0, 0, 0) = ⟨#[48, 32, 48, 32, 48, 32, 48]⟩ := by
  have h : dcm 0 = ⟨#[48]⟩ := by decide +kernel
  unfold txp
  dsimp only
  rw [h]
  decide +kernel
end Go.Proofs.YtbfplapjjeeceaaGreatDoor.B9
