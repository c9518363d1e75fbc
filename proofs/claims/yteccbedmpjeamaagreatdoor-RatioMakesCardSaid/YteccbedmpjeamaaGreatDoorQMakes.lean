/-
  The walk of the law RatioMakes.
-/
import Derived.Test.YteccbedmpjeamaaGreatDoorQRefK
import Derived.Test.YteccbedmpjeamaaGreatDoorQSan
namespace Go.Proofs.YteccbedmpjeamaaGreatDoor
open Go.RowKit NM QM
set_option maxRecDepth 100000 in
set_option maxHeartbeats 8000000 in
theorem makes_core (w : World) (neg : Bool) (s0 s1 A B X D : ByteArray) (m0 m1 k : Nat) (n x : Int) (g1 g2 g3 ok1 ok2 : Bool) (a1 b1 a2 b2 a3 b3 : ByteArray)
    (h01 : min (s0.size : Int) 20 = (m0 : Int)) (h02 : (m0 : Int) ≤ (s0.size : Int)) (h03 : (0 : Int) ≤ (m0 : Int)) (h04 : s0.extract 0 m0 = A)
    (h11 : min (s1.size : Int) 20 = (m1 : Int)) (h12 : (m1 : Int) ≤ (s1.size : Int)) (h13 : (0 : Int) ≤ (m1 : Int)) (h14 : s1.extract 0 m1 = B)
    (hA : A.size ≤ 20) (hk : 1 + (A.size : Int) = (k : Int))
    (SA : Hid (∀ W (_ : Tp W), Calls Tryz.prog 10 #[] W fun e w' => e = .returned (.bool true) ∧ Below W.heap.size W w'))
    (M1 : Hid (∀ W (_ : Tp W), Calls Tryz.prog 32 #[.bool neg, .string A, .string B] W fun e w' => e = .returned (.tuple #[.agg (rrow g1 a1 b1), .bool ok1]) ∧ Below W.heap.size W w'))
    (R1 : Hid (∀ W, Calls Tryz.prog 33 #[.bool neg, .string A, .string B] W fun e w' => e = .returned (.tuple #[.agg (rrow g1 a1 b1), .bool ok1]) ∧ Below W.heap.size W w'))
    (MD : Hid (∀ W, Calls Tryz.prog 35 #[.int .i64 n, .int .i64 1099511627776] W fun e w' => e = .returned (.int .i64 x) ∧ w' = W))
    (O1 : Hid (∀ W, Calls Tryz.prog 34 #[.int .i64 x] W fun e w' => e = .returned (.string X) ∧ Below W.heap.size W w'))
    (O2 : Hid (∀ W, Calls Tryz.prog 34 #[.int .i64 (k : Int)] W fun e w' => e = .returned (.string D) ∧ Below W.heap.size W w'))
    (M2 : Hid (∀ W (_ : Tp W), Calls Tryz.prog 32 #[.bool neg, .string X, .string D] W fun e w' => e = .returned (.tuple #[.agg (rrow g2 a2 b2), .bool ok2]) ∧ Below W.heap.size W w'))
    (R2 : Hid (∀ W, Calls Tryz.prog 33 #[.bool neg, .string X, .string D] W fun e w' => e = .returned (.tuple #[.agg (rrow g2 a2 b2), .bool ok2]) ∧ Below W.heap.size W w'))
    (QO : Hid (∀ W, Calls Tryz.prog 36 #[.int .i64 n] W fun e w' => e = .returned (.agg (rrow g3 a3 b3)) ∧ Below W.heap.size W w'))
    (RO : Hid (∀ W, Calls Tryz.prog 37 #[.int .i64 n] W fun e w' => e = .returned (.agg (rrow g3 a3 b3)) ∧ Below W.heap.size W w'))
    (RT : Hid (∀ W (_ : Tp W), Calls Tryz.prog 26 #[.agg (rrow g3 a3 b3)] W fun e w' => e = .returned (.bool true) ∧ Below W.heap.size W w'))
    (hT : Tp w) :
    Calls Tryz.prog 5 #[.bool neg, .agg #[.string s0, .string s1], .int .i64 n] w fun e w' => e = .returned (.bool true) ∧ Below w.heap.size w w' := by
  obtain ⟨W, hW⟩ : ∃ W, w.alloc (.cells #[.string s0, .string s1] 40) = W := ⟨_, rfl⟩
  have hb : Below w.heap.size w W := by rw [← hW]; exact (Below.refl w.heap.size w).alloc (Nat.le_refl _) _
  have e0 : W.cell? ⟨w.heap.size, 0, none⟩ = some (.string s0) := by rw [← hW]; exact World.cell?_alloc_at _ _ _ _ rfl
  have e1 : W.cell? ⟨w.heap.size, 1, none⟩ = some (.string s1) := by rw [← hW]; exact World.cell?_alloc_at _ _ _ _ rfl
  have hlt : w.heap.size < W.heap.size := by rw [← hW]; simp
  have H0 := Lib.hid (show KB w [] W from ⟨fun x hx => (by cases hx), hb, hT.below hb⟩)
  have E0 := Lib.hid (And.intro hlt (And.intro e0 e1))
  clear hb e0 e1 hlt hT
  go_enter Tryz.func5, Tryz.ntmps5
  go_upto_region 1 with fail
  clear hW
  go_wp2_with fail
  refine (SA.out _ H0.out.t).mono ?_
  rintro e u1 ⟨rfl, b⟩
  have EB := Lib.hid b
  have H1 := Lib.hid (H0.out.next b); clear b H0
  have e0 : u1.cell? ⟨w.heap.size, 0, none⟩ = some (.string s0) := (EB.out.cell (p := ⟨w.heap.size, 0, none⟩) E0.out.1).trans E0.out.2.1
  have e1 : u1.cell? ⟨w.heap.size, 1, none⟩ = some (.string s1) := (EB.out.cell (p := ⟨w.heap.size, 1, none⟩) E0.out.1).trans E0.out.2.2
  go_wp2_with fail
  refine (M1.out _ H1.out.t).mono ?_
  rintro e u2 ⟨rfl, b⟩
  have H2 := Lib.hid (H1.out.next b); clear b H1
  clear e0 e1 E0 EB
  go_upto_region 5 with (refine wpList_store_row rfl 26 (.tmp 10) (.tmp 38) rfl u2.heap.size (rrow g1 a1 b1) rfl rfl 26 zrow (heap_alloc_new _ _) (rinfo _ _ _).out rfl (rone _ _ _) ?_)
  try change Code.wp _ _ _ _ ((u2.alloc (.cells zrow 26)).setRow u2.heap.size (rrow g1 a1 b1))
  rw [World.setRow_alloc_new u2 zrow (rrow g1 a1 b1) 26]
  have H3 := Lib.hid (H2.out.push (rrow g1 a1 b1)); clear H2
  generalize hq : u2.alloc (.cells (rrow g1 a1 b1) 26) = u3 at *
  clear hq
  obtain ⟨p3, hp⟩ : ∃ p, u2.heap.size = p := ⟨_, rfl⟩
  rw [hp] at H3 ⊢
  clear hp
  go_wp2_with fail
  refine (R1.out _).mono ?_
  rintro e u4 ⟨rfl, b⟩
  have H4 := Lib.hid (H3.out.next b); clear b H3
  go_upto_region 6 with (refine wpList_store_row rfl 26 (.tmp 12) (.tmp 45) rfl u4.heap.size (rrow g1 a1 b1) rfl rfl 26 zrow (heap_alloc_new _ _) (rinfo _ _ _).out rfl (rone _ _ _) ?_)
  try change Code.wp _ _ _ _ ((u4.alloc (.cells zrow 26)).setRow u4.heap.size (rrow g1 a1 b1))
  rw [World.setRow_alloc_new u4 zrow (rrow g1 a1 b1) 26]
  have H5 := Lib.hid (H4.out.push (rrow g1 a1 b1)); clear H4
  generalize hq : u4.alloc (.cells (rrow g1 a1 b1) 26) = u5 at *
  clear hq
  obtain ⟨p5, hp⟩ : ∃ p, u4.heap.size = p := ⟨_, rfl⟩
  rw [hp] at H5 ⊢
  clear hp
  go_wp2_with fail
  refine (MD.out _).mono ?_
  rintro e u6 ⟨rfl, rfl⟩
  go_wp2_with fail
  refine (O1.out _).mono ?_
  rintro e u7 ⟨rfl, b⟩
  have H7 := Lib.hid (H5.out.next b); clear b H5
  go_wp2_with fail
  refine (O2.out _).mono ?_
  rintro e u8 ⟨rfl, b⟩
  have H8 := Lib.hid (H7.out.next b); clear b H7
  go_wp2_with fail
  refine (M2.out _ H8.out.t).mono ?_
  rintro e u9 ⟨rfl, b⟩
  have H9 := Lib.hid (H8.out.next b); clear b H8
  go_upto_region 7 with (refine wpList_store_row rfl 26 (.tmp 14) (.tmp 57) rfl u9.heap.size (rrow g2 a2 b2) rfl rfl 26 zrow (heap_alloc_new _ _) (rinfo _ _ _).out rfl (rone _ _ _) ?_)
  try change Code.wp _ _ _ _ ((u9.alloc (.cells zrow 26)).setRow u9.heap.size (rrow g2 a2 b2))
  rw [World.setRow_alloc_new u9 zrow (rrow g2 a2 b2) 26]
  have H10 := Lib.hid (H9.out.push (rrow g2 a2 b2)); clear H9
  generalize hq : u9.alloc (.cells (rrow g2 a2 b2) 26) = u10 at *
  clear hq
  obtain ⟨p10, hp⟩ : ∃ p, u9.heap.size = p := ⟨_, rfl⟩
  rw [hp] at H10 ⊢
  clear hp
  go_wp2_with fail
  refine (MD.out _).mono ?_
  rintro e u11 ⟨rfl, rfl⟩
  go_wp2_with fail
  refine (O1.out _).mono ?_
  rintro e u12 ⟨rfl, b⟩
  have H12 := Lib.hid (H10.out.next b); clear b H10
  go_wp2_with fail
  refine (O2.out _).mono ?_
  rintro e u13 ⟨rfl, b⟩
  have H13 := Lib.hid (H12.out.next b); clear b H12
  go_wp2_with fail
  refine (R2.out _).mono ?_
  rintro e u14 ⟨rfl, b⟩
  have H14 := Lib.hid (H13.out.next b); clear b H13
  go_upto_region 8 with (refine wpList_store_row rfl 26 (.tmp 16) (.tmp 69) rfl u14.heap.size (rrow g2 a2 b2) rfl rfl 26 zrow (heap_alloc_new _ _) (rinfo _ _ _).out rfl (rone _ _ _) ?_)
  try change Code.wp _ _ _ _ ((u14.alloc (.cells zrow 26)).setRow u14.heap.size (rrow g2 a2 b2))
  rw [World.setRow_alloc_new u14 zrow (rrow g2 a2 b2) 26]
  have H15 := Lib.hid (H14.out.push (rrow g2 a2 b2)); clear H14
  generalize hq : u14.alloc (.cells (rrow g2 a2 b2) 26) = u15 at *
  clear hq
  obtain ⟨p15, hp⟩ : ∃ p, u14.heap.size = p := ⟨_, rfl⟩
  rw [hp] at H15 ⊢
  clear hp
  have rc := H15.out.row (p := p3) (cs := rrow g1 a1 b1) (by simp)
  have c0 : u15.cell? ⟨p3, 0, none⟩ = some (.bool g1) := cell_of_row _ _ 0 _ _ _ rc
  have c1 : u15.cell? ⟨p3, 1, none⟩ = some (.string a1) := cell_of_row _ _ 1 _ _ _ rc
  have c2 : u15.cell? ⟨p3, 2, none⟩ = some (.string b1) := cell_of_row _ _ 2 _ _ _ rc
  clear rc
  have rd := H15.out.row (p := p5) (cs := rrow g1 a1 b1) (by simp)
  have d0 : u15.cell? ⟨p5, 0, none⟩ = some (.bool g1) := cell_of_row _ _ 0 _ _ _ rd
  have d1 : u15.cell? ⟨p5, 1, none⟩ = some (.string a1) := cell_of_row _ _ 1 _ _ _ rd
  have d2 : u15.cell? ⟨p5, 2, none⟩ = some (.string b1) := cell_of_row _ _ 2 _ _ _ rd
  clear rd
  have rf := H15.out.row (p := p10) (cs := rrow g2 a2 b2) (by simp)
  have f0 : u15.cell? ⟨p10, 0, none⟩ = some (.bool g2) := cell_of_row _ _ 0 _ _ _ rf
  have f1 : u15.cell? ⟨p10, 1, none⟩ = some (.string a2) := cell_of_row _ _ 1 _ _ _ rf
  have f2 : u15.cell? ⟨p10, 2, none⟩ = some (.string b2) := cell_of_row _ _ 2 _ _ _ rf
  clear rf
  have ri := H15.out.row (p := p15) (cs := rrow g2 a2 b2) (by simp)
  have i0 : u15.cell? ⟨p15, 0, none⟩ = some (.bool g2) := cell_of_row _ _ 0 _ _ _ ri
  have i1 : u15.cell? ⟨p15, 1, none⟩ = some (.string a2) := cell_of_row _ _ 1 _ _ _ ri
  have i2 : u15.cell? ⟨p15, 2, none⟩ = some (.string b2) := cell_of_row _ _ 2 _ _ _ ri
  clear ri
  unfold rrow at QO RO RT
  go_wp2_with fail
  refine (QO.out _).mono ?_
  rintro e u16 ⟨rfl, b⟩
  have H16 := Lib.hid (H15.out.next b); clear b H15
  clear c0 c1 c2 d0 d1 d2 f0 f1 f2 i0 i1 i2
  go_wp2_with fail
  refine (RO.out _).mono ?_
  rintro e u17 ⟨rfl, b⟩
  have H17 := Lib.hid (H16.out.next b); clear b H16
  go_wp2_with fail
  refine (QO.out _).mono ?_
  rintro e u18 ⟨rfl, b⟩
  have H18 := Lib.hid (H17.out.next b); clear b H17
  go_wp2_with fail
  refine (RT.out _ H18.out.t).mono ?_
  rintro e u19 ⟨rfl, b⟩
  have H19 := Lib.hid (H18.out.next b); clear b H18
  go_wp2
  go_ret
  exact ⟨rfl, H19.out.b⟩
theorem cut20 (t : ByteArray) : ∃ m : Nat, min (t.size : Int) 20 = (m : Int) ∧ m ≤ t.size ∧ (t.extract 0 m).size ≤ 20 :=
  ⟨min t.size 20, by omega, by omega, by rw [ByteArray.size_extract]; omega⟩
end Go.Proofs.YteccbedmpjeamaaGreatDoor
