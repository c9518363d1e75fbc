/-
  The walk of the law RatioMakes.
  The law RatioMakes walked for every input.
  The walk of the law RatioRaw: two numbers of any parts, each part cut to 20 bytes.
  The law RatioRaw walked for every input.
-/
import Derived.Test.YteccbedmpjeamaaGreatDoorQG
import Derived.Test.YteccbedmpjeamaaGreatDoorQSan
import Derived.Test.YteccbedmpjeamaaGreatDoorQCmp
namespace Go.Proofs.YteccbedmpjeamaaGreatDoor
open Go.RowKit NM QM
set_option maxRecDepth 100000 in
set_option maxHeartbeats 8000000 in
theorem makes_core (w : World) (neg : Bool) (s0 s1 A B X D : ByteArray) (m0 m1 k : Nat) (n x : Int) (g1 g2 g3 ok1 ok2 : Bool) (a1 b1 a2 b2 a3 b3 : ByteArray)
    (h01 : min (s0.size : Int) 20 = (m0 : Int)) (h02 : (m0 : Int) ≤ (s0.size : Int)) (h03 : (0 : Int) ≤ (m0 : Int)) (h04 : s0.extract 0 m0 = A)
    (h11 : min (s1.size : Int) 20 = (m1 : Int)) (h12 : (m1 : Int) ≤ (s1.size : Int)) (h13 : (0 : Int) ≤ (m1 : Int)) (h14 : s1.extract 0 m1 = B)
    (hA : A.size ≤ 20) (hk : 1 + (A.size : Int) = (k : Int))
    (SA : Hid (∀ W (_ : Tp W), Calls Tryz.prog 10 #[] W fun e w' => e = .returned (.bool true) ∧ Below W.heap.size W w'))
    (M1 : Hid (∀ W (_ : Tp W), Calls Tryz.prog 32 #[.bool neg, .string A, .string B] W fun e w' => e = .returned (.tuple #[.agg (rrow g1 a1 b1), .bool ok1]) ∧ Below W.heap.size W w'))
    (R1 : Hid (∀ W, Calls Tryz.prog 33 #[.bool neg, .string A, .string B] W fun e w' => e = .returned (.tuple #[.agg (rrow g1 a1 b1), .bool ok1]) ∧ Below W.heap.size W w'))
    (MD : Hid (∀ W, Calls Tryz.prog 35 #[.int .i64 n, .int .i64 1099511627776] W fun e w' => e = .returned (.int .i64 x) ∧ w' = W))
    (O1 : Hid (∀ W, Calls Tryz.prog 34 #[.int .i64 x] W fun e w' => e = .returned (.string X) ∧ Below W.heap.size W w'))
    (O2 : Hid (∀ W, Calls Tryz.prog 34 #[.int .i64 (k : Int)] W fun e w' => e = .returned (.string D) ∧ Below W.heap.size W w'))
    (M2 : Hid (∀ W (_ : Tp W), Calls Tryz.prog 32 #[.bool neg, .string X, .string D] W fun e w' => e = .returned (.tuple #[.agg (rrow g2 a2 b2), .bool ok2]) ∧ Below W.heap.size W w'))
    (R2 : Hid (∀ W, Calls Tryz.prog 33 #[.bool neg, .string X, .string D] W fun e w' => e = .returned (.tuple #[.agg (rrow g2 a2 b2), .bool ok2]) ∧ Below W.heap.size W w'))
    (QO : Hid (∀ W, Calls Tryz.prog 36 #[.int .i64 n] W fun e w' => e = .returned (.agg (rrow g3 a3 b3)) ∧ Below W.heap.size W w'))
    (RO : Hid (∀ W, Calls Tryz.prog 37 #[.int .i64 n] W fun e w' => e = .returned (.agg (rrow g3 a3 b3)) ∧ Below W.heap.size W w'))
    (RT : Hid (∀ W (_ : Tp W), Calls Tryz.prog 26 #[.agg (rrow g3 a3 b3)] W fun e w' => e = .returned (.bool true) ∧ Below W.heap.size W w'))
    (hT : Tp w) :
    Calls Tryz.prog 5 #[.bool neg, .agg #[.string s0, .string s1], .int .i64 n] w fun e w' => e = .returned (.bool true) ∧ Below w.heap.size w w' := by
  obtain ⟨W, hW⟩ : ∃ W, w.alloc (.cells #[.string s0, .string s1] 40) = W := ⟨_, rfl⟩
  have hb : Below w.heap.size w W := by rw [← hW]; exact (Below.refl w.heap.size w).alloc (Nat.le_refl _) _
  have e0 : W.cell? ⟨w.heap.size, 0, none⟩ = some (.string s0) := by rw [← hW]; exact World.cell?_alloc_at _ _ _ _ rfl
  have e1 : W.cell? ⟨w.heap.size, 1, none⟩ = some (.string s1) := by rw [← hW]; exact World.cell?_alloc_at _ _ _ _ rfl
  have hlt : w.heap.size < W.heap.size := by rw [← hW]; simp
  have H0 := Lib.hid (show KB w [] W from ⟨fun x hx => (by cases hx), hb, hT.below hb⟩)
  have E0 := Lib.hid (And.intro hlt (And.intro e0 e1))
  clear hb e0 e1 hlt hT
  go_enter Tryz.func5, Tryz.ntmps5
  go_upto_region 1 with fail
  clear hW
  go_wp2_with fail
  refine (SA.out _ H0.out.t).mono ?_
  rintro e u1 ⟨rfl, b⟩
  have EB := Lib.hid b
  have H1 := Lib.hid (H0.out.next b); clear b H0
  have e0 : u1.cell? ⟨w.heap.size, 0, none⟩ = some (.string s0) := (EB.out.cell (p := ⟨w.heap.size, 0, none⟩) E0.out.1).trans E0.out.2.1
  have e1 : u1.cell? ⟨w.heap.size, 1, none⟩ = some (.string s1) := (EB.out.cell (p := ⟨w.heap.size, 1, none⟩) E0.out.1).trans E0.out.2.2
  go_wp2_with fail
  refine (M1.out _ H1.out.t).mono ?_
  rintro e u2 ⟨rfl, b⟩
  have H2 := Lib.hid (H1.out.next b); clear b H1
  clear e0 e1 E0 EB
  go_upto_region 5 with (refine wpList_store_row rfl 26 (.tmp 10) (.tmp 38) rfl u2.heap.size (rrow g1 a1 b1) rfl rfl 26 zrow (heap_alloc_new _ _) (rinfo _ _ _).out rfl (rone _ _ _) ?_)
  try change Code.wp _ _ _ _ ((u2.alloc (.cells zrow 26)).setRow u2.heap.size (rrow g1 a1 b1))
  rw [World.setRow_alloc_new u2 zrow (rrow g1 a1 b1) 26]
  have H3 := Lib.hid (H2.out.push (rrow g1 a1 b1)); clear H2
  generalize hq : u2.alloc (.cells (rrow g1 a1 b1) 26) = u3 at *
  clear hq
  obtain ⟨p3, hp⟩ : ∃ p, u2.heap.size = p := ⟨_, rfl⟩
  rw [hp] at H3 ⊢
  clear hp
  go_wp2_with fail
  refine (R1.out _).mono ?_
  rintro e u4 ⟨rfl, b⟩
  have H4 := Lib.hid (H3.out.next b); clear b H3
  go_upto_region 6 with (refine wpList_store_row rfl 26 (.tmp 12) (.tmp 45) rfl u4.heap.size (rrow g1 a1 b1) rfl rfl 26 zrow (heap_alloc_new _ _) (rinfo _ _ _).out rfl (rone _ _ _) ?_)
  try change Code.wp _ _ _ _ ((u4.alloc (.cells zrow 26)).setRow u4.heap.size (rrow g1 a1 b1))
  rw [World.setRow_alloc_new u4 zrow (rrow g1 a1 b1) 26]
  have H5 := Lib.hid (H4.out.push (rrow g1 a1 b1)); clear H4
  generalize hq : u4.alloc (.cells (rrow g1 a1 b1) 26) = u5 at *
  clear hq
  obtain ⟨p5, hp⟩ : ∃ p, u4.heap.size = p := ⟨_, rfl⟩
  rw [hp] at H5 ⊢
  clear hp
  go_wp2_with fail
  refine (MD.out _).mono ?_
  rintro e u6 ⟨rfl, rfl⟩
  go_wp2_with fail
  refine (O1.out _).mono ?_
  rintro e u7 ⟨rfl, b⟩
  have H7 := Lib.hid (H5.out.next b); clear b H5
  go_wp2_with fail
  refine (O2.out _).mono ?_
  rintro e u8 ⟨rfl, b⟩
  have H8 := Lib.hid (H7.out.next b); clear b H7
  go_wp2_with fail
  refine (M2.out _ H8.out.t).mono ?_
  rintro e u9 ⟨rfl, b⟩
  have H9 := Lib.hid (H8.out.next b); clear b H8
  go_upto_region 7 with (refine wpList_store_row rfl 26 (.tmp 14) (.tmp 57) rfl u9.heap.size (rrow g2 a2 b2) rfl rfl 26 zrow (heap_alloc_new _ _) (rinfo _ _ _).out rfl (rone _ _ _) ?_)
  try change Code.wp _ _ _ _ ((u9.alloc (.cells zrow 26)).setRow u9.heap.size (rrow g2 a2 b2))
  rw [World.setRow_alloc_new u9 zrow (rrow g2 a2 b2) 26]
  have H10 := Lib.hid (H9.out.push (rrow g2 a2 b2)); clear H9
  generalize hq : u9.alloc (.cells (rrow g2 a2 b2) 26) = u10 at *
  clear hq
  obtain ⟨p10, hp⟩ : ∃ p, u9.heap.size = p := ⟨_, rfl⟩
  rw [hp] at H10 ⊢
  clear hp
  go_wp2_with fail
  refine (MD.out _).mono ?_
  rintro e u11 ⟨rfl, rfl⟩
  go_wp2_with fail
  refine (O1.out _).mono ?_
  rintro e u12 ⟨rfl, b⟩
  have H12 := Lib.hid (H10.out.next b); clear b H10
  go_wp2_with fail
  refine (O2.out _).mono ?_
  rintro e u13 ⟨rfl, b⟩
  have H13 := Lib.hid (H12.out.next b); clear b H12
  go_wp2_with fail
  refine (R2.out _).mono ?_
  rintro e u14 ⟨rfl, b⟩
  have H14 := Lib.hid (H13.out.next b); clear b H13
  go_upto_region 8 with (refine wpList_store_row rfl 26 (.tmp 16) (.tmp 69) rfl u14.heap.size (rrow g2 a2 b2) rfl rfl 26 zrow (heap_alloc_new _ _) (rinfo _ _ _).out rfl (rone _ _ _) ?_)
  try change Code.wp _ _ _ _ ((u14.alloc (.cells zrow 26)).setRow u14.heap.size (rrow g2 a2 b2))
  rw [World.setRow_alloc_new u14 zrow (rrow g2 a2 b2) 26]
  have H15 := Lib.hid (H14.out.push (rrow g2 a2 b2)); clear H14
  generalize hq : u14.alloc (.cells (rrow g2 a2 b2) 26) = u15 at *
  clear hq
  obtain ⟨p15, hp⟩ : ∃ p, u14.heap.size = p := ⟨_, rfl⟩
  rw [hp] at H15 ⊢
  clear hp
  have rc := H15.out.row (p := p3) (cs := rrow g1 a1 b1) (by simp)
  have c0 : u15.cell? ⟨p3, 0, none⟩ = some (.bool g1) := cell_of_row _ _ 0 _ _ _ rc
  have c1 : u15.cell? ⟨p3, 1, none⟩ = some (.string a1) := cell_of_row _ _ 1 _ _ _ rc
  have c2 : u15.cell? ⟨p3, 2, none⟩ = some (.string b1) := cell_of_row _ _ 2 _ _ _ rc
  clear rc
  have rd := H15.out.row (p := p5) (cs := rrow g1 a1 b1) (by simp)
  have d0 : u15.cell? ⟨p5, 0, none⟩ = some (.bool g1) := cell_of_row _ _ 0 _ _ _ rd
  have d1 : u15.cell? ⟨p5, 1, none⟩ = some (.string a1) := cell_of_row _ _ 1 _ _ _ rd
  have d2 : u15.cell? ⟨p5, 2, none⟩ = some (.string b1) := cell_of_row _ _ 2 _ _ _ rd
  clear rd
  have rf := H15.out.row (p := p10) (cs := rrow g2 a2 b2) (by simp)
  have f0 : u15.cell? ⟨p10, 0, none⟩ = some (.bool g2) := cell_of_row _ _ 0 _ _ _ rf
  have f1 : u15.cell? ⟨p10, 1, none⟩ = some (.string a2) := cell_of_row _ _ 1 _ _ _ rf
  have f2 : u15.cell? ⟨p10, 2, none⟩ = some (.string b2) := cell_of_row _ _ 2 _ _ _ rf
  clear rf
  have ri := H15.out.row (p := p15) (cs := rrow g2 a2 b2) (by simp)
  have i0 : u15.cell? ⟨p15, 0, none⟩ = some (.bool g2) := cell_of_row _ _ 0 _ _ _ ri
  have i1 : u15.cell? ⟨p15, 1, none⟩ = some (.string a2) := cell_of_row _ _ 1 _ _ _ ri
  have i2 : u15.cell? ⟨p15, 2, none⟩ = some (.string b2) := cell_of_row _ _ 2 _ _ _ ri
  clear ri
  unfold rrow at QO RO RT
  go_wp2_with fail
  refine (QO.out _).mono ?_
  rintro e u16 ⟨rfl, b⟩
  have H16 := Lib.hid (H15.out.next b); clear b H15
  clear c0 c1 c2 d0 d1 d2 f0 f1 f2 i0 i1 i2
  go_wp2_with fail
  refine (RO.out _).mono ?_
  rintro e u17 ⟨rfl, b⟩
  have H17 := Lib.hid (H16.out.next b); clear b H16
  go_wp2_with fail
  refine (QO.out _).mono ?_
  rintro e u18 ⟨rfl, b⟩
  have H18 := Lib.hid (H17.out.next b); clear b H17
  go_wp2_with fail
  refine (RT.out _ H18.out.t).mono ?_
  rintro e u19 ⟨rfl, b⟩
  have H19 := Lib.hid (H18.out.next b); clear b H18
  go_wp2
  go_ret
  exact ⟨rfl, H19.out.b⟩
theorem cut20 (t : ByteArray) : ∃ m : Nat, min (t.size : Int) 20 = (m : Int) ∧ m ≤ t.size ∧ (t.extract 0 m).size ≤ 20 :=
  ⟨min t.size 20, by omega, by omega, by rw [ByteArray.size_extract]; omega⟩
end Go.Proofs.YteccbedmpjeamaaGreatDoor
namespace Go.Proofs.YteccbedmpjeamaaGreatDoor
open Go.RowKit NM QM
theorem int_eight (n : Int) (h : -9223372036854775808 ≤ n ∧ n ≤ 9223372036854775807) : SmQ 8 (n : Rat) := by
  have q8 : (256 : Nat)^8 = 18446744073709551616 := by decide
  exact ⟨by rw [Rat.num_intCast]; omega, by rw [Rat.den_intCast]; omega⟩
theorem zrow_rrow : (Value.agg zrow) = .agg (rrow false ⟨#[]⟩ ⟨#[]⟩) := rfl
theorem QV_rrow (q : Rat) : QV q = .agg (rrow (decide (q.num < 0)) (NB q.num.natAbs) (NB q.den)) := rfl
theorem makes_mid (w : World) (neg : Bool) (s0 s1 A B : ByteArray) (m0 m1 : Nat) (n : Int) (g1 ok1 : Bool) (a1 b1 : ByteArray) (hn : -9223372036854775808 ≤ n ∧ n ≤ 9223372036854775807)
    (h01 : min (s0.size : Int) 20 = (m0 : Int)) (h02 : (m0 : Int) ≤ (s0.size : Int)) (h03 : (0 : Int) ≤ (m0 : Int)) (h04 : s0.extract 0 m0 = A)
    (h11 : min (s1.size : Int) 20 = (m1 : Int)) (h12 : (m1 : Int) ≤ (s1.size : Int)) (h13 : (0 : Int) ≤ (m1 : Int)) (h14 : s1.extract 0 m1 = B)
    (hA : A.size ≤ 20)
    (M1 : Hid (∀ W (_ : Tp W), Calls Tryz.prog 32 #[.bool neg, .string A, .string B] W fun e w' => e = .returned (.tuple #[.agg (rrow g1 a1 b1), .bool ok1]) ∧ Below W.heap.size W w'))
    (R1 : Hid (∀ W, Calls Tryz.prog 33 #[.bool neg, .string A, .string B] W fun e w' => e = .returned (.tuple #[.agg (rrow g1 a1 b1), .bool ok1]) ∧ Below W.heap.size W w'))
    (hT : Tp w) :
    Calls Tryz.prog 5 #[.bool neg, .agg #[.string s0, .string s1], .int .i64 n] w fun e w' => e = .returned (.bool true) ∧ Below w.heap.size w w' := by
  obtain ⟨x, hx, MD⟩ := mod_nat n 1099511627776 1099511627776 rfl (by decide) (by decide) hn
  obtain ⟨k, hk⟩ : ∃ k : Nat, 1 + A.size = k := ⟨_, rfl⟩
  have q8 : (256 : Nat)^8 = 18446744073709551616 := by decide
  have O1 := fun W => RefOf_any W (x : Int) (by omega) (by omega)
  have O2 := fun W => RefOf_any W (k : Int) (by omega) (by omega)
  rw [Int.toNat_natCast] at O1 O2
  have M2 := fun W (h : Tp W) => make_yes W neg x k 8 (by omega) (by omega) (by omega) (by decide) h.b.t h.b.g
  have R2 := fun W => rmake_yes W neg x k 8 (by omega) (by omega) (by omega) (by decide)
  have QO := fun W => qOf W n hn.1 hn.2
  have RO := fun W => rOf_q W n hn.1 hn.2
  have s8 := int_eight n hn
  have RT := fun W (h : Tp W) => right_any W (decide ((n : Rat).num < 0)) (NB (n : Rat).num.natAbs) (NB (n : Rat).den) 8 (q_szA s8) (q_szB s8) (by decide) h.b.t h.b.g
  rw [okq_QV] at RT
  rw [QV_rrow] at M2 R2 QO RO
  exact makes_core w neg s0 s1 A B (NB x) (NB k) m0 m1 k n x _ _ _ ok1 true a1 b1 _ _ _ _ h01 h02 h03 h04 h11 h12 h13 h14 hA (by omega) (Lib.hid fun W h => sanity_any W h) M1 R1 (Lib.hid MD) (Lib.hid O1) (Lib.hid O2) (Lib.hid M2) (Lib.hid R2) (Lib.hid QO) (Lib.hid RO) (Lib.hid RT) hT
theorem makes_walk (w : World) (neg : Bool) (s0 s1 : ByteArray) (n : Int) (hT : Tp w) (hn : -9223372036854775808 ≤ n ∧ n ≤ 9223372036854775807) :
    Calls Tryz.prog 5 #[.bool neg, .agg #[.string s0, .string s1], .int .i64 n] w fun e w' => e = .returned (.bool true) ∧ Below w.heap.size w w' := by
  obtain ⟨m0, h01, h02, hA⟩ := cut20 s0
  obtain ⟨m1, h11, h12, hB⟩ := cut20 s1
  obtain ⟨A, e0⟩ : ∃ A, s0.extract 0 m0 = A := ⟨_, rfl⟩
  obtain ⟨B, e1⟩ : ∃ A, s1.extract 0 m1 = A := ⟨_, rfl⟩
  rw [e0] at hA
  rw [e1] at hB
  cases hf : fitq A B
  · have M1 := fun W (_ : Tp W) => make_no W neg A B hf
    have R1 := fun W => rmake_no W neg A B hf
    rw [zrow_rrow] at M1 R1
    exact makes_mid w neg s0 s1 A B m0 m1 n _ false _ _ hn h01 (by omega) (by omega) e0 h11 (by omega) (by omega) e1 hA (Lib.hid M1) (Lib.hid R1) hT
  · obtain ⟨p1, p2, p3⟩ := fit_parts hf
    have M1 := fun W (h : Tp W) => make_yes W neg (sv A) (sv B) 20 (sv_lt256 A 20 hA) (sv_lt256 B 20 hB) p3 (by decide) h.b.t h.b.g
    have R1 := fun W => rmake_yes W neg (sv A) (sv B) 20 (sv_lt256 A 20 hA) (sv_lt256 B 20 hB) p3 (by decide)
    rw [← p1, ← p2, QV_rrow] at M1 R1
    exact makes_mid w neg s0 s1 A B m0 m1 n _ true _ _ hn h01 (by omega) (by omega) e0 h11 (by omega) (by omega) e1 hA (Lib.hid M1) (Lib.hid R1) hT
end Go.Proofs.YteccbedmpjeamaaGreatDoor
namespace Go.Proofs.YteccbedmpjeamaaGreatDoor
open Go.RowKit NM QM
theorem rrEq (w : World) (g : Bool) (A B : ByteArray) : (binOp .eql 26 (.agg (rrow g A B)) (.agg (rrow g A B))).run Tryz.prog w = .ok (.bool true) w := by
  have h := eq_raw w g g A B A B
  rwa [decide_eq_true ⟨rfl, rfl, rfl⟩] at h
theorem KB.put0 {w u : World} {p0 p1 : Nat} {a b a' : Array Value} (h : KB w [(p1, b), (p0, a)] u) (hT : Tp w) (h0 : w.heap.size ≤ p0) (hn : p1 ≠ p0) (i : Nat) (v : Value) (e : a.setIfInBounds i v = a') :
    KB w [(p1, b), (p0, a')] (u.setCell ⟨p0, i, none⟩ v) := by
  have b' := h.b.setCell (p := ⟨p0, i, none⟩) h0 v
  have e1 : (u.setCell ⟨p0, i, none⟩ v).heap[p0]? = some (.cells (a.setIfInBounds i v) 26 (0, 0)) := heap_setCell_same u p0 i _ _ _ (h.row (by simp))
  have e2 : (u.setCell ⟨p0, i, none⟩ v).heap[p1]? = some (.cells b 26 (0, 0)) := (heap_setCell_other u ⟨p0, i, none⟩ p1 v hn).trans (h.row (by simp))
  rw [e] at e1
  refine ⟨fun x hx => ?_, b', hT.below b'⟩
  rcases List.mem_cons.1 hx with rfl | hx
  · exact ⟨(Array.getElem?_eq_some_iff.1 e2).1, e2⟩
  · rcases List.mem_cons.1 hx with rfl | hx
    · exact ⟨(Array.getElem?_eq_some_iff.1 e1).1, e1⟩
    · cases hx
theorem KB.put1 {w u : World} {p0 p1 : Nat} {a b b' : Array Value} (h : KB w [(p1, b), (p0, a)] u) (hT : Tp w) (h0 : w.heap.size ≤ p1) (hn : p0 ≠ p1) (i : Nat) (v : Value) (e : b.setIfInBounds i v = b') :
    KB w [(p1, b'), (p0, a)] (u.setCell ⟨p1, i, none⟩ v) := by
  have bb := h.b.setCell (p := ⟨p1, i, none⟩) h0 v
  have e1 : (u.setCell ⟨p1, i, none⟩ v).heap[p1]? = some (.cells (b.setIfInBounds i v) 26 (0, 0)) := heap_setCell_same u p1 i _ _ _ (h.row (by simp))
  have e2 : (u.setCell ⟨p1, i, none⟩ v).heap[p0]? = some (.cells a 26 (0, 0)) := (heap_setCell_other u ⟨p1, i, none⟩ p0 v hn).trans (h.row (by simp))
  rw [e] at e1
  refine ⟨fun x hx => ?_, bb, hT.below bb⟩
  rcases List.mem_cons.1 hx with rfl | hx
  · exact ⟨(Array.getElem?_eq_some_iff.1 e1).1, e1⟩
  · rcases List.mem_cons.1 hx with rfl | hx
    · exact ⟨(Array.getElem?_eq_some_iff.1 e2).1, e2⟩
    · cases hx
theorem raw_start (w W : World) (a b : Array Value) (hT : Tp w) (hW : (w.alloc (.cells a 26)).alloc (.cells b 26) = W) : KB w [(w.heap.size + 1, b), (w.heap.size, a)] W := by
  have h0 : KB w [] w := ⟨fun x hx => (by cases hx), Below.refl _ w, hT⟩
  have h := (h0.push a).push b
  rw [hW] at h
  simpa using h
set_option maxRecDepth 200000 in
set_option maxHeartbeats 64000000 in
theorem raw_core (w : World) (ga gb ok r g0 g1 g2 g3 g4 g5 : Bool) (s0 s1 s2 s3 A B C D tt a0 b0 a1 b1 a2 b2 a3 b3 a4 b4 a5 b5 : ByteArray) (m0 m1 m2 m3 : Nat) (cc ss : Int)
    (h01 : min (s0.size : Int) 20 = (m0 : Int)) (h02 : (m0 : Int) ≤ (s0.size : Int)) (h03 : (0 : Int) ≤ (m0 : Int)) (h04 : s0.extract 0 m0 = A)
    (h11 : min (s1.size : Int) 20 = (m1 : Int)) (h12 : (m1 : Int) ≤ (s1.size : Int)) (h13 : (0 : Int) ≤ (m1 : Int)) (h14 : s1.extract 0 m1 = B)
    (h21 : min (s2.size : Int) 20 = (m2 : Int)) (h22 : (m2 : Int) ≤ (s2.size : Int)) (h23 : (0 : Int) ≤ (m2 : Int)) (h24 : s2.extract 0 m2 = C)
    (h31 : min (s3.size : Int) 20 = (m3 : Int)) (h32 : (m3 : Int) ≤ (s3.size : Int)) (h33 : (0 : Int) ≤ (m3 : Int)) (h34 : s3.extract 0 m3 = D)
    (SA : Hid (∀ W (_ : Tp W), Calls Tryz.prog 10 #[] W fun e w' => e = .returned (.bool true) ∧ Below W.heap.size W w'))
    (QP : Hid (∀ W (_ : Tp W), Calls Tryz.prog 12 #[.agg (rrow ga A B), .agg (rrow gb C D)] W fun e w' => e = .returned (.tuple #[.agg (rrow g0 a0 b0), .bool ok]) ∧ Below W.heap.size W w'))
    (QR : Hid (∀ W (_ : Tp W), Calls Tryz.prog 13 #[.agg (rrow ga A B), .agg (rrow gb C D)] W fun e w' => e = .returned (.tuple #[.agg (rrow g0 a0 b0), .bool ok]) ∧ Below W.heap.size W w'))
    (IP : Hid (∀ W (_ : Tp W), Calls Tryz.prog 26 #[.agg (rrow ga A B)] W fun e w' => e = .returned (.bool r) ∧ Below W.heap.size W w'))
    (IR : Hid (∀ W (_ : Tp W), Calls Tryz.prog 27 #[.agg (rrow ga A B)] W fun e w' => e = .returned (.bool r) ∧ Below W.heap.size W w'))
    (AP : Hid (∀ W (_ : Tp W), Calls Tryz.prog 14 #[.agg (rrow ga A B), .agg (rrow gb C D)] W fun e w' => e = .returned (.agg (rrow g1 a1 b1)) ∧ Below W.heap.size W w'))
    (AR : Hid (∀ W (_ : Tp W), Calls Tryz.prog 15 #[.agg (rrow ga A B), .agg (rrow gb C D)] W fun e w' => e = .returned (.agg (rrow g1 a1 b1)) ∧ Below W.heap.size W w'))
    (SP : Hid (∀ W (_ : Tp W), Calls Tryz.prog 16 #[.agg (rrow ga A B), .agg (rrow gb C D)] W fun e w' => e = .returned (.agg (rrow g2 a2 b2)) ∧ Below W.heap.size W w'))
    (SR : Hid (∀ W (_ : Tp W), Calls Tryz.prog 17 #[.agg (rrow ga A B), .agg (rrow gb C D)] W fun e w' => e = .returned (.agg (rrow g2 a2 b2)) ∧ Below W.heap.size W w'))
    (MP : Hid (∀ W (_ : Tp W), Calls Tryz.prog 18 #[.agg (rrow ga A B), .agg (rrow gb C D)] W fun e w' => e = .returned (.agg (rrow g3 a3 b3)) ∧ Below W.heap.size W w'))
    (MR : Hid (∀ W (_ : Tp W), Calls Tryz.prog 19 #[.agg (rrow ga A B), .agg (rrow gb C D)] W fun e w' => e = .returned (.agg (rrow g3 a3 b3)) ∧ Below W.heap.size W w'))
    (CP : Hid (∀ W (_ : Tp W), Calls Tryz.prog 20 #[.agg (rrow ga A B), .agg (rrow gb C D)] W fun e w' => e = .returned (.int .i64 cc) ∧ Below W.heap.size W w'))
    (CR : Hid (∀ W (_ : Tp W), Calls Tryz.prog 21 #[.agg (rrow ga A B), .agg (rrow gb C D)] W fun e w' => e = .returned (.int .i64 cc) ∧ Below W.heap.size W w'))
    (GP : Hid (∀ W (_ : Tp W), Calls Tryz.prog 22 #[.agg (rrow ga A B)] W fun e w' => e = .returned (.int .i64 ss) ∧ Below W.heap.size W w'))
    (GR : Hid (∀ W (_ : Tp W), Calls Tryz.prog 23 #[.agg (rrow ga A B)] W fun e w' => e = .returned (.int .i64 ss) ∧ Below W.heap.size W w'))
    (NP : Hid (∀ W (_ : Tp W), Calls Tryz.prog 24 #[.agg (rrow ga A B)] W fun e w' => e = .returned (.agg (rrow g4 a4 b4)) ∧ Below W.heap.size W w'))
    (NR : Hid (∀ W (_ : Tp W), Calls Tryz.prog 25 #[.agg (rrow ga A B)] W fun e w' => e = .returned (.agg (rrow g4 a4 b4)) ∧ Below W.heap.size W w'))
    (TP : Hid (∀ W (_ : Tp W), Calls Tryz.prog 28 #[.agg (rrow ga A B)] W fun e w' => e = .returned (.string tt) ∧ Below W.heap.size W w'))
    (TR : Hid (∀ W (_ : Tp W), Calls Tryz.prog 29 #[.agg (rrow ga A B)] W fun e w' => e = .returned (.string tt) ∧ Below W.heap.size W w'))
    (IA : Hid (∀ W (_ : Tp W), Calls Tryz.prog 26 #[.agg (rrow g1 a1 b1)] W fun e w' => e = .returned (.bool true) ∧ Below W.heap.size W w'))
    (IN : Hid (∀ W (_ : Tp W), Calls Tryz.prog 26 #[.agg (rrow g4 a4 b4)] W fun e w' => e = .returned (.bool true) ∧ Below W.heap.size W w'))
    (UP : Hid (∀ W b (_ : RL W b [(ga, A, B), (gb, C, D), (ga, A, B)]) (_ : b < W.heap.size) (_ : Tp W), Calls Tryz.prog 30 #[.slice (some ⟨b, 0, none⟩) 3 3] W fun e w' => e = .returned (.agg (rrow g5 a5 b5)) ∧ Below W.heap.size W w'))
    (UR : Hid (∀ W b (_ : RL W b [(ga, A, B), (gb, C, D), (ga, A, B)]) (_ : b < W.heap.size) (_ : Tp W), Calls Tryz.prog 31 #[.slice (some ⟨b, 0, none⟩) 3 3] W fun e w' => e = .returned (.agg (rrow g5 a5 b5)) ∧ Below W.heap.size W w'))
    (hT : Tp w) :
    Calls Tryz.prog 4 #[.agg #[.bool ga, .string s0, .string s1], .agg #[.bool gb, .string s2, .string s3]] w fun e w' => e = .returned (.bool true) ∧ Below w.heap.size w w' := by
  obtain ⟨W, hW⟩ : ∃ W, (w.alloc (.cells #[.bool ga, .string s0, .string s1] 26)).alloc (.cells #[.bool gb, .string s2, .string s3] 26) = W := ⟨_, rfl⟩
  have H0 : Hid (KB w [(w.heap.size + 1, rrow gb s2 s3), (w.heap.size, rrow ga s0 s1)] W) := Lib.hid (raw_start w W _ _ hT hW)
  have HWe := Lib.hid hW
  have HT := Lib.hid hT
  clear hW hT
  go_enter Tryz.func4, Tryz.ntmps4
  go_upto_region 1 with fail
  change Code.wp _ _ _ _ ((w.alloc (.cells #[.bool ga, .string s0, .string s1] 26)).alloc (.cells #[.bool gb, .string s2, .string s3] 26))
  rw [HWe.out]
  clear HWe
  go_wp2_with fail
  refine (SA.out _ H0.out.t).mono ?_
  rintro e u1 ⟨rfl, b⟩
  have H1 := Lib.hid (H0.out.next b); clear b H0
  have rc := H1.out.row (p := w.heap.size) (cs := rrow ga s0 s1) (by simp)
  have c1 : u1.cell? ⟨w.heap.size, 1, none⟩ = some (.string s0) := cell_of_row _ _ 1 _ _ _ rc
  have f1 : u1.frozen? ⟨w.heap.size, 1, none⟩ = false := frozen_of_row u1 _ 1 _ _ rc
  clear rc
  go_upto_region 3 with fail
  clear c1 f1
  have H2 : Hid (KB w [(w.heap.size + 1, rrow gb s2 s3), (w.heap.size, rrow ga A s1)] (u1.setCell ⟨w.heap.size, 1, none⟩ (.string A))) := Lib.hid (H1.out.put0 HT.out (Nat.le_refl _) (Nat.succ_ne_self _) 1 _ rfl)
  change Code.wp _ _ _ _ (u1.setCell ⟨w.heap.size, 1, none⟩ (.string A))
  clear H1
  generalize hq : u1.setCell ⟨w.heap.size, 1, none⟩ (.string A) = u2 at *
  clear hq
  have rc := H2.out.row (p := w.heap.size) (cs := rrow ga A s1) (by simp)
  have c2 : u2.cell? ⟨w.heap.size, 2, none⟩ = some (.string s1) := cell_of_row _ _ 2 _ _ _ rc
  have f2 : u2.frozen? ⟨w.heap.size, 2, none⟩ = false := frozen_of_row u2 _ 2 _ _ rc
  clear rc
  go_upto_region 4 with fail
  clear c2 f2
  have H3 : Hid (KB w [(w.heap.size + 1, rrow gb s2 s3), (w.heap.size, rrow ga A B)] (u2.setCell ⟨w.heap.size, 2, none⟩ (.string B))) := Lib.hid (H2.out.put0 HT.out (Nat.le_refl _) (Nat.succ_ne_self _) 2 _ rfl)
  change Code.wp _ _ _ _ (u2.setCell ⟨w.heap.size, 2, none⟩ (.string B))
  clear H2
  generalize hq : u2.setCell ⟨w.heap.size, 2, none⟩ (.string B) = u3 at *
  clear hq
  have rc := H3.out.row (p := (w.heap.size + 1)) (cs := rrow gb s2 s3) (by simp)
  have c1 : u3.cell? ⟨(w.heap.size + 1), 1, none⟩ = some (.string s2) := cell_of_row _ _ 1 _ _ _ rc
  have f1 : u3.frozen? ⟨(w.heap.size + 1), 1, none⟩ = false := frozen_of_row u3 _ 1 _ _ rc
  clear rc
  go_upto_region 5 with fail
  clear c1 f1
  have H4 : Hid (KB w [(w.heap.size + 1, rrow gb C s3), (w.heap.size, rrow ga A B)] (u3.setCell ⟨(w.heap.size + 1), 1, none⟩ (.string C))) := Lib.hid (H3.out.put1 HT.out (Nat.le_succ _) (Nat.ne_of_lt (Nat.lt_succ_self _)) 1 _ rfl)
  change Code.wp _ _ _ _ (u3.setCell ⟨(w.heap.size + 1), 1, none⟩ (.string C))
  clear H3
  generalize hq : u3.setCell ⟨(w.heap.size + 1), 1, none⟩ (.string C) = u4 at *
  clear hq
  have rc := H4.out.row (p := (w.heap.size + 1)) (cs := rrow gb C s3) (by simp)
  have c2 : u4.cell? ⟨(w.heap.size + 1), 2, none⟩ = some (.string s3) := cell_of_row _ _ 2 _ _ _ rc
  have f2 : u4.frozen? ⟨(w.heap.size + 1), 2, none⟩ = false := frozen_of_row u4 _ 2 _ _ rc
  clear rc
  go_upto_region 6 with fail
  clear c2 f2
  have H5 : Hid (KB w [(w.heap.size + 1, rrow gb C D), (w.heap.size, rrow ga A B)] (u4.setCell ⟨(w.heap.size + 1), 2, none⟩ (.string D))) := Lib.hid (H4.out.put1 HT.out (Nat.le_succ _) (Nat.ne_of_lt (Nat.lt_succ_self _)) 2 _ rfl)
  change Code.wp _ _ _ _ (u4.setCell ⟨(w.heap.size + 1), 2, none⟩ (.string D))
  clear H4
  generalize hq : u4.setCell ⟨(w.heap.size + 1), 2, none⟩ (.string D) = u5 at *
  clear hq
  have rc := H5.out.row (p := w.heap.size) (cs := rrow ga A B) (by simp)
  have c0 : u5.cell? ⟨w.heap.size, 0, none⟩ = some (.bool ga) := cell_of_row _ _ 0 _ _ _ rc
  have c1 : u5.cell? ⟨w.heap.size, 1, none⟩ = some (.string A) := cell_of_row _ _ 1 _ _ _ rc
  have c2 : u5.cell? ⟨w.heap.size, 2, none⟩ = some (.string B) := cell_of_row _ _ 2 _ _ _ rc
  clear rc
  have rd := H5.out.row (p := (w.heap.size + 1)) (cs := rrow gb C D) (by simp)
  have d0 : u5.cell? ⟨(w.heap.size + 1), 0, none⟩ = some (.bool gb) := cell_of_row _ _ 0 _ _ _ rd
  have d1 : u5.cell? ⟨(w.heap.size + 1), 1, none⟩ = some (.string C) := cell_of_row _ _ 1 _ _ _ rd
  have d2 : u5.cell? ⟨(w.heap.size + 1), 2, none⟩ = some (.string D) := cell_of_row _ _ 2 _ _ _ rd
  clear rd
  go_wp2_with fail
  refine (QP.out _ H5.out.t).mono ?_
  rintro e u6 ⟨rfl, b⟩
  have H6 := Lib.hid (H5.out.next b); clear b H5
  clear c0 c1 c2 d0 d1 d2
  go_upto_region 7 with (refine wpList_store_row rfl 26 (.tmp 6) (.tmp 49) rfl u6.heap.size (rrow g0 a0 b0) rfl rfl 26 zrow (heap_alloc_new _ _) (rinfo _ _ _).out rfl (rone _ _ _) ?_)
  try change Code.wp _ _ _ _ ((u6.alloc (.cells zrow 26)).setRow u6.heap.size (rrow g0 a0 b0))
  rw [World.setRow_alloc_new u6 zrow (rrow g0 a0 b0) 26]
  have H7 := Lib.hid (H6.out.push (rrow g0 a0 b0)); clear H6
  generalize hq : u6.alloc (.cells (rrow g0 a0 b0) 26) = u7 at *
  clear hq
  obtain ⟨p7, hp⟩ : ∃ p, u6.heap.size = p := ⟨_, rfl⟩
  rw [hp] at H7 ⊢
  clear hp
  have rc := H7.out.row (p := w.heap.size) (cs := rrow ga A B) (by simp)
  have c0 : u7.cell? ⟨w.heap.size, 0, none⟩ = some (.bool ga) := cell_of_row _ _ 0 _ _ _ rc
  have c1 : u7.cell? ⟨w.heap.size, 1, none⟩ = some (.string A) := cell_of_row _ _ 1 _ _ _ rc
  have c2 : u7.cell? ⟨w.heap.size, 2, none⟩ = some (.string B) := cell_of_row _ _ 2 _ _ _ rc
  clear rc
  have rd := H7.out.row (p := (w.heap.size + 1)) (cs := rrow gb C D) (by simp)
  have d0 : u7.cell? ⟨(w.heap.size + 1), 0, none⟩ = some (.bool gb) := cell_of_row _ _ 0 _ _ _ rd
  have d1 : u7.cell? ⟨(w.heap.size + 1), 1, none⟩ = some (.string C) := cell_of_row _ _ 1 _ _ _ rd
  have d2 : u7.cell? ⟨(w.heap.size + 1), 2, none⟩ = some (.string D) := cell_of_row _ _ 2 _ _ _ rd
  clear rd
  go_wp2_with fail
  refine (QR.out _ H7.out.t).mono ?_
  rintro e u8 ⟨rfl, b⟩
  have H8 := Lib.hid (H7.out.next b); clear b H7
  clear c0 c1 c2 d0 d1 d2
  go_upto_region 8 with (refine wpList_store_row rfl 26 (.tmp 8) (.tmp 55) rfl u8.heap.size (rrow g0 a0 b0) rfl rfl 26 zrow (heap_alloc_new _ _) (rinfo _ _ _).out rfl (rone _ _ _) ?_)
  try change Code.wp _ _ _ _ ((u8.alloc (.cells zrow 26)).setRow u8.heap.size (rrow g0 a0 b0))
  rw [World.setRow_alloc_new u8 zrow (rrow g0 a0 b0) 26]
  have H9 := Lib.hid (H8.out.push (rrow g0 a0 b0)); clear H8
  generalize hq : u8.alloc (.cells (rrow g0 a0 b0) 26) = u9 at *
  clear hq
  obtain ⟨p9, hp⟩ : ∃ p, u8.heap.size = p := ⟨_, rfl⟩
  rw [hp] at H9 ⊢
  clear hp
  go_upto_region 8 with fail
  have E1 := fun W => rrEq W g1 a1 b1
  have E2 := fun W => rrEq W g2 a2 b2
  have E3 := fun W => rrEq W g3 a3 b3
  have E4 := fun W => rrEq W g0 a0 b0
  refine wp_region_held_drew (S := KB w [(p9, rrow g0 a0 b0), (p7, rrow g0 a0 b0), (w.heap.size + 1, rrow gb C D), (w.heap.size, rrow ga A B)]) (by kernel_rfl) H9.out.drew (fun hS => ?_)
  clear H9
  refine wpAnyH_take (i := 0) (oi := { dst := some 57, op := Op.load 26 (Operand.tmp 2), type := 26, pos := "law.go:51", after := #[], guard := none }) (v := .agg (rrow ga A B)) rfl (by kernel_rfl) (by kernel_rfl) (by kernel_rfl) (fun _ _ _ h => h) (Or.inl ⟨by rfl, ?ya0⟩) hS ?ra0
  case ya0 => exact fun w' hS => exec_load_row w' 26 (.tmp 2) rfl w.heap.size (by first | rfl | (simp [Act.eval])) 26 (rrow ga A B) (0, 0) _ (hS.row (by simp)) Tryz.underlying26 rfl info26.out
  refine wpAnyH_take (i := 2) (oi := { dst := some 59, op := Op.load 26 (Operand.tmp 2), type := 26, pos := "law.go:51", after := #[], guard := none }) (v := .agg (rrow ga A B)) rfl (by kernel_rfl) (by kernel_rfl) (by kernel_rfl) (fun _ _ _ h => h) (Or.inl ⟨by rfl, ?ya2⟩) hS ?ra2
  case ya2 => exact fun w' hS => exec_load_row w' 26 (.tmp 2) rfl w.heap.size (by first | rfl | (simp [Act.eval])) 26 (rrow ga A B) (0, 0) _ (hS.row (by simp)) Tryz.underlying26 rfl info26.out
  go_simp
  refine wpAnyH_ready (rs := [1]) (by kernel_rfl) (by simp) ?_
  refine AllReadyH.cons (o := { dst := some 58, op := Op.call { callee := Callee.value (Operand.func 26), args := #[Operand.tmp 57], argTypes := #[26] }, type := 4, pos := "law.go:51", after := #[{ on := 0, ground := Ground.data }], guard := none }) rfl (fun K hK => ?_) AllReadyH.nil
  go_simp
  go_at_call 26
  refine (IP.out _ hS.t).mono ?_
  rintro e w' ⟨rfl, b⟩
  have hS2 := hS.next b
  clear b hS
  try go_simp
  refine hK.out _ _ hS2 (fun hS => ?_)
  clear hK K hS2
  refine wpAnyH_ready (rs := [3]) (by kernel_rfl) (by simp) ?_
  refine AllReadyH.cons (o := { dst := some 60, op := Op.call { callee := Callee.value (Operand.func 27), args := #[Operand.tmp 59], argTypes := #[26] }, type := 4, pos := "law.go:51", after := #[{ on := 2, ground := Ground.data }, { on := 1, ground := Ground.chain }], guard := none }) rfl (fun K hK => ?_) AllReadyH.nil
  go_simp
  go_at_call 27
  refine (IR.out _ hS.t).mono ?_
  rintro e w' ⟨rfl, b⟩
  have hS2 := hS.next b
  clear b hS
  try go_simp
  refine hK.out _ _ hS2 (fun hS => ?_)
  clear hK K hS2
  refine wpAnyH_take (i := 4) (oi := { dst := some 61, op := Op.binOp BinOp.eql 4 (Operand.tmp 58) (Operand.tmp 60) 4, type := 4, pos := "law.go:51", after := #[{ on := 1, ground := Ground.data }, { on := 3, ground := Ground.data }], guard := none }) (v := ?va4) rfl (by kernel_rfl) (by kernel_rfl) (by kernel_rfl) (fun _ _ _ h => h) (Or.inl ⟨by rfl, ?ya4⟩) hS ?ra4
  case ya4 => (intro w hS; go_simp; try with_reducible rfl)
  go_simp
  refine wpAnyH_take (i := 5) (oi := { dst := some 62, op := Op.move (Operand.tmp 61), type := 4, pos := "law.go:51", after := #[{ on := 4, ground := Ground.data }, { on := 3, ground := Ground.chain }], guard := none }) (v := ?va5) rfl (by kernel_rfl) (by kernel_rfl) (by kernel_rfl) (fun _ _ _ h => h) (Or.inl ⟨by rfl, ?ya5⟩) hS ?ra5
  case ya5 => (intro w hS; go_simp; try with_reducible rfl)
  go_simp
  refine wpAnyH_take (i := 6) (oi := { dst := some 63, op := Op.load 26 (Operand.tmp 2), type := 26, pos := "law.go:51", after := #[{ on := 5, ground := Ground.guard }], guard := some (5, true) }) (v := .agg (rrow ga A B)) rfl (by kernel_rfl) (by kernel_rfl) (by kernel_rfl) (fun _ _ _ h => h) (Or.inl ⟨by rfl, ?ya6⟩) hS ?ra6
  case ya6 => exact fun w' hS => exec_load_row w' 26 (.tmp 2) rfl w.heap.size (by first | rfl | (simp [Act.eval])) 26 (rrow ga A B) (0, 0) _ (hS.row (by simp)) Tryz.underlying26 rfl info26.out
  refine wpAnyH_take (i := 7) (oi := { dst := some 64, op := Op.load 26 (Operand.tmp 3), type := 26, pos := "law.go:51", after := #[{ on := 5, ground := Ground.guard }], guard := some (5, true) }) (v := .agg (rrow gb C D)) rfl (by kernel_rfl) (by kernel_rfl) (by kernel_rfl) (fun _ _ _ h => h) (Or.inl ⟨by rfl, ?ya7⟩) hS ?ra7
  case ya7 => exact fun w' hS => exec_load_row w' 26 (.tmp 3) rfl (w.heap.size + 1) (by first | rfl | (simp [Act.eval])) 26 (rrow gb C D) (0, 0) _ (hS.row (by simp)) Tryz.underlying26 rfl info26.out
  refine wpAnyH_take (i := 9) (oi := { dst := some 66, op := Op.load 26 (Operand.tmp 2), type := 26, pos := "law.go:51", after := #[{ on := 5, ground := Ground.guard }], guard := some (5, true) }) (v := .agg (rrow ga A B)) rfl (by kernel_rfl) (by kernel_rfl) (by kernel_rfl) (fun _ _ _ h => h) (Or.inl ⟨by rfl, ?ya9⟩) hS ?ra9
  case ya9 => exact fun w' hS => exec_load_row w' 26 (.tmp 2) rfl w.heap.size (by first | rfl | (simp [Act.eval])) 26 (rrow ga A B) (0, 0) _ (hS.row (by simp)) Tryz.underlying26 rfl info26.out
  refine wpAnyH_take (i := 10) (oi := { dst := some 67, op := Op.load 26 (Operand.tmp 3), type := 26, pos := "law.go:51", after := #[{ on := 5, ground := Ground.guard }], guard := some (5, true) }) (v := .agg (rrow gb C D)) rfl (by kernel_rfl) (by kernel_rfl) (by kernel_rfl) (fun _ _ _ h => h) (Or.inl ⟨by rfl, ?ya10⟩) hS ?ra10
  case ya10 => exact fun w' hS => exec_load_row w' 26 (.tmp 3) rfl (w.heap.size + 1) (by first | rfl | (simp [Act.eval])) 26 (rrow gb C D) (0, 0) _ (hS.row (by simp)) Tryz.underlying26 rfl info26.out
  go_simp
  refine wpAnyH_ready (rs := [8]) (by kernel_rfl) (by simp) ?_
  refine AllReadyH.cons (o := { dst := some 65, op := Op.call { callee := Callee.value (Operand.func 14), args := #[Operand.tmp 63, Operand.tmp 64], argTypes := #[26, 26] }, type := 26, pos := "law.go:51", after := #[{ on := 6, ground := Ground.data }, { on := 7, ground := Ground.data }, { on := 5, ground := Ground.chain }, { on := 5, ground := Ground.guard }], guard := some (5, true) }) rfl (fun K hK => ?_) AllReadyH.nil
  go_simp
  go_at_call 14
  refine (AP.out _ hS.t).mono ?_
  rintro e w' ⟨rfl, b⟩
  have hS2 := hS.next b
  clear b hS
  try go_simp
  refine hK.out _ _ hS2 (fun hS => ?_)
  clear hK K hS2
  refine wpAnyH_ready (rs := [11]) (by kernel_rfl) (by simp) ?_
  refine AllReadyH.cons (o := { dst := some 68, op := Op.call { callee := Callee.value (Operand.func 15), args := #[Operand.tmp 66, Operand.tmp 67], argTypes := #[26, 26] }, type := 26, pos := "law.go:51", after := #[{ on := 9, ground := Ground.data }, { on := 10, ground := Ground.data }, { on := 8, ground := Ground.chain }, { on := 5, ground := Ground.guard }], guard := some (5, true) }) rfl (fun K hK => ?_) AllReadyH.nil
  go_simp
  go_at_call 15
  refine (AR.out _ hS.t).mono ?_
  rintro e w' ⟨rfl, b⟩
  have hS2 := hS.next b
  clear b hS
  try go_simp
  refine hK.out _ _ hS2 (fun hS => ?_)
  clear hK K hS2
  refine wpAnyH_take (i := 12) (oi := { dst := some 69, op := Op.binOp BinOp.eql 26 (Operand.tmp 65) (Operand.tmp 68) 26, type := 4, pos := "law.go:51", after := #[{ on := 8, ground := Ground.data }, { on := 11, ground := Ground.data }, { on := 5, ground := Ground.guard }], guard := some (5, true) }) (v := ?va12) rfl (by kernel_rfl) (by kernel_rfl) (by kernel_rfl) (fun _ _ _ h => h) (Or.inl ⟨by rfl, ?ya12⟩) hS ?ra12
  case ya12 => (intro w hS; go_simp; try with_reducible rfl)
  go_simp
  refine wpAnyH_take (i := 13) (oi := { dst := some 70, op := Op.pick (Operand.tmp 62) (Operand.tmp 69) (Operand.const (Value.bool false)), type := 4, pos := "law.go:51", after := #[{ on := 5, ground := Ground.data }, { on := 12, ground := Ground.data }], guard := none }) (v := ?va13) rfl (by kernel_rfl) (by kernel_rfl) (by kernel_rfl) (fun _ _ _ h => h) (Or.inl ⟨by rfl, ?ya13⟩) hS ?ra13
  case ya13 => (intro w hS; go_simp; try with_reducible rfl)
  go_simp
  refine wpAnyH_take (i := 14) (oi := { dst := some 71, op := Op.move (Operand.tmp 70), type := 4, pos := "law.go:51", after := #[{ on := 13, ground := Ground.data }, { on := 11, ground := Ground.chain }], guard := none }) (v := ?va14) rfl (by kernel_rfl) (by kernel_rfl) (by kernel_rfl) (fun _ _ _ h => h) (Or.inl ⟨by rfl, ?ya14⟩) hS ?ra14
  case ya14 => (intro w hS; go_simp; try with_reducible rfl)
  go_simp
  refine wpAnyH_take (i := 15) (oi := { dst := some 72, op := Op.load 26 (Operand.tmp 2), type := 26, pos := "law.go:51", after := #[{ on := 14, ground := Ground.guard }], guard := some (14, true) }) (v := .agg (rrow ga A B)) rfl (by kernel_rfl) (by kernel_rfl) (by kernel_rfl) (fun _ _ _ h => h) (Or.inl ⟨by rfl, ?ya15⟩) hS ?ra15
  case ya15 => exact fun w' hS => exec_load_row w' 26 (.tmp 2) rfl w.heap.size (by first | rfl | (simp [Act.eval])) 26 (rrow ga A B) (0, 0) _ (hS.row (by simp)) Tryz.underlying26 rfl info26.out
  refine wpAnyH_take (i := 16) (oi := { dst := some 73, op := Op.load 26 (Operand.tmp 3), type := 26, pos := "law.go:51", after := #[{ on := 14, ground := Ground.guard }], guard := some (14, true) }) (v := .agg (rrow gb C D)) rfl (by kernel_rfl) (by kernel_rfl) (by kernel_rfl) (fun _ _ _ h => h) (Or.inl ⟨by rfl, ?ya16⟩) hS ?ra16
  case ya16 => exact fun w' hS => exec_load_row w' 26 (.tmp 3) rfl (w.heap.size + 1) (by first | rfl | (simp [Act.eval])) 26 (rrow gb C D) (0, 0) _ (hS.row (by simp)) Tryz.underlying26 rfl info26.out
  refine wpAnyH_take (i := 18) (oi := { dst := some 75, op := Op.load 26 (Operand.tmp 2), type := 26, pos := "law.go:51", after := #[{ on := 14, ground := Ground.guard }], guard := some (14, true) }) (v := .agg (rrow ga A B)) rfl (by kernel_rfl) (by kernel_rfl) (by kernel_rfl) (fun _ _ _ h => h) (Or.inl ⟨by rfl, ?ya18⟩) hS ?ra18
  case ya18 => exact fun w' hS => exec_load_row w' 26 (.tmp 2) rfl w.heap.size (by first | rfl | (simp [Act.eval])) 26 (rrow ga A B) (0, 0) _ (hS.row (by simp)) Tryz.underlying26 rfl info26.out
  refine wpAnyH_take (i := 19) (oi := { dst := some 76, op := Op.load 26 (Operand.tmp 3), type := 26, pos := "law.go:51", after := #[{ on := 14, ground := Ground.guard }], guard := some (14, true) }) (v := .agg (rrow gb C D)) rfl (by kernel_rfl) (by kernel_rfl) (by kernel_rfl) (fun _ _ _ h => h) (Or.inl ⟨by rfl, ?ya19⟩) hS ?ra19
  case ya19 => exact fun w' hS => exec_load_row w' 26 (.tmp 3) rfl (w.heap.size + 1) (by first | rfl | (simp [Act.eval])) 26 (rrow gb C D) (0, 0) _ (hS.row (by simp)) Tryz.underlying26 rfl info26.out
  go_simp
  refine wpAnyH_ready (rs := [17]) (by kernel_rfl) (by simp) ?_
  refine AllReadyH.cons (o := { dst := some 74, op := Op.call { callee := Callee.value (Operand.func 16), args := #[Operand.tmp 72, Operand.tmp 73], argTypes := #[26, 26] }, type := 26, pos := "law.go:51", after := #[{ on := 15, ground := Ground.data }, { on := 16, ground := Ground.data }, { on := 14, ground := Ground.chain }, { on := 14, ground := Ground.guard }], guard := some (14, true) }) rfl (fun K hK => ?_) AllReadyH.nil
  go_simp
  go_at_call 16
  refine (SP.out _ hS.t).mono ?_
  rintro e w' ⟨rfl, b⟩
  have hS2 := hS.next b
  clear b hS
  try go_simp
  refine hK.out _ _ hS2 (fun hS => ?_)
  clear hK K hS2
  refine wpAnyH_ready (rs := [20]) (by kernel_rfl) (by simp) ?_
  refine AllReadyH.cons (o := { dst := some 77, op := Op.call { callee := Callee.value (Operand.func 17), args := #[Operand.tmp 75, Operand.tmp 76], argTypes := #[26, 26] }, type := 26, pos := "law.go:51", after := #[{ on := 18, ground := Ground.data }, { on := 19, ground := Ground.data }, { on := 17, ground := Ground.chain }, { on := 14, ground := Ground.guard }], guard := some (14, true) }) rfl (fun K hK => ?_) AllReadyH.nil
  go_simp
  go_at_call 17
  refine (SR.out _ hS.t).mono ?_
  rintro e w' ⟨rfl, b⟩
  have hS2 := hS.next b
  clear b hS
  try go_simp
  refine hK.out _ _ hS2 (fun hS => ?_)
  clear hK K hS2
  refine wpAnyH_take (i := 21) (oi := { dst := some 78, op := Op.binOp BinOp.eql 26 (Operand.tmp 74) (Operand.tmp 77) 26, type := 4, pos := "law.go:51", after := #[{ on := 17, ground := Ground.data }, { on := 20, ground := Ground.data }, { on := 14, ground := Ground.guard }], guard := some (14, true) }) (v := ?va21) rfl (by kernel_rfl) (by kernel_rfl) (by kernel_rfl) (fun _ _ _ h => h) (Or.inl ⟨by rfl, ?ya21⟩) hS ?ra21
  case ya21 => (intro w hS; go_simp; try with_reducible rfl)
  go_simp
  refine wpAnyH_take (i := 22) (oi := { dst := some 79, op := Op.pick (Operand.tmp 71) (Operand.tmp 78) (Operand.const (Value.bool false)), type := 4, pos := "law.go:51", after := #[{ on := 14, ground := Ground.data }, { on := 21, ground := Ground.data }], guard := none }) (v := ?va22) rfl (by kernel_rfl) (by kernel_rfl) (by kernel_rfl) (fun _ _ _ h => h) (Or.inl ⟨by rfl, ?ya22⟩) hS ?ra22
  case ya22 => (intro w hS; go_simp; try with_reducible rfl)
  go_simp
  refine wpAnyH_take (i := 23) (oi := { dst := some 80, op := Op.move (Operand.tmp 79), type := 4, pos := "law.go:51", after := #[{ on := 22, ground := Ground.data }, { on := 20, ground := Ground.chain }], guard := none }) (v := ?va23) rfl (by kernel_rfl) (by kernel_rfl) (by kernel_rfl) (fun _ _ _ h => h) (Or.inl ⟨by rfl, ?ya23⟩) hS ?ra23
  case ya23 => (intro w hS; go_simp; try with_reducible rfl)
  go_simp
  refine wpAnyH_take (i := 24) (oi := { dst := some 81, op := Op.load 26 (Operand.tmp 2), type := 26, pos := "law.go:51", after := #[{ on := 23, ground := Ground.guard }], guard := some (23, true) }) (v := .agg (rrow ga A B)) rfl (by kernel_rfl) (by kernel_rfl) (by kernel_rfl) (fun _ _ _ h => h) (Or.inl ⟨by rfl, ?ya24⟩) hS ?ra24
  case ya24 => exact fun w' hS => exec_load_row w' 26 (.tmp 2) rfl w.heap.size (by first | rfl | (simp [Act.eval])) 26 (rrow ga A B) (0, 0) _ (hS.row (by simp)) Tryz.underlying26 rfl info26.out
  refine wpAnyH_take (i := 25) (oi := { dst := some 82, op := Op.load 26 (Operand.tmp 3), type := 26, pos := "law.go:51", after := #[{ on := 23, ground := Ground.guard }], guard := some (23, true) }) (v := .agg (rrow gb C D)) rfl (by kernel_rfl) (by kernel_rfl) (by kernel_rfl) (fun _ _ _ h => h) (Or.inl ⟨by rfl, ?ya25⟩) hS ?ra25
  case ya25 => exact fun w' hS => exec_load_row w' 26 (.tmp 3) rfl (w.heap.size + 1) (by first | rfl | (simp [Act.eval])) 26 (rrow gb C D) (0, 0) _ (hS.row (by simp)) Tryz.underlying26 rfl info26.out
  refine wpAnyH_take (i := 27) (oi := { dst := some 84, op := Op.load 26 (Operand.tmp 2), type := 26, pos := "law.go:51", after := #[{ on := 23, ground := Ground.guard }], guard := some (23, true) }) (v := .agg (rrow ga A B)) rfl (by kernel_rfl) (by kernel_rfl) (by kernel_rfl) (fun _ _ _ h => h) (Or.inl ⟨by rfl, ?ya27⟩) hS ?ra27
  case ya27 => exact fun w' hS => exec_load_row w' 26 (.tmp 2) rfl w.heap.size (by first | rfl | (simp [Act.eval])) 26 (rrow ga A B) (0, 0) _ (hS.row (by simp)) Tryz.underlying26 rfl info26.out
  refine wpAnyH_take (i := 28) (oi := { dst := some 85, op := Op.load 26 (Operand.tmp 3), type := 26, pos := "law.go:51", after := #[{ on := 23, ground := Ground.guard }], guard := some (23, true) }) (v := .agg (rrow gb C D)) rfl (by kernel_rfl) (by kernel_rfl) (by kernel_rfl) (fun _ _ _ h => h) (Or.inl ⟨by rfl, ?ya28⟩) hS ?ra28
  case ya28 => exact fun w' hS => exec_load_row w' 26 (.tmp 3) rfl (w.heap.size + 1) (by first | rfl | (simp [Act.eval])) 26 (rrow gb C D) (0, 0) _ (hS.row (by simp)) Tryz.underlying26 rfl info26.out
  go_simp
  refine wpAnyH_ready (rs := [26]) (by kernel_rfl) (by simp) ?_
  refine AllReadyH.cons (o := { dst := some 83, op := Op.call { callee := Callee.value (Operand.func 18), args := #[Operand.tmp 81, Operand.tmp 82], argTypes := #[26, 26] }, type := 26, pos := "law.go:51", after := #[{ on := 24, ground := Ground.data }, { on := 25, ground := Ground.data }, { on := 23, ground := Ground.chain }, { on := 23, ground := Ground.guard }], guard := some (23, true) }) rfl (fun K hK => ?_) AllReadyH.nil
  go_simp
  go_at_call 18
  refine (MP.out _ hS.t).mono ?_
  rintro e w' ⟨rfl, b⟩
  have hS2 := hS.next b
  clear b hS
  try go_simp
  refine hK.out _ _ hS2 (fun hS => ?_)
  clear hK K hS2
  refine wpAnyH_ready (rs := [29]) (by kernel_rfl) (by simp) ?_
  refine AllReadyH.cons (o := { dst := some 86, op := Op.call { callee := Callee.value (Operand.func 19), args := #[Operand.tmp 84, Operand.tmp 85], argTypes := #[26, 26] }, type := 26, pos := "law.go:51", after := #[{ on := 27, ground := Ground.data }, { on := 28, ground := Ground.data }, { on := 26, ground := Ground.chain }, { on := 23, ground := Ground.guard }], guard := some (23, true) }) rfl (fun K hK => ?_) AllReadyH.nil
  go_simp
  go_at_call 19
  refine (MR.out _ hS.t).mono ?_
  rintro e w' ⟨rfl, b⟩
  have hS2 := hS.next b
  clear b hS
  try go_simp
  refine hK.out _ _ hS2 (fun hS => ?_)
  clear hK K hS2
  refine wpAnyH_take (i := 30) (oi := { dst := some 87, op := Op.binOp BinOp.eql 26 (Operand.tmp 83) (Operand.tmp 86) 26, type := 4, pos := "law.go:51", after := #[{ on := 26, ground := Ground.data }, { on := 29, ground := Ground.data }, { on := 23, ground := Ground.guard }], guard := some (23, true) }) (v := ?va30) rfl (by kernel_rfl) (by kernel_rfl) (by kernel_rfl) (fun _ _ _ h => h) (Or.inl ⟨by rfl, ?ya30⟩) hS ?ra30
  case ya30 => (intro w hS; go_simp; try with_reducible rfl)
  go_simp
  refine wpAnyH_take (i := 31) (oi := { dst := some 88, op := Op.pick (Operand.tmp 80) (Operand.tmp 87) (Operand.const (Value.bool false)), type := 4, pos := "law.go:51", after := #[{ on := 23, ground := Ground.data }, { on := 30, ground := Ground.data }], guard := none }) (v := ?va31) rfl (by kernel_rfl) (by kernel_rfl) (by kernel_rfl) (fun _ _ _ h => h) (Or.inl ⟨by rfl, ?ya31⟩) hS ?ra31
  case ya31 => (intro w hS; go_simp; try with_reducible rfl)
  go_simp
  refine wpAnyH_take (i := 32) (oi := { dst := some 89, op := Op.move (Operand.tmp 88), type := 4, pos := "law.go:51", after := #[{ on := 31, ground := Ground.data }, { on := 29, ground := Ground.chain }], guard := none }) (v := ?va32) rfl (by kernel_rfl) (by kernel_rfl) (by kernel_rfl) (fun _ _ _ h => h) (Or.inl ⟨by rfl, ?ya32⟩) hS ?ra32
  case ya32 => (intro w hS; go_simp; try with_reducible rfl)
  go_simp
  refine wpAnyH_take (i := 33) (oi := { dst := some 90, op := Op.load 26 (Operand.tmp 6), type := 26, pos := "law.go:51", after := #[{ on := 32, ground := Ground.guard }], guard := some (32, true) }) (v := .agg (rrow g0 a0 b0)) rfl (by kernel_rfl) (by kernel_rfl) (by kernel_rfl) (fun _ _ _ h => h) (Or.inl ⟨by rfl, ?ya33⟩) hS ?ra33
  case ya33 => exact fun w' hS => exec_load_row w' 26 (.tmp 6) rfl p7 (by first | rfl | (simp [Act.eval])) 26 (rrow g0 a0 b0) (0, 0) _ (hS.row (by simp)) Tryz.underlying26 rfl info26.out
  refine wpAnyH_take (i := 34) (oi := { dst := some 91, op := Op.load 26 (Operand.tmp 8), type := 26, pos := "law.go:51", after := #[{ on := 32, ground := Ground.guard }], guard := some (32, true) }) (v := .agg (rrow g0 a0 b0)) rfl (by kernel_rfl) (by kernel_rfl) (by kernel_rfl) (fun _ _ _ h => h) (Or.inl ⟨by rfl, ?ya34⟩) hS ?ra34
  case ya34 => exact fun w' hS => exec_load_row w' 26 (.tmp 8) rfl p9 (by first | rfl | (simp [Act.eval])) 26 (rrow g0 a0 b0) (0, 0) _ (hS.row (by simp)) Tryz.underlying26 rfl info26.out
  go_simp
  refine wpAnyH_take (i := 35) (oi := { dst := some 92, op := Op.binOp BinOp.eql 26 (Operand.tmp 90) (Operand.tmp 91) 26, type := 4, pos := "law.go:51", after := #[{ on := 33, ground := Ground.data }, { on := 34, ground := Ground.data }, { on := 32, ground := Ground.guard }], guard := some (32, true) }) (v := ?va35) rfl (by kernel_rfl) (by kernel_rfl) (by kernel_rfl) (fun _ _ _ h => h) (Or.inl ⟨by rfl, ?ya35⟩) hS ?ra35
  case ya35 => (intro w hS; go_simp; try with_reducible rfl)
  go_simp
  refine wpAnyH_take (i := 36) (oi := { dst := some 93, op := Op.pick (Operand.tmp 89) (Operand.tmp 92) (Operand.const (Value.bool false)), type := 4, pos := "law.go:51", after := #[{ on := 32, ground := Ground.data }, { on := 35, ground := Ground.data }], guard := none }) (v := ?va36) rfl (by kernel_rfl) (by kernel_rfl) (by kernel_rfl) (fun _ _ _ h => h) (Or.inl ⟨by rfl, ?ya36⟩) hS ?ra36
  case ya36 => (intro w hS; go_simp; try with_reducible rfl)
  go_simp
  refine wpAnyH_take (i := 37) (oi := { dst := some 94, op := Op.move (Operand.tmp 93), type := 4, pos := "law.go:51", after := #[{ on := 36, ground := Ground.data }, { on := 32, ground := Ground.chain }], guard := none }) (v := ?va37) rfl (by kernel_rfl) (by kernel_rfl) (by kernel_rfl) (fun _ _ _ h => h) (Or.inl ⟨by rfl, ?ya37⟩) hS ?ra37
  case ya37 => (intro w hS; go_simp; try with_reducible rfl)
  go_simp
  refine wpAnyH_take (i := 38) (oi := { dst := some 95, op := Op.move (Operand.tmp 7), type := 4, pos := "law.go:51", after := #[{ on := 37, ground := Ground.guard }], guard := some (37, true) }) (v := ?va38) rfl (by kernel_rfl) (by kernel_rfl) (by kernel_rfl) (fun _ _ _ h => h) (Or.inl ⟨by rfl, ?ya38⟩) hS ?ra38
  case ya38 => (intro w hS; go_simp; try with_reducible rfl)
  refine wpAnyH_take (i := 39) (oi := { dst := some 96, op := Op.move (Operand.tmp 9), type := 4, pos := "law.go:51", after := #[{ on := 37, ground := Ground.guard }], guard := some (37, true) }) (v := ?va39) rfl (by kernel_rfl) (by kernel_rfl) (by kernel_rfl) (fun _ _ _ h => h) (Or.inl ⟨by rfl, ?ya39⟩) hS ?ra39
  case ya39 => (intro w hS; go_simp; try with_reducible rfl)
  go_simp
  refine wpAnyH_take (i := 40) (oi := { dst := some 97, op := Op.binOp BinOp.eql 4 (Operand.tmp 95) (Operand.tmp 96) 4, type := 4, pos := "law.go:51", after := #[{ on := 38, ground := Ground.data }, { on := 39, ground := Ground.data }, { on := 37, ground := Ground.guard }], guard := some (37, true) }) (v := ?va40) rfl (by kernel_rfl) (by kernel_rfl) (by kernel_rfl) (fun _ _ _ h => h) (Or.inl ⟨by rfl, ?ya40⟩) hS ?ra40
  case ya40 => (intro w hS; go_simp; try with_reducible rfl)
  go_simp
  refine wpAnyH_take (i := 41) (oi := { dst := some 98, op := Op.pick (Operand.tmp 94) (Operand.tmp 97) (Operand.const (Value.bool false)), type := 4, pos := "law.go:51", after := #[{ on := 37, ground := Ground.data }, { on := 40, ground := Ground.data }], guard := none }) (v := ?va41) rfl (by kernel_rfl) (by kernel_rfl) (by kernel_rfl) (fun _ _ _ h => h) (Or.inl ⟨by rfl, ?ya41⟩) hS ?ra41
  case ya41 => (intro w hS; go_simp; try with_reducible rfl)
  go_simp
  refine wpAnyH_take (i := 42) (oi := { dst := some 10, op := Op.assign (Operand.tmp 98), type := 4, pos := "law.go:51", after := #[{ on := 41, ground := Ground.data }, { on := 37, ground := Ground.chain }, { on := 0, ground := Ground.phase }, { on := 1, ground := Ground.phase }, { on := 2, ground := Ground.phase }, { on := 3, ground := Ground.phase }, { on := 4, ground := Ground.phase }, { on := 5, ground := Ground.phase }, { on := 6, ground := Ground.phase }, { on := 7, ground := Ground.phase }, { on := 8, ground := Ground.phase }, { on := 9, ground := Ground.phase }, { on := 10, ground := Ground.phase }, { on := 11, ground := Ground.phase }, { on := 12, ground := Ground.phase }, { on := 13, ground := Ground.phase }, { on := 14, ground := Ground.phase }, { on := 15, ground := Ground.phase }, { on := 16, ground := Ground.phase }, { on := 17, ground := Ground.phase }, { on := 18, ground := Ground.phase }, { on := 19, ground := Ground.phase }, { on := 20, ground := Ground.phase }, { on := 21, ground := Ground.phase }, { on := 22, ground := Ground.phase }, { on := 23, ground := Ground.phase }, { on := 24, ground := Ground.phase }, { on := 25, ground := Ground.phase }, { on := 26, ground := Ground.phase }, { on := 27, ground := Ground.phase }, { on := 28, ground := Ground.phase }, { on := 29, ground := Ground.phase }, { on := 30, ground := Ground.phase }, { on := 31, ground := Ground.phase }, { on := 32, ground := Ground.phase }, { on := 33, ground := Ground.phase }, { on := 34, ground := Ground.phase }, { on := 35, ground := Ground.phase }, { on := 36, ground := Ground.phase }, { on := 37, ground := Ground.phase }, { on := 38, ground := Ground.phase }, { on := 39, ground := Ground.phase }, { on := 40, ground := Ground.phase }, { on := 41, ground := Ground.phase }], guard := none }) (v := ?va42) rfl (by kernel_rfl) (by kernel_rfl) (by kernel_rfl) (fun _ _ _ h => h) (Or.inl ⟨by rfl, ?ya42⟩) hS ?ra42
  case ya42 => (intro w hS; go_simp; try with_reducible rfl)
  refine wpAnyH_done (by kernel_rfl) ?_ _
  have HR8 := Lib.hid hS
  clear hS E1 E2 E3 E4
  go_upto_region 9 with fail
  have E4 := fun W => rrEq W g4 a4 b4
  refine wp_region_held_drew (S := KB w [(p9, rrow g0 a0 b0), (p7, rrow g0 a0 b0), (w.heap.size + 1, rrow gb C D), (w.heap.size, rrow ga A B)]) (by kernel_rfl) HR8.out.drew (fun hS => ?_)
  clear HR8
  refine wpAnyH_take (i := 0) (oi := { dst := some 99, op := Op.load 26 (Operand.tmp 2), type := 26, pos := "law.go:52", after := #[], guard := none }) (v := .agg (rrow ga A B)) rfl (by kernel_rfl) (by kernel_rfl) (by kernel_rfl) (fun _ _ _ h => h) (Or.inl ⟨by rfl, ?yb0⟩) hS ?rb0
  case yb0 => exact fun w' hS => exec_load_row w' 26 (.tmp 2) rfl w.heap.size (by first | rfl | (simp [Act.eval])) 26 (rrow ga A B) (0, 0) _ (hS.row (by simp)) Tryz.underlying26 rfl info26.out
  refine wpAnyH_take (i := 1) (oi := { dst := some 100, op := Op.load 26 (Operand.tmp 3), type := 26, pos := "law.go:52", after := #[], guard := none }) (v := .agg (rrow gb C D)) rfl (by kernel_rfl) (by kernel_rfl) (by kernel_rfl) (fun _ _ _ h => h) (Or.inl ⟨by rfl, ?yb1⟩) hS ?rb1
  case yb1 => exact fun w' hS => exec_load_row w' 26 (.tmp 3) rfl (w.heap.size + 1) (by first | rfl | (simp [Act.eval])) 26 (rrow gb C D) (0, 0) _ (hS.row (by simp)) Tryz.underlying26 rfl info26.out
  refine wpAnyH_take (i := 3) (oi := { dst := some 102, op := Op.load 26 (Operand.tmp 2), type := 26, pos := "law.go:52", after := #[], guard := none }) (v := .agg (rrow ga A B)) rfl (by kernel_rfl) (by kernel_rfl) (by kernel_rfl) (fun _ _ _ h => h) (Or.inl ⟨by rfl, ?yb3⟩) hS ?rb3
  case yb3 => exact fun w' hS => exec_load_row w' 26 (.tmp 2) rfl w.heap.size (by first | rfl | (simp [Act.eval])) 26 (rrow ga A B) (0, 0) _ (hS.row (by simp)) Tryz.underlying26 rfl info26.out
  refine wpAnyH_take (i := 4) (oi := { dst := some 103, op := Op.load 26 (Operand.tmp 3), type := 26, pos := "law.go:52", after := #[], guard := none }) (v := .agg (rrow gb C D)) rfl (by kernel_rfl) (by kernel_rfl) (by kernel_rfl) (fun _ _ _ h => h) (Or.inl ⟨by rfl, ?yb4⟩) hS ?rb4
  case yb4 => exact fun w' hS => exec_load_row w' 26 (.tmp 3) rfl (w.heap.size + 1) (by first | rfl | (simp [Act.eval])) 26 (rrow gb C D) (0, 0) _ (hS.row (by simp)) Tryz.underlying26 rfl info26.out
  go_simp
  refine wpAnyH_ready (rs := [2]) (by kernel_rfl) (by simp) ?_
  refine AllReadyH.cons (o := { dst := some 101, op := Op.call { callee := Callee.value (Operand.func 20), args := #[Operand.tmp 99, Operand.tmp 100], argTypes := #[26, 26] }, type := 3, pos := "law.go:52", after := #[{ on := 0, ground := Ground.data }, { on := 1, ground := Ground.data }], guard := none }) rfl (fun K hK => ?_) AllReadyH.nil
  go_simp
  go_at_call 20
  refine (CP.out _ hS.t).mono ?_
  rintro e w' ⟨rfl, b⟩
  have hS2 := hS.next b
  clear b hS
  try go_simp
  refine hK.out _ _ hS2 (fun hS => ?_)
  clear hK K hS2
  refine wpAnyH_ready (rs := [5]) (by kernel_rfl) (by simp) ?_
  refine AllReadyH.cons (o := { dst := some 104, op := Op.call { callee := Callee.value (Operand.func 21), args := #[Operand.tmp 102, Operand.tmp 103], argTypes := #[26, 26] }, type := 3, pos := "law.go:52", after := #[{ on := 3, ground := Ground.data }, { on := 4, ground := Ground.data }, { on := 2, ground := Ground.chain }], guard := none }) rfl (fun K hK => ?_) AllReadyH.nil
  go_simp
  go_at_call 21
  refine (CR.out _ hS.t).mono ?_
  rintro e w' ⟨rfl, b⟩
  have hS2 := hS.next b
  clear b hS
  try go_simp
  refine hK.out _ _ hS2 (fun hS => ?_)
  clear hK K hS2
  refine wpAnyH_take (i := 6) (oi := { dst := some 105, op := Op.binOp BinOp.eql 3 (Operand.tmp 101) (Operand.tmp 104) 3, type := 4, pos := "law.go:52", after := #[{ on := 2, ground := Ground.data }, { on := 5, ground := Ground.data }], guard := none }) (v := ?vb6) rfl (by kernel_rfl) (by kernel_rfl) (by kernel_rfl) (fun _ _ _ h => h) (Or.inl ⟨by rfl, ?yb6⟩) hS ?rb6
  case yb6 => (intro w hS; go_simp; try with_reducible rfl)
  go_simp
  refine wpAnyH_take (i := 7) (oi := { dst := some 106, op := Op.move (Operand.tmp 105), type := 4, pos := "law.go:52", after := #[{ on := 6, ground := Ground.data }, { on := 5, ground := Ground.chain }], guard := none }) (v := ?vb7) rfl (by kernel_rfl) (by kernel_rfl) (by kernel_rfl) (fun _ _ _ h => h) (Or.inl ⟨by rfl, ?yb7⟩) hS ?rb7
  case yb7 => (intro w hS; go_simp; try with_reducible rfl)
  go_simp
  refine wpAnyH_take (i := 8) (oi := { dst := some 107, op := Op.load 26 (Operand.tmp 2), type := 26, pos := "law.go:52", after := #[{ on := 7, ground := Ground.guard }], guard := some (7, true) }) (v := .agg (rrow ga A B)) rfl (by kernel_rfl) (by kernel_rfl) (by kernel_rfl) (fun _ _ _ h => h) (Or.inl ⟨by rfl, ?yb8⟩) hS ?rb8
  case yb8 => exact fun w' hS => exec_load_row w' 26 (.tmp 2) rfl w.heap.size (by first | rfl | (simp [Act.eval])) 26 (rrow ga A B) (0, 0) _ (hS.row (by simp)) Tryz.underlying26 rfl info26.out
  refine wpAnyH_take (i := 10) (oi := { dst := some 109, op := Op.load 26 (Operand.tmp 2), type := 26, pos := "law.go:52", after := #[{ on := 7, ground := Ground.guard }], guard := some (7, true) }) (v := .agg (rrow ga A B)) rfl (by kernel_rfl) (by kernel_rfl) (by kernel_rfl) (fun _ _ _ h => h) (Or.inl ⟨by rfl, ?yb10⟩) hS ?rb10
  case yb10 => exact fun w' hS => exec_load_row w' 26 (.tmp 2) rfl w.heap.size (by first | rfl | (simp [Act.eval])) 26 (rrow ga A B) (0, 0) _ (hS.row (by simp)) Tryz.underlying26 rfl info26.out
  go_simp
  refine wpAnyH_ready (rs := [9]) (by kernel_rfl) (by simp) ?_
  refine AllReadyH.cons (o := { dst := some 108, op := Op.call { callee := Callee.value (Operand.func 22), args := #[Operand.tmp 107], argTypes := #[26] }, type := 3, pos := "law.go:52", after := #[{ on := 8, ground := Ground.data }, { on := 7, ground := Ground.chain }, { on := 7, ground := Ground.guard }], guard := some (7, true) }) rfl (fun K hK => ?_) AllReadyH.nil
  go_simp
  go_at_call 22
  refine (GP.out _ hS.t).mono ?_
  rintro e w' ⟨rfl, b⟩
  have hS2 := hS.next b
  clear b hS
  try go_simp
  refine hK.out _ _ hS2 (fun hS => ?_)
  clear hK K hS2
  refine wpAnyH_ready (rs := [11]) (by kernel_rfl) (by simp) ?_
  refine AllReadyH.cons (o := { dst := some 110, op := Op.call { callee := Callee.value (Operand.func 23), args := #[Operand.tmp 109], argTypes := #[26] }, type := 3, pos := "law.go:52", after := #[{ on := 10, ground := Ground.data }, { on := 9, ground := Ground.chain }, { on := 7, ground := Ground.guard }], guard := some (7, true) }) rfl (fun K hK => ?_) AllReadyH.nil
  go_simp
  go_at_call 23
  refine (GR.out _ hS.t).mono ?_
  rintro e w' ⟨rfl, b⟩
  have hS2 := hS.next b
  clear b hS
  try go_simp
  refine hK.out _ _ hS2 (fun hS => ?_)
  clear hK K hS2
  refine wpAnyH_take (i := 12) (oi := { dst := some 111, op := Op.binOp BinOp.eql 3 (Operand.tmp 108) (Operand.tmp 110) 3, type := 4, pos := "law.go:52", after := #[{ on := 9, ground := Ground.data }, { on := 11, ground := Ground.data }, { on := 7, ground := Ground.guard }], guard := some (7, true) }) (v := ?vb12) rfl (by kernel_rfl) (by kernel_rfl) (by kernel_rfl) (fun _ _ _ h => h) (Or.inl ⟨by rfl, ?yb12⟩) hS ?rb12
  case yb12 => (intro w hS; go_simp; try with_reducible rfl)
  go_simp
  refine wpAnyH_take (i := 13) (oi := { dst := some 112, op := Op.pick (Operand.tmp 106) (Operand.tmp 111) (Operand.const (Value.bool false)), type := 4, pos := "law.go:52", after := #[{ on := 7, ground := Ground.data }, { on := 12, ground := Ground.data }], guard := none }) (v := ?vb13) rfl (by kernel_rfl) (by kernel_rfl) (by kernel_rfl) (fun _ _ _ h => h) (Or.inl ⟨by rfl, ?yb13⟩) hS ?rb13
  case yb13 => (intro w hS; go_simp; try with_reducible rfl)
  go_simp
  refine wpAnyH_take (i := 14) (oi := { dst := some 113, op := Op.move (Operand.tmp 112), type := 4, pos := "law.go:52", after := #[{ on := 13, ground := Ground.data }, { on := 11, ground := Ground.chain }], guard := none }) (v := ?vb14) rfl (by kernel_rfl) (by kernel_rfl) (by kernel_rfl) (fun _ _ _ h => h) (Or.inl ⟨by rfl, ?yb14⟩) hS ?rb14
  case yb14 => (intro w hS; go_simp; try with_reducible rfl)
  go_simp
  refine wpAnyH_take (i := 15) (oi := { dst := some 114, op := Op.load 26 (Operand.tmp 2), type := 26, pos := "law.go:52", after := #[{ on := 14, ground := Ground.guard }], guard := some (14, true) }) (v := .agg (rrow ga A B)) rfl (by kernel_rfl) (by kernel_rfl) (by kernel_rfl) (fun _ _ _ h => h) (Or.inl ⟨by rfl, ?yb15⟩) hS ?rb15
  case yb15 => exact fun w' hS => exec_load_row w' 26 (.tmp 2) rfl w.heap.size (by first | rfl | (simp [Act.eval])) 26 (rrow ga A B) (0, 0) _ (hS.row (by simp)) Tryz.underlying26 rfl info26.out
  refine wpAnyH_take (i := 17) (oi := { dst := some 116, op := Op.load 26 (Operand.tmp 2), type := 26, pos := "law.go:52", after := #[{ on := 14, ground := Ground.guard }], guard := some (14, true) }) (v := .agg (rrow ga A B)) rfl (by kernel_rfl) (by kernel_rfl) (by kernel_rfl) (fun _ _ _ h => h) (Or.inl ⟨by rfl, ?yb17⟩) hS ?rb17
  case yb17 => exact fun w' hS => exec_load_row w' 26 (.tmp 2) rfl w.heap.size (by first | rfl | (simp [Act.eval])) 26 (rrow ga A B) (0, 0) _ (hS.row (by simp)) Tryz.underlying26 rfl info26.out
  go_simp
  refine wpAnyH_ready (rs := [16]) (by kernel_rfl) (by simp) ?_
  refine AllReadyH.cons (o := { dst := some 115, op := Op.call { callee := Callee.value (Operand.func 24), args := #[Operand.tmp 114], argTypes := #[26] }, type := 26, pos := "law.go:52", after := #[{ on := 15, ground := Ground.data }, { on := 14, ground := Ground.chain }, { on := 14, ground := Ground.guard }], guard := some (14, true) }) rfl (fun K hK => ?_) AllReadyH.nil
  go_simp
  go_at_call 24
  refine (NP.out _ hS.t).mono ?_
  rintro e w' ⟨rfl, b⟩
  have hS2 := hS.next b
  clear b hS
  try go_simp
  refine hK.out _ _ hS2 (fun hS => ?_)
  clear hK K hS2
  refine wpAnyH_ready (rs := [18]) (by kernel_rfl) (by simp) ?_
  refine AllReadyH.cons (o := { dst := some 117, op := Op.call { callee := Callee.value (Operand.func 25), args := #[Operand.tmp 116], argTypes := #[26] }, type := 26, pos := "law.go:52", after := #[{ on := 17, ground := Ground.data }, { on := 16, ground := Ground.chain }, { on := 14, ground := Ground.guard }], guard := some (14, true) }) rfl (fun K hK => ?_) AllReadyH.nil
  go_simp
  go_at_call 25
  refine (NR.out _ hS.t).mono ?_
  rintro e w' ⟨rfl, b⟩
  have hS2 := hS.next b
  clear b hS
  try go_simp
  refine hK.out _ _ hS2 (fun hS => ?_)
  clear hK K hS2
  refine wpAnyH_take (i := 19) (oi := { dst := some 118, op := Op.binOp BinOp.eql 26 (Operand.tmp 115) (Operand.tmp 117) 26, type := 4, pos := "law.go:52", after := #[{ on := 16, ground := Ground.data }, { on := 18, ground := Ground.data }, { on := 14, ground := Ground.guard }], guard := some (14, true) }) (v := ?vb19) rfl (by kernel_rfl) (by kernel_rfl) (by kernel_rfl) (fun _ _ _ h => h) (Or.inl ⟨by rfl, ?yb19⟩) hS ?rb19
  case yb19 => (intro w hS; go_simp; try with_reducible rfl)
  go_simp
  refine wpAnyH_take (i := 20) (oi := { dst := some 119, op := Op.pick (Operand.tmp 113) (Operand.tmp 118) (Operand.const (Value.bool false)), type := 4, pos := "law.go:52", after := #[{ on := 14, ground := Ground.data }, { on := 19, ground := Ground.data }], guard := none }) (v := ?vb20) rfl (by kernel_rfl) (by kernel_rfl) (by kernel_rfl) (fun _ _ _ h => h) (Or.inl ⟨by rfl, ?yb20⟩) hS ?rb20
  case yb20 => (intro w hS; go_simp; try with_reducible rfl)
  go_simp
  refine wpAnyH_take (i := 21) (oi := { dst := some 120, op := Op.move (Operand.tmp 119), type := 4, pos := "law.go:52", after := #[{ on := 20, ground := Ground.data }, { on := 18, ground := Ground.chain }], guard := none }) (v := ?vb21) rfl (by kernel_rfl) (by kernel_rfl) (by kernel_rfl) (fun _ _ _ h => h) (Or.inl ⟨by rfl, ?yb21⟩) hS ?rb21
  case yb21 => (intro w hS; go_simp; try with_reducible rfl)
  go_simp
  refine wpAnyH_take (i := 22) (oi := { dst := some 121, op := Op.load 26 (Operand.tmp 2), type := 26, pos := "law.go:52", after := #[{ on := 21, ground := Ground.guard }], guard := some (21, true) }) (v := .agg (rrow ga A B)) rfl (by kernel_rfl) (by kernel_rfl) (by kernel_rfl) (fun _ _ _ h => h) (Or.inl ⟨by rfl, ?yb22⟩) hS ?rb22
  case yb22 => exact fun w' hS => exec_load_row w' 26 (.tmp 2) rfl w.heap.size (by first | rfl | (simp [Act.eval])) 26 (rrow ga A B) (0, 0) _ (hS.row (by simp)) Tryz.underlying26 rfl info26.out
  refine wpAnyH_take (i := 24) (oi := { dst := some 123, op := Op.load 26 (Operand.tmp 2), type := 26, pos := "law.go:52", after := #[{ on := 21, ground := Ground.guard }], guard := some (21, true) }) (v := .agg (rrow ga A B)) rfl (by kernel_rfl) (by kernel_rfl) (by kernel_rfl) (fun _ _ _ h => h) (Or.inl ⟨by rfl, ?yb24⟩) hS ?rb24
  case yb24 => exact fun w' hS => exec_load_row w' 26 (.tmp 2) rfl w.heap.size (by first | rfl | (simp [Act.eval])) 26 (rrow ga A B) (0, 0) _ (hS.row (by simp)) Tryz.underlying26 rfl info26.out
  go_simp
  refine wpAnyH_ready (rs := [23]) (by kernel_rfl) (by simp) ?_
  refine AllReadyH.cons (o := { dst := some 122, op := Op.call { callee := Callee.value (Operand.func 28), args := #[Operand.tmp 121], argTypes := #[26] }, type := 9, pos := "law.go:52", after := #[{ on := 22, ground := Ground.data }, { on := 21, ground := Ground.chain }, { on := 21, ground := Ground.guard }], guard := some (21, true) }) rfl (fun K hK => ?_) AllReadyH.nil
  go_simp
  go_at_call 28
  refine (TP.out _ hS.t).mono ?_
  rintro e w' ⟨rfl, b⟩
  have hS2 := hS.next b
  clear b hS
  try go_simp
  refine hK.out _ _ hS2 (fun hS => ?_)
  clear hK K hS2
  refine wpAnyH_ready (rs := [25]) (by kernel_rfl) (by simp) ?_
  refine AllReadyH.cons (o := { dst := some 124, op := Op.call { callee := Callee.value (Operand.func 29), args := #[Operand.tmp 123], argTypes := #[26] }, type := 9, pos := "law.go:52", after := #[{ on := 24, ground := Ground.data }, { on := 23, ground := Ground.chain }, { on := 21, ground := Ground.guard }], guard := some (21, true) }) rfl (fun K hK => ?_) AllReadyH.nil
  go_simp
  go_at_call 29
  refine (TR.out _ hS.t).mono ?_
  rintro e w' ⟨rfl, b⟩
  have hS2 := hS.next b
  clear b hS
  try go_simp
  refine hK.out _ _ hS2 (fun hS => ?_)
  clear hK K hS2
  refine wpAnyH_take (i := 26) (oi := { dst := some 125, op := Op.binOp BinOp.eql 9 (Operand.tmp 122) (Operand.tmp 124) 9, type := 4, pos := "law.go:52", after := #[{ on := 23, ground := Ground.data }, { on := 25, ground := Ground.data }, { on := 21, ground := Ground.guard }], guard := some (21, true) }) (v := ?vb26) rfl (by kernel_rfl) (by kernel_rfl) (by kernel_rfl) (fun _ _ _ h => h) (Or.inl ⟨by rfl, ?yb26⟩) hS ?rb26
  case yb26 => (intro w hS; go_simp; try with_reducible rfl)
  go_simp
  refine wpAnyH_take (i := 27) (oi := { dst := some 126, op := Op.pick (Operand.tmp 120) (Operand.tmp 125) (Operand.const (Value.bool false)), type := 4, pos := "law.go:52", after := #[{ on := 21, ground := Ground.data }, { on := 26, ground := Ground.data }], guard := none }) (v := ?vb27) rfl (by kernel_rfl) (by kernel_rfl) (by kernel_rfl) (fun _ _ _ h => h) (Or.inl ⟨by rfl, ?yb27⟩) hS ?rb27
  case yb27 => (intro w hS; go_simp; try with_reducible rfl)
  go_simp
  refine wpAnyH_take (i := 28) (oi := { dst := some 11, op := Op.assign (Operand.tmp 126), type := 4, pos := "law.go:52", after := #[{ on := 27, ground := Ground.data }, { on := 25, ground := Ground.chain }, { on := 0, ground := Ground.phase }, { on := 1, ground := Ground.phase }, { on := 2, ground := Ground.phase }, { on := 3, ground := Ground.phase }, { on := 4, ground := Ground.phase }, { on := 5, ground := Ground.phase }, { on := 6, ground := Ground.phase }, { on := 7, ground := Ground.phase }, { on := 8, ground := Ground.phase }, { on := 9, ground := Ground.phase }, { on := 10, ground := Ground.phase }, { on := 11, ground := Ground.phase }, { on := 12, ground := Ground.phase }, { on := 13, ground := Ground.phase }, { on := 14, ground := Ground.phase }, { on := 15, ground := Ground.phase }, { on := 16, ground := Ground.phase }, { on := 17, ground := Ground.phase }, { on := 18, ground := Ground.phase }, { on := 19, ground := Ground.phase }, { on := 20, ground := Ground.phase }, { on := 21, ground := Ground.phase }, { on := 22, ground := Ground.phase }, { on := 23, ground := Ground.phase }, { on := 24, ground := Ground.phase }, { on := 25, ground := Ground.phase }, { on := 26, ground := Ground.phase }, { on := 27, ground := Ground.phase }], guard := none }) (v := ?vb28) rfl (by kernel_rfl) (by kernel_rfl) (by kernel_rfl) (fun _ _ _ h => h) (Or.inl ⟨by rfl, ?yb28⟩) hS ?rb28
  case yb28 => (intro w hS; go_simp; try with_reducible rfl)
  refine wpAnyH_done (by kernel_rfl) ?_ _
  have HR9 := Lib.hid hS
  clear hS E4
  go_upto_region 10 with fail
  have E5 := fun W => rrEq W g5 a5 b5
  refine wp_region_held_drew (S := KB w [(p9, rrow g0 a0 b0), (p7, rrow g0 a0 b0), (w.heap.size + 1, rrow gb C D), (w.heap.size, rrow ga A B)]) (by kernel_rfl) HR9.out.drew (fun hS => ?_)
  clear HR9
  refine wpAnyH_take (i := 0) (oi := { dst := some 127, op := Op.move (Operand.tmp 5), type := 4, pos := "law.go:53", after := #[], guard := none }) (v := ?vc0) rfl (by kernel_rfl) (by kernel_rfl) (by kernel_rfl) (fun _ _ _ h => h) (Or.inl ⟨by rfl, ?yc0⟩) hS ?rc0
  case yc0 => (intro w hS; go_simp; try with_reducible rfl)
  go_simp
  refine wpAnyH_take (i := 1) (oi := { dst := some 128, op := Op.move (Operand.tmp 127), type := 4, pos := "law.go:53", after := #[{ on := 0, ground := Ground.data }], guard := none }) (v := ?vc1) rfl (by kernel_rfl) (by kernel_rfl) (by kernel_rfl) (fun _ _ _ h => h) (Or.inl ⟨by rfl, ?yc1⟩) hS ?rc1
  case yc1 => (intro w hS; go_simp; try with_reducible rfl)
  go_simp
  refine wpAnyH_take (i := 2) (oi := { dst := some 129, op := Op.move (Operand.tmp 10), type := 4, pos := "law.go:53", after := #[{ on := 1, ground := Ground.guard }], guard := some (1, true) }) (v := ?vc2) rfl (by kernel_rfl) (by kernel_rfl) (by kernel_rfl) (fun _ _ _ h => h) (Or.inl ⟨by rfl, ?yc2⟩) hS ?rc2
  case yc2 => (intro w hS; go_simp; try with_reducible rfl)
  go_simp
  refine wpAnyH_take (i := 3) (oi := { dst := some 130, op := Op.pick (Operand.tmp 128) (Operand.tmp 129) (Operand.const (Value.bool false)), type := 4, pos := "law.go:53", after := #[{ on := 1, ground := Ground.data }, { on := 2, ground := Ground.data }], guard := none }) (v := ?vc3) rfl (by kernel_rfl) (by kernel_rfl) (by kernel_rfl) (fun _ _ _ h => h) (Or.inl ⟨by rfl, ?yc3⟩) hS ?rc3
  case yc3 => (intro w hS; go_simp; try with_reducible rfl)
  go_simp
  refine wpAnyH_take (i := 4) (oi := { dst := some 131, op := Op.move (Operand.tmp 130), type := 4, pos := "law.go:53", after := #[{ on := 3, ground := Ground.data }, { on := 1, ground := Ground.chain }], guard := none }) (v := ?vc4) rfl (by kernel_rfl) (by kernel_rfl) (by kernel_rfl) (fun _ _ _ h => h) (Or.inl ⟨by rfl, ?yc4⟩) hS ?rc4
  case yc4 => (intro w hS; go_simp; try with_reducible rfl)
  go_simp
  refine wpAnyH_take (i := 5) (oi := { dst := some 132, op := Op.move (Operand.tmp 11), type := 4, pos := "law.go:53", after := #[{ on := 4, ground := Ground.guard }], guard := some (4, true) }) (v := ?vc5) rfl (by kernel_rfl) (by kernel_rfl) (by kernel_rfl) (fun _ _ _ h => h) (Or.inl ⟨by rfl, ?yc5⟩) hS ?rc5
  case yc5 => (intro w hS; go_simp; try with_reducible rfl)
  go_simp
  refine wpAnyH_take (i := 6) (oi := { dst := some 133, op := Op.pick (Operand.tmp 131) (Operand.tmp 132) (Operand.const (Value.bool false)), type := 4, pos := "law.go:53", after := #[{ on := 4, ground := Ground.data }, { on := 5, ground := Ground.data }], guard := none }) (v := ?vc6) rfl (by kernel_rfl) (by kernel_rfl) (by kernel_rfl) (fun _ _ _ h => h) (Or.inl ⟨by rfl, ?yc6⟩) hS ?rc6
  case yc6 => (intro w hS; go_simp; try with_reducible rfl)
  go_simp
  refine wpAnyH_take (i := 7) (oi := { dst := some 134, op := Op.move (Operand.tmp 133), type := 4, pos := "law.go:53", after := #[{ on := 6, ground := Ground.data }, { on := 4, ground := Ground.chain }], guard := none }) (v := ?vc7) rfl (by kernel_rfl) (by kernel_rfl) (by kernel_rfl) (fun _ _ _ h => h) (Or.inl ⟨by rfl, ?yc7⟩) hS ?rc7
  case yc7 => (intro w hS; go_simp; try with_reducible rfl)
  go_simp
  refine wpAnyH_take (i := 8) (oi := { dst := some 135, op := Op.load 26 (Operand.tmp 2), type := 26, pos := "law.go:53", after := #[{ on := 7, ground := Ground.guard }], guard := some (7, true) }) (v := .agg (#[.bool ga, .string A, .string B])) rfl (by kernel_rfl) (by kernel_rfl) (by kernel_rfl) (fun _ _ _ h => h) (Or.inl ⟨by rfl, ?yc8⟩) hS ?rc8
  case yc8 => exact fun w' hS => exec_load_row w' 26 (.tmp 2) rfl w.heap.size (by first | rfl | (simp [Act.eval])) 26 (#[.bool ga, .string A, .string B]) (0, 0) _ (hS.row (cs := rrow ga A B) (by simp)) Tryz.underlying26 rfl info26.out
  refine wpAnyH_take (i := 9) (oi := { dst := some 136, op := Op.load 26 (Operand.tmp 3), type := 26, pos := "law.go:53", after := #[{ on := 7, ground := Ground.guard }], guard := some (7, true) }) (v := .agg (#[.bool gb, .string C, .string D])) rfl (by kernel_rfl) (by kernel_rfl) (by kernel_rfl) (fun _ _ _ h => h) (Or.inl ⟨by rfl, ?yc9⟩) hS ?rc9
  case yc9 => exact fun w' hS => exec_load_row w' 26 (.tmp 3) rfl (w.heap.size + 1) (by first | rfl | (simp [Act.eval])) 26 (#[.bool gb, .string C, .string D]) (0, 0) _ (hS.row (cs := rrow gb C D) (by simp)) Tryz.underlying26 rfl info26.out
  go_simp
  refine wpAnyH_ready (rs := [10]) (by kernel_rfl) (by simp) ?_
  refine AllReadyH.cons (o := { dst := some 137, op := Op.call { callee := Callee.value (Operand.func 14), args := #[Operand.tmp 135, Operand.tmp 136], argTypes := #[26, 26] }, type := 26, pos := "law.go:53", after := #[{ on := 8, ground := Ground.data }, { on := 9, ground := Ground.data }, { on := 7, ground := Ground.chain }, { on := 7, ground := Ground.guard }], guard := some (7, true) }) rfl (fun K hK => ?_) AllReadyH.nil
  go_simp
  go_at_call 14
  refine (AP.out _ hS.t).mono ?_
  rintro e w' ⟨rfl, b⟩
  have hS2 := hS.next b
  clear b hS
  try go_simp
  refine hK.out _ _ hS2 (fun hS => ?_)
  clear hK K hS2
  refine wpAnyH_ready (rs := [11]) (by kernel_rfl) (by simp) ?_
  refine AllReadyH.cons (o := { dst := some 138, op := Op.call { callee := Callee.value (Operand.func 26), args := #[Operand.tmp 137], argTypes := #[26] }, type := 4, pos := "law.go:53", after := #[{ on := 10, ground := Ground.data }, { on := 10, ground := Ground.chain }, { on := 7, ground := Ground.guard }], guard := some (7, true) }) rfl (fun K hK => ?_) AllReadyH.nil
  go_simp
  go_at_call 26
  refine (IA.out _ hS.t).mono ?_
  rintro e w' ⟨rfl, b⟩
  have hS2 := hS.next b
  clear b hS
  try go_simp
  refine hK.out _ _ hS2 (fun hS => ?_)
  clear hK K hS2
  refine wpAnyH_take (i := 12) (oi := { dst := some 139, op := Op.pick (Operand.tmp 134) (Operand.tmp 138) (Operand.const (Value.bool false)), type := 4, pos := "law.go:53", after := #[{ on := 7, ground := Ground.data }, { on := 11, ground := Ground.data }], guard := none }) (v := ?vc12) rfl (by kernel_rfl) (by kernel_rfl) (by kernel_rfl) (fun _ _ _ h => h) (Or.inl ⟨by rfl, ?yc12⟩) hS ?rc12
  case yc12 => (intro w hS; go_simp; try with_reducible rfl)
  go_simp
  refine wpAnyH_take (i := 13) (oi := { dst := some 140, op := Op.move (Operand.tmp 139), type := 4, pos := "law.go:53", after := #[{ on := 12, ground := Ground.data }, { on := 11, ground := Ground.chain }], guard := none }) (v := ?vc13) rfl (by kernel_rfl) (by kernel_rfl) (by kernel_rfl) (fun _ _ _ h => h) (Or.inl ⟨by rfl, ?yc13⟩) hS ?rc13
  case yc13 => (intro w hS; go_simp; try with_reducible rfl)
  go_simp
  refine wpAnyH_take (i := 14) (oi := { dst := some 141, op := Op.load 26 (Operand.tmp 2), type := 26, pos := "law.go:53", after := #[{ on := 13, ground := Ground.guard }], guard := some (13, true) }) (v := .agg (#[.bool ga, .string A, .string B])) rfl (by kernel_rfl) (by kernel_rfl) (by kernel_rfl) (fun _ _ _ h => h) (Or.inl ⟨by rfl, ?yc14⟩) hS ?rc14
  case yc14 => exact fun w' hS => exec_load_row w' 26 (.tmp 2) rfl w.heap.size (by first | rfl | (simp [Act.eval])) 26 (#[.bool ga, .string A, .string B]) (0, 0) _ (hS.row (cs := rrow ga A B) (by simp)) Tryz.underlying26 rfl info26.out
  go_simp
  refine wpAnyH_ready (rs := [15]) (by kernel_rfl) (by simp) ?_
  refine AllReadyH.cons (o := { dst := some 142, op := Op.call { callee := Callee.value (Operand.func 24), args := #[Operand.tmp 141], argTypes := #[26] }, type := 26, pos := "law.go:53", after := #[{ on := 14, ground := Ground.data }, { on := 13, ground := Ground.chain }, { on := 13, ground := Ground.guard }], guard := some (13, true) }) rfl (fun K hK => ?_) AllReadyH.nil
  go_simp
  go_at_call 24
  refine (NP.out _ hS.t).mono ?_
  rintro e w' ⟨rfl, b⟩
  have hS2 := hS.next b
  clear b hS
  try go_simp
  refine hK.out _ _ hS2 (fun hS => ?_)
  clear hK K hS2
  refine wpAnyH_ready (rs := [16]) (by kernel_rfl) (by simp) ?_
  refine AllReadyH.cons (o := { dst := some 143, op := Op.call { callee := Callee.value (Operand.func 26), args := #[Operand.tmp 142], argTypes := #[26] }, type := 4, pos := "law.go:53", after := #[{ on := 15, ground := Ground.data }, { on := 15, ground := Ground.chain }, { on := 13, ground := Ground.guard }], guard := some (13, true) }) rfl (fun K hK => ?_) AllReadyH.nil
  go_simp
  go_at_call 26
  refine (IN.out _ hS.t).mono ?_
  rintro e w' ⟨rfl, b⟩
  have hS2 := hS.next b
  clear b hS
  try go_simp
  refine hK.out _ _ hS2 (fun hS => ?_)
  clear hK K hS2
  refine wpAnyH_take (i := 17) (oi := { dst := some 144, op := Op.pick (Operand.tmp 140) (Operand.tmp 143) (Operand.const (Value.bool false)), type := 4, pos := "law.go:53", after := #[{ on := 13, ground := Ground.data }, { on := 16, ground := Ground.data }], guard := none }) (v := ?vc17) rfl (by kernel_rfl) (by kernel_rfl) (by kernel_rfl) (fun _ _ _ h => h) (Or.inl ⟨by rfl, ?yc17⟩) hS ?rc17
  case yc17 => (intro w hS; go_simp; try with_reducible rfl)
  go_simp
  refine wpAnyH_take (i := 18) (oi := { dst := some 145, op := Op.move (Operand.tmp 144), type := 4, pos := "law.go:53", after := #[{ on := 17, ground := Ground.data }, { on := 16, ground := Ground.chain }], guard := none }) (v := ?vc18) rfl (by kernel_rfl) (by kernel_rfl) (by kernel_rfl) (fun _ _ _ h => h) (Or.inl ⟨by rfl, ?yc18⟩) hS ?rc18
  case yc18 => (intro w hS; go_simp; try with_reducible rfl)
  go_simp
  refine wpAnyH_take (i := 19) (oi := { dst := some 146, op := Op.load 26 (Operand.tmp 2), type := 26, pos := "law.go:53", after := #[{ on := 18, ground := Ground.guard }], guard := some (18, true) }) (v := .agg (#[.bool ga, .string A, .string B])) rfl (by kernel_rfl) (by kernel_rfl) (by kernel_rfl) (fun _ _ _ h => h) (Or.inl ⟨by rfl, ?yc19⟩) hS ?rc19
  case yc19 => exact fun w' hS => exec_load_row w' 26 (.tmp 2) rfl w.heap.size (by first | rfl | (simp [Act.eval])) 26 (#[.bool ga, .string A, .string B]) (0, 0) _ (hS.row (cs := rrow ga A B) (by simp)) Tryz.underlying26 rfl info26.out
  refine wpAnyH_take (i := 20) (oi := { dst := some 147, op := Op.load 26 (Operand.tmp 3), type := 26, pos := "law.go:53", after := #[{ on := 18, ground := Ground.guard }], guard := some (18, true) }) (v := .agg (#[.bool gb, .string C, .string D])) rfl (by kernel_rfl) (by kernel_rfl) (by kernel_rfl) (fun _ _ _ h => h) (Or.inl ⟨by rfl, ?yc20⟩) hS ?rc20
  case yc20 => exact fun w' hS => exec_load_row w' 26 (.tmp 3) rfl (w.heap.size + 1) (by first | rfl | (simp [Act.eval])) 26 (#[.bool gb, .string C, .string D]) (0, 0) _ (hS.row (cs := rrow gb C D) (by simp)) Tryz.underlying26 rfl info26.out
  refine wpAnyH_take (i := 21) (oi := { dst := some 148, op := Op.load 26 (Operand.tmp 2), type := 26, pos := "law.go:53", after := #[{ on := 18, ground := Ground.guard }], guard := some (18, true) }) (v := .agg (#[.bool ga, .string A, .string B])) rfl (by kernel_rfl) (by kernel_rfl) (by kernel_rfl) (fun _ _ _ h => h) (Or.inl ⟨by rfl, ?yc21⟩) hS ?rc21
  case yc21 => exact fun w' hS => exec_load_row w' 26 (.tmp 2) rfl w.heap.size (by first | rfl | (simp [Act.eval])) 26 (#[.bool ga, .string A, .string B]) (0, 0) _ (hS.row (cs := rrow ga A B) (by simp)) Tryz.underlying26 rfl info26.out
  refine wpAnyH_take (i := 24) (oi := { dst := some 151, op := Op.load 26 (Operand.tmp 2), type := 26, pos := "law.go:53", after := #[{ on := 18, ground := Ground.guard }], guard := some (18, true) }) (v := .agg (#[.bool ga, .string A, .string B])) rfl (by kernel_rfl) (by kernel_rfl) (by kernel_rfl) (fun _ _ _ h => h) (Or.inl ⟨by rfl, ?yc24⟩) hS ?rc24
  case yc24 => exact fun w' hS => exec_load_row w' 26 (.tmp 2) rfl w.heap.size (by first | rfl | (simp [Act.eval])) 26 (#[.bool ga, .string A, .string B]) (0, 0) _ (hS.row (cs := rrow ga A B) (by simp)) Tryz.underlying26 rfl info26.out
  refine wpAnyH_take (i := 25) (oi := { dst := some 152, op := Op.load 26 (Operand.tmp 3), type := 26, pos := "law.go:53", after := #[{ on := 18, ground := Ground.guard }], guard := some (18, true) }) (v := .agg (#[.bool gb, .string C, .string D])) rfl (by kernel_rfl) (by kernel_rfl) (by kernel_rfl) (fun _ _ _ h => h) (Or.inl ⟨by rfl, ?yc25⟩) hS ?rc25
  case yc25 => exact fun w' hS => exec_load_row w' 26 (.tmp 3) rfl (w.heap.size + 1) (by first | rfl | (simp [Act.eval])) 26 (#[.bool gb, .string C, .string D]) (0, 0) _ (hS.row (cs := rrow gb C D) (by simp)) Tryz.underlying26 rfl info26.out
  refine wpAnyH_take (i := 26) (oi := { dst := some 153, op := Op.load 26 (Operand.tmp 2), type := 26, pos := "law.go:53", after := #[{ on := 18, ground := Ground.guard }], guard := some (18, true) }) (v := .agg (#[.bool ga, .string A, .string B])) rfl (by kernel_rfl) (by kernel_rfl) (by kernel_rfl) (fun _ _ _ h => h) (Or.inl ⟨by rfl, ?yc26⟩) hS ?rc26
  case yc26 => exact fun w' hS => exec_load_row w' 26 (.tmp 2) rfl w.heap.size (by first | rfl | (simp [Act.eval])) 26 (#[.bool ga, .string A, .string B]) (0, 0) _ (hS.row (cs := rrow ga A B) (by simp)) Tryz.underlying26 rfl info26.out
  go_simp
  refine wpAnyH_ready (rs := [22, 27]) (by kernel_rfl) (by simp) ?_
  refine AllReadyH.cons (o := { dst := some 149, op := Op.buildSlice 38 3 #[(0, Operand.tmp 146), (1, Operand.tmp 147), (2, Operand.tmp 148)], type := 38, pos := "law.go:53", after := #[{ on := 19, ground := Ground.data }, { on := 20, ground := Ground.data }, { on := 21, ground := Ground.data }, { on := 18, ground := Ground.guard }], guard := some (18, true) }) rfl (fun K hK => ?_) (AllReadyH.cons (o := { dst := some 154, op := Op.buildSlice 38 3 #[(0, Operand.tmp 151), (1, Operand.tmp 152), (2, Operand.tmp 153)], type := 38, pos := "law.go:53", after := #[{ on := 24, ground := Ground.data }, { on := 25, ground := Ground.data }, { on := 26, ground := Ground.data }, { on := 18, ground := Ground.guard }], guard := some (18, true) }) rfl (fun K hK => ?_) AllReadyH.nil)
  · go_simp
    have hRLcx22 : RL (w'.alloc (.cells #[.bool ga, .string A, .string B, .bool gb, .string C, .string D, .bool ga, .string A, .string B] 26)) w'.heap.size [(ga, A, B), (gb, C, D), (ga, A, B)] := rl3 w' 26 (ga, A, B) (gb, C, D) (ga, A, B)
    have hRlcx22 : w'.heap.size < (w'.alloc (.cells #[.bool ga, .string A, .string B, .bool gb, .string C, .string D, .bool ga, .string A, .string B] 26)).heap.size := by simp
    have bb := (Below.refl w'.heap.size w').alloc (Nat.le_refl _) (.cells #[.bool ga, .string A, .string B, .bool gb, .string C, .string D, .bool ga, .string A, .string B] 26)
    have hS2 := hS.next bb
    clear bb hS
    refine hK.out _ _ hS2 (fun hS => ?_)
    clear hK K hS2
    obtain ⟨pcx22, hpz⟩ : ∃ pz, w'.heap.size = pz := ⟨_, rfl⟩
    rw [hpz] at hRLcx22 hRlcx22 ⊢
    clear hpz
    generalize w'.alloc (.cells #[.bool ga, .string A, .string B, .bool gb, .string C, .string D, .bool ga, .string A, .string B] 26) = vcx0 at *
    refine wpAnyH_ready (rs := [23, 27]) (by kernel_rfl) (by simp) ?_
    refine AllReadyH.cons (o := { dst := some 150, op := Op.call { callee := Callee.value (Operand.func 30), args := #[Operand.tmp 149], argTypes := #[38] }, type := 26, pos := "law.go:53", after := #[{ on := 22, ground := Ground.data }, { on := 18, ground := Ground.chain }, { on := 18, ground := Ground.guard }], guard := some (18, true) }) rfl (fun K hK => ?_) (AllReadyH.cons (o := { dst := some 154, op := Op.buildSlice 38 3 #[(0, Operand.tmp 151), (1, Operand.tmp 152), (2, Operand.tmp 153)], type := 38, pos := "law.go:53", after := #[{ on := 24, ground := Ground.data }, { on := 25, ground := Ground.data }, { on := 26, ground := Ground.data }, { on := 18, ground := Ground.guard }], guard := some (18, true) }) rfl (fun K hK => ?_) AllReadyH.nil)
    · have hRLcxx22 := hRLcx22
      have hRlcxx22 := hRlcx22
      clear hRLcx22 hRlcx22
      obtain ⟨pcxx22, hpp⟩ : ∃ p, pcx22 = p := ⟨_, rfl⟩
      rw [hpp] at hRLcxx22 hRlcxx22 ⊢
      clear hpp
      go_simp
      go_at_call 30
      refine (UP.out _ pcxx22 hRLcxx22 hRlcxx22 hS.t).mono ?_
      rintro e vcxx1 ⟨rfl, b⟩
      have hS2 := hS.next b
      clear b hS hRLcxx22 hRlcxx22
      try go_simp
      refine hK.out _ _ hS2 (fun hS => ?_)
      clear hK K hS2
      refine wpAnyH_ready (rs := [27]) (by kernel_rfl) (by simp) ?_
      refine AllReadyH.cons (o := { dst := some 154, op := Op.buildSlice 38 3 #[(0, Operand.tmp 151), (1, Operand.tmp 152), (2, Operand.tmp 153)], type := 38, pos := "law.go:53", after := #[{ on := 24, ground := Ground.data }, { on := 25, ground := Ground.data }, { on := 26, ground := Ground.data }, { on := 18, ground := Ground.guard }], guard := some (18, true) }) rfl (fun K hK => ?_) AllReadyH.nil
      go_simp
      have hRLcxx27 : RL (vcxx1.alloc (.cells #[.bool ga, .string A, .string B, .bool gb, .string C, .string D, .bool ga, .string A, .string B] 26)) vcxx1.heap.size [(ga, A, B), (gb, C, D), (ga, A, B)] := rl3 vcxx1 26 (ga, A, B) (gb, C, D) (ga, A, B)
      have hRlcxx27 : vcxx1.heap.size < (vcxx1.alloc (.cells #[.bool ga, .string A, .string B, .bool gb, .string C, .string D, .bool ga, .string A, .string B] 26)).heap.size := by simp
      have bb := (Below.refl vcxx1.heap.size vcxx1).alloc (Nat.le_refl _) (.cells #[.bool ga, .string A, .string B, .bool gb, .string C, .string D, .bool ga, .string A, .string B] 26)
      have hS2 := hS.next bb
      clear bb hS
      refine hK.out _ _ hS2 (fun hS => ?_)
      clear hK K hS2
      obtain ⟨pcxx27, hpz⟩ : ∃ pz, vcxx1.heap.size = pz := ⟨_, rfl⟩
      rw [hpz] at hRLcxx27 hRlcxx27 ⊢
      clear hpz
      generalize vcxx1.alloc (.cells #[.bool ga, .string A, .string B, .bool gb, .string C, .string D, .bool ga, .string A, .string B] 26) = vcxx2 at *
      refine wpAnyH_ready (rs := [28]) (by kernel_rfl) (by simp) ?_
      refine AllReadyH.cons (o := { dst := some 155, op := Op.call { callee := Callee.value (Operand.func 31), args := #[Operand.tmp 154], argTypes := #[38] }, type := 26, pos := "law.go:53", after := #[{ on := 27, ground := Ground.data }, { on := 23, ground := Ground.chain }, { on := 18, ground := Ground.guard }], guard := some (18, true) }) rfl (fun K hK => ?_) AllReadyH.nil
      go_simp
      go_at_call 31
      refine (UR.out _ pcxx27 hRLcxx27 hRlcxx27 hS.t).mono ?_
      rintro e vcxx3 ⟨rfl, b⟩
      have hS2 := hS.next b
      clear b hS hRLcxx27 hRlcxx27
      try go_simp
      refine hK.out _ _ hS2 (fun hS => ?_)
      clear hK K hS2
      refine wpAnyH_take (i := 29) (oi := { dst := some 156, op := Op.binOp BinOp.eql 26 (Operand.tmp 150) (Operand.tmp 155) 26, type := 4, pos := "law.go:53", after := #[{ on := 23, ground := Ground.data }, { on := 28, ground := Ground.data }, { on := 18, ground := Ground.guard }], guard := some (18, true) }) (v := ?vcxx29) rfl (by kernel_rfl) (by kernel_rfl) (by kernel_rfl) (fun _ _ _ h => h) (Or.inl ⟨by rfl, ?ycxx29⟩) hS ?rcxx29
      case ycxx29 => (intro w hS; go_simp; try with_reducible rfl)
      go_simp
      refine wpAnyH_take (i := 30) (oi := { dst := some 157, op := Op.pick (Operand.tmp 145) (Operand.tmp 156) (Operand.const (Value.bool false)), type := 4, pos := "law.go:53", after := #[{ on := 18, ground := Ground.data }, { on := 29, ground := Ground.data }], guard := none }) (v := ?vcxx30) rfl (by kernel_rfl) (by kernel_rfl) (by kernel_rfl) (fun _ _ _ h => h) (Or.inl ⟨by rfl, ?ycxx30⟩) hS ?rcxx30
      case ycxx30 => (intro w hS; go_simp; try with_reducible rfl)
      go_simp
      refine wpAnyH_take (i := 31) (oi := { dst := some 4, op := Op.assign (Operand.tmp 157), type := 4, pos := "law.go:53", after := #[{ on := 30, ground := Ground.data }, { on := 28, ground := Ground.chain }, { on := 0, ground := Ground.phase }, { on := 1, ground := Ground.phase }, { on := 2, ground := Ground.phase }, { on := 3, ground := Ground.phase }, { on := 4, ground := Ground.phase }, { on := 5, ground := Ground.phase }, { on := 6, ground := Ground.phase }, { on := 7, ground := Ground.phase }, { on := 8, ground := Ground.phase }, { on := 9, ground := Ground.phase }, { on := 10, ground := Ground.phase }, { on := 11, ground := Ground.phase }, { on := 12, ground := Ground.phase }, { on := 13, ground := Ground.phase }, { on := 14, ground := Ground.phase }, { on := 15, ground := Ground.phase }, { on := 16, ground := Ground.phase }, { on := 17, ground := Ground.phase }, { on := 18, ground := Ground.phase }, { on := 19, ground := Ground.phase }, { on := 20, ground := Ground.phase }, { on := 21, ground := Ground.phase }, { on := 22, ground := Ground.phase }, { on := 23, ground := Ground.phase }, { on := 24, ground := Ground.phase }, { on := 25, ground := Ground.phase }, { on := 26, ground := Ground.phase }, { on := 27, ground := Ground.phase }, { on := 28, ground := Ground.phase }, { on := 29, ground := Ground.phase }, { on := 30, ground := Ground.phase }], guard := none }) (v := ?vcxx31) rfl (by kernel_rfl) (by kernel_rfl) (by kernel_rfl) (fun _ _ _ h => h) (Or.inl ⟨by rfl, ?ycxx31⟩) hS ?rcxx31
      case ycxx31 => (intro w hS; go_simp; try with_reducible rfl)
      refine wpAnyH_done (by kernel_rfl) ?_ _
      go_wp2
      go_ret
      exact ⟨rfl, hS.b⟩
    · have hRLcxy22 := hRLcx22
      have hRlcxy22 := hRlcx22
      clear hRLcx22 hRlcx22
      obtain ⟨pcxy22, hpp⟩ : ∃ p, pcx22 = p := ⟨_, rfl⟩
      rw [hpp] at hRLcxy22 hRlcxy22 ⊢
      clear hpp
      go_simp
      have hRLcxy27 : RL (vcx0.alloc (.cells #[.bool ga, .string A, .string B, .bool gb, .string C, .string D, .bool ga, .string A, .string B] 26)) vcx0.heap.size [(ga, A, B), (gb, C, D), (ga, A, B)] := rl3 vcx0 26 (ga, A, B) (gb, C, D) (ga, A, B)
      have hRlcxy27 : vcx0.heap.size < (vcx0.alloc (.cells #[.bool ga, .string A, .string B, .bool gb, .string C, .string D, .bool ga, .string A, .string B] 26)).heap.size := by simp
      have bb := (Below.refl vcx0.heap.size vcx0).alloc (Nat.le_refl _) (.cells #[.bool ga, .string A, .string B, .bool gb, .string C, .string D, .bool ga, .string A, .string B] 26)
      have hS2 := hS.next bb
      have Qcxy22 := hRLcxy22.below bb hRlcxy22
      have qcxy22 := Nat.lt_of_lt_of_le hRlcxy22 bb.size
      clear hRLcxy22 hRlcxy22
      have hRLcxy22 := Qcxy22
      have hRlcxy22 := qcxy22
      clear Qcxy22 qcxy22
      clear bb hS
      refine hK.out _ _ hS2 (fun hS => ?_)
      clear hK K hS2
      obtain ⟨pcxy27, hpz⟩ : ∃ pz, vcx0.heap.size = pz := ⟨_, rfl⟩
      rw [hpz] at hRLcxy27 hRlcxy27 ⊢
      clear hpz
      generalize vcx0.alloc (.cells #[.bool ga, .string A, .string B, .bool gb, .string C, .string D, .bool ga, .string A, .string B] 26) = vcxy1 at *
      refine wpAnyH_ready (rs := [23]) (by kernel_rfl) (by simp) ?_
      refine AllReadyH.cons (o := { dst := some 150, op := Op.call { callee := Callee.value (Operand.func 30), args := #[Operand.tmp 149], argTypes := #[38] }, type := 26, pos := "law.go:53", after := #[{ on := 22, ground := Ground.data }, { on := 18, ground := Ground.chain }, { on := 18, ground := Ground.guard }], guard := some (18, true) }) rfl (fun K hK => ?_) AllReadyH.nil
      go_simp
      go_at_call 30
      refine (UP.out _ pcxy22 hRLcxy22 hRlcxy22 hS.t).mono ?_
      rintro e vcxy2 ⟨rfl, b⟩
      have hS2 := hS.next b
      have Qcxy27 := hRLcxy27.below b hRlcxy27
      have qcxy27 := Nat.lt_of_lt_of_le hRlcxy27 b.size
      clear hRLcxy27 hRlcxy27
      have hRLcxy27 := Qcxy27
      have hRlcxy27 := qcxy27
      clear Qcxy27 qcxy27
      clear b hS hRLcxy22 hRlcxy22
      try go_simp
      refine hK.out _ _ hS2 (fun hS => ?_)
      clear hK K hS2
      refine wpAnyH_ready (rs := [28]) (by kernel_rfl) (by simp) ?_
      refine AllReadyH.cons (o := { dst := some 155, op := Op.call { callee := Callee.value (Operand.func 31), args := #[Operand.tmp 154], argTypes := #[38] }, type := 26, pos := "law.go:53", after := #[{ on := 27, ground := Ground.data }, { on := 23, ground := Ground.chain }, { on := 18, ground := Ground.guard }], guard := some (18, true) }) rfl (fun K hK => ?_) AllReadyH.nil
      go_simp
      go_at_call 31
      refine (UR.out _ pcxy27 hRLcxy27 hRlcxy27 hS.t).mono ?_
      rintro e vcxy3 ⟨rfl, b⟩
      have hS2 := hS.next b
      clear b hS hRLcxy27 hRlcxy27
      try go_simp
      refine hK.out _ _ hS2 (fun hS => ?_)
      clear hK K hS2
      refine wpAnyH_take (i := 29) (oi := { dst := some 156, op := Op.binOp BinOp.eql 26 (Operand.tmp 150) (Operand.tmp 155) 26, type := 4, pos := "law.go:53", after := #[{ on := 23, ground := Ground.data }, { on := 28, ground := Ground.data }, { on := 18, ground := Ground.guard }], guard := some (18, true) }) (v := ?vcxy29) rfl (by kernel_rfl) (by kernel_rfl) (by kernel_rfl) (fun _ _ _ h => h) (Or.inl ⟨by rfl, ?ycxy29⟩) hS ?rcxy29
      case ycxy29 => (intro w hS; go_simp; try with_reducible rfl)
      go_simp
      refine wpAnyH_take (i := 30) (oi := { dst := some 157, op := Op.pick (Operand.tmp 145) (Operand.tmp 156) (Operand.const (Value.bool false)), type := 4, pos := "law.go:53", after := #[{ on := 18, ground := Ground.data }, { on := 29, ground := Ground.data }], guard := none }) (v := ?vcxy30) rfl (by kernel_rfl) (by kernel_rfl) (by kernel_rfl) (fun _ _ _ h => h) (Or.inl ⟨by rfl, ?ycxy30⟩) hS ?rcxy30
      case ycxy30 => (intro w hS; go_simp; try with_reducible rfl)
      go_simp
      refine wpAnyH_take (i := 31) (oi := { dst := some 4, op := Op.assign (Operand.tmp 157), type := 4, pos := "law.go:53", after := #[{ on := 30, ground := Ground.data }, { on := 28, ground := Ground.chain }, { on := 0, ground := Ground.phase }, { on := 1, ground := Ground.phase }, { on := 2, ground := Ground.phase }, { on := 3, ground := Ground.phase }, { on := 4, ground := Ground.phase }, { on := 5, ground := Ground.phase }, { on := 6, ground := Ground.phase }, { on := 7, ground := Ground.phase }, { on := 8, ground := Ground.phase }, { on := 9, ground := Ground.phase }, { on := 10, ground := Ground.phase }, { on := 11, ground := Ground.phase }, { on := 12, ground := Ground.phase }, { on := 13, ground := Ground.phase }, { on := 14, ground := Ground.phase }, { on := 15, ground := Ground.phase }, { on := 16, ground := Ground.phase }, { on := 17, ground := Ground.phase }, { on := 18, ground := Ground.phase }, { on := 19, ground := Ground.phase }, { on := 20, ground := Ground.phase }, { on := 21, ground := Ground.phase }, { on := 22, ground := Ground.phase }, { on := 23, ground := Ground.phase }, { on := 24, ground := Ground.phase }, { on := 25, ground := Ground.phase }, { on := 26, ground := Ground.phase }, { on := 27, ground := Ground.phase }, { on := 28, ground := Ground.phase }, { on := 29, ground := Ground.phase }, { on := 30, ground := Ground.phase }], guard := none }) (v := ?vcxy31) rfl (by kernel_rfl) (by kernel_rfl) (by kernel_rfl) (fun _ _ _ h => h) (Or.inl ⟨by rfl, ?ycxy31⟩) hS ?rcxy31
      case ycxy31 => (intro w hS; go_simp; try with_reducible rfl)
      refine wpAnyH_done (by kernel_rfl) ?_ _
      go_wp2
      go_ret
      exact ⟨rfl, hS.b⟩
  · go_simp
    have hRLcy27 : RL (w'.alloc (.cells #[.bool ga, .string A, .string B, .bool gb, .string C, .string D, .bool ga, .string A, .string B] 26)) w'.heap.size [(ga, A, B), (gb, C, D), (ga, A, B)] := rl3 w' 26 (ga, A, B) (gb, C, D) (ga, A, B)
    have hRlcy27 : w'.heap.size < (w'.alloc (.cells #[.bool ga, .string A, .string B, .bool gb, .string C, .string D, .bool ga, .string A, .string B] 26)).heap.size := by simp
    have bb := (Below.refl w'.heap.size w').alloc (Nat.le_refl _) (.cells #[.bool ga, .string A, .string B, .bool gb, .string C, .string D, .bool ga, .string A, .string B] 26)
    have hS2 := hS.next bb
    clear bb hS
    refine hK.out _ _ hS2 (fun hS => ?_)
    clear hK K hS2
    obtain ⟨pcy27, hpz⟩ : ∃ pz, w'.heap.size = pz := ⟨_, rfl⟩
    rw [hpz] at hRLcy27 hRlcy27 ⊢
    clear hpz
    generalize w'.alloc (.cells #[.bool ga, .string A, .string B, .bool gb, .string C, .string D, .bool ga, .string A, .string B] 26) = vcy0 at *
    refine wpAnyH_ready (rs := [22]) (by kernel_rfl) (by simp) ?_
    refine AllReadyH.cons (o := { dst := some 149, op := Op.buildSlice 38 3 #[(0, Operand.tmp 146), (1, Operand.tmp 147), (2, Operand.tmp 148)], type := 38, pos := "law.go:53", after := #[{ on := 19, ground := Ground.data }, { on := 20, ground := Ground.data }, { on := 21, ground := Ground.data }, { on := 18, ground := Ground.guard }], guard := some (18, true) }) rfl (fun K hK => ?_) AllReadyH.nil
    go_simp
    have hRLcy22 : RL (vcy0.alloc (.cells #[.bool ga, .string A, .string B, .bool gb, .string C, .string D, .bool ga, .string A, .string B] 26)) vcy0.heap.size [(ga, A, B), (gb, C, D), (ga, A, B)] := rl3 vcy0 26 (ga, A, B) (gb, C, D) (ga, A, B)
    have hRlcy22 : vcy0.heap.size < (vcy0.alloc (.cells #[.bool ga, .string A, .string B, .bool gb, .string C, .string D, .bool ga, .string A, .string B] 26)).heap.size := by simp
    have bb := (Below.refl vcy0.heap.size vcy0).alloc (Nat.le_refl _) (.cells #[.bool ga, .string A, .string B, .bool gb, .string C, .string D, .bool ga, .string A, .string B] 26)
    have hS2 := hS.next bb
    have Qcy27 := hRLcy27.below bb hRlcy27
    have qcy27 := Nat.lt_of_lt_of_le hRlcy27 bb.size
    clear hRLcy27 hRlcy27
    have hRLcy27 := Qcy27
    have hRlcy27 := qcy27
    clear Qcy27 qcy27
    clear bb hS
    refine hK.out _ _ hS2 (fun hS => ?_)
    clear hK K hS2
    obtain ⟨pcy22, hpz⟩ : ∃ pz, vcy0.heap.size = pz := ⟨_, rfl⟩
    rw [hpz] at hRLcy22 hRlcy22 ⊢
    clear hpz
    generalize vcy0.alloc (.cells #[.bool ga, .string A, .string B, .bool gb, .string C, .string D, .bool ga, .string A, .string B] 26) = vcy1 at *
    refine wpAnyH_ready (rs := [23]) (by kernel_rfl) (by simp) ?_
    refine AllReadyH.cons (o := { dst := some 150, op := Op.call { callee := Callee.value (Operand.func 30), args := #[Operand.tmp 149], argTypes := #[38] }, type := 26, pos := "law.go:53", after := #[{ on := 22, ground := Ground.data }, { on := 18, ground := Ground.chain }, { on := 18, ground := Ground.guard }], guard := some (18, true) }) rfl (fun K hK => ?_) AllReadyH.nil
    go_simp
    go_at_call 30
    refine (UP.out _ pcy22 hRLcy22 hRlcy22 hS.t).mono ?_
    rintro e vcy2 ⟨rfl, b⟩
    have hS2 := hS.next b
    have Qcy27 := hRLcy27.below b hRlcy27
    have qcy27 := Nat.lt_of_lt_of_le hRlcy27 b.size
    clear hRLcy27 hRlcy27
    have hRLcy27 := Qcy27
    have hRlcy27 := qcy27
    clear Qcy27 qcy27
    clear b hS hRLcy22 hRlcy22
    try go_simp
    refine hK.out _ _ hS2 (fun hS => ?_)
    clear hK K hS2
    refine wpAnyH_ready (rs := [28]) (by kernel_rfl) (by simp) ?_
    refine AllReadyH.cons (o := { dst := some 155, op := Op.call { callee := Callee.value (Operand.func 31), args := #[Operand.tmp 154], argTypes := #[38] }, type := 26, pos := "law.go:53", after := #[{ on := 27, ground := Ground.data }, { on := 23, ground := Ground.chain }, { on := 18, ground := Ground.guard }], guard := some (18, true) }) rfl (fun K hK => ?_) AllReadyH.nil
    go_simp
    go_at_call 31
    refine (UR.out _ pcy27 hRLcy27 hRlcy27 hS.t).mono ?_
    rintro e vcy3 ⟨rfl, b⟩
    have hS2 := hS.next b
    clear b hS hRLcy27 hRlcy27
    try go_simp
    refine hK.out _ _ hS2 (fun hS => ?_)
    clear hK K hS2
    refine wpAnyH_take (i := 29) (oi := { dst := some 156, op := Op.binOp BinOp.eql 26 (Operand.tmp 150) (Operand.tmp 155) 26, type := 4, pos := "law.go:53", after := #[{ on := 23, ground := Ground.data }, { on := 28, ground := Ground.data }, { on := 18, ground := Ground.guard }], guard := some (18, true) }) (v := ?vcy29) rfl (by kernel_rfl) (by kernel_rfl) (by kernel_rfl) (fun _ _ _ h => h) (Or.inl ⟨by rfl, ?ycy29⟩) hS ?rcy29
    case ycy29 => (intro w hS; go_simp; try with_reducible rfl)
    go_simp
    refine wpAnyH_take (i := 30) (oi := { dst := some 157, op := Op.pick (Operand.tmp 145) (Operand.tmp 156) (Operand.const (Value.bool false)), type := 4, pos := "law.go:53", after := #[{ on := 18, ground := Ground.data }, { on := 29, ground := Ground.data }], guard := none }) (v := ?vcy30) rfl (by kernel_rfl) (by kernel_rfl) (by kernel_rfl) (fun _ _ _ h => h) (Or.inl ⟨by rfl, ?ycy30⟩) hS ?rcy30
    case ycy30 => (intro w hS; go_simp; try with_reducible rfl)
    go_simp
    refine wpAnyH_take (i := 31) (oi := { dst := some 4, op := Op.assign (Operand.tmp 157), type := 4, pos := "law.go:53", after := #[{ on := 30, ground := Ground.data }, { on := 28, ground := Ground.chain }, { on := 0, ground := Ground.phase }, { on := 1, ground := Ground.phase }, { on := 2, ground := Ground.phase }, { on := 3, ground := Ground.phase }, { on := 4, ground := Ground.phase }, { on := 5, ground := Ground.phase }, { on := 6, ground := Ground.phase }, { on := 7, ground := Ground.phase }, { on := 8, ground := Ground.phase }, { on := 9, ground := Ground.phase }, { on := 10, ground := Ground.phase }, { on := 11, ground := Ground.phase }, { on := 12, ground := Ground.phase }, { on := 13, ground := Ground.phase }, { on := 14, ground := Ground.phase }, { on := 15, ground := Ground.phase }, { on := 16, ground := Ground.phase }, { on := 17, ground := Ground.phase }, { on := 18, ground := Ground.phase }, { on := 19, ground := Ground.phase }, { on := 20, ground := Ground.phase }, { on := 21, ground := Ground.phase }, { on := 22, ground := Ground.phase }, { on := 23, ground := Ground.phase }, { on := 24, ground := Ground.phase }, { on := 25, ground := Ground.phase }, { on := 26, ground := Ground.phase }, { on := 27, ground := Ground.phase }, { on := 28, ground := Ground.phase }, { on := 29, ground := Ground.phase }, { on := 30, ground := Ground.phase }], guard := none }) (v := ?vcy31) rfl (by kernel_rfl) (by kernel_rfl) (by kernel_rfl) (fun _ _ _ h => h) (Or.inl ⟨by rfl, ?ycy31⟩) hS ?rcy31
    case ycy31 => (intro w hS; go_simp; try with_reducible rfl)
    refine wpAnyH_done (by kernel_rfl) ?_ _
    go_wp2
    go_ret
    exact ⟨rfl, hS.b⟩
end Go.Proofs.YteccbedmpjeamaaGreatDoor
namespace Go.Proofs.YteccbedmpjeamaaGreatDoor
open Go.RowKit NM QM
set_option maxRecDepth 100000 in
set_option maxHeartbeats 4000000 in
theorem qSign (w : World) (g : Bool) (A B : ByteArray) (N : Nat) (hA : A.size ≤ N) (hB : B.size ≤ N) (hN : N ≤ 1000000) (hT : Tp w) :
    Calls Tryz.prog 22 #[RW g A B] w fun e w' => e = .returned (.int .i64 (sq (rvq g A B))) ∧ Below w.heap.size w w' := by
  have VV := fun W (h : Tp W) => valid_any W g A B N hA hB hN h.b
  generalize rvq g A B = a at *
  have hs := r1_start w (rrow g A B)
  obtain ⟨W, hW⟩ : ∃ W, w.alloc (.cells (rrow g A B) 26) = W := ⟨_, rfl⟩
  rw [hW] at hs
  have HW := Lib.hid (And.intro hW (And.intro hs (And.intro (hT.below hs.b) VV)))
  have HT := Lib.hid hT
  have c0 : W.cell? ⟨w.heap.size, 0, none⟩ = some (.bool g) := cell_of_row _ _ 0 _ _ _ hs.r
  have c1 : W.cell? ⟨w.heap.size, 1, none⟩ = some (.string A) := cell_of_row _ _ 1 _ _ _ hs.r
  have c2 : W.cell? ⟨w.heap.size, 2, none⟩ = some (.string B) := cell_of_row _ _ 2 _ _ _ hs.r
  clear hW hs VV hT hA hB
  unfold RW
  go_enter Tryz.func22, Tryz.ntmps22
  go_upto_region 1 with fail
  change Code.wp _ _ _ _ (w.alloc (.cells (rrow g A B) 26))
  rw [HW.out.1]
  go_wp2_with fail
  refine (HW.out.2.2.2 _ HW.out.2.2.1).mono ?_
  rintro e w1 ⟨rfl, b1⟩
  have H1 := Lib.hid (HW.out.2.1.next b1)
  clear b1 c0 c1 c2
  unfold QV
  go_upto_region 2 with (refine wpList_store_row rfl 26 (.tmp 1) (.tmp 4) rfl w.heap.size (qcells a) rfl rfl 26 (rrow g A B) H1.out.r info26.out rfl (qone _) ?_)
  have hB := Below.setRow' H1.out.b (Nat.le_refl _) (qcells a)
  have hr := setRow_heap _ _ _ (qcells a) _ _ H1.out.r
  generalize w1.setRow w.heap.size (qcells a) = Y at *
  obtain ⟨z0, z1, z2⟩ := (HT.out.below hB).b.z
  have HB := Lib.hid hB
  have c0 : Y.cell? ⟨w.heap.size, 0, none⟩ = some (.bool (decide (a.num < 0))) := cell_of_row _ _ 0 _ _ _ hr
  have c1 : Y.cell? ⟨w.heap.size, 1, none⟩ = some (.string (NB a.num.natAbs)) := cell_of_row _ _ 1 _ _ _ hr
  have c2 : Y.cell? ⟨w.heap.size, 2, none⟩ = some (.string (NB a.den)) := cell_of_row _ _ 2 _ _ _ hr
  clear hB hr H1 HW HT
  by_cases h : a.num < 0
  · have hs : sq a = -1 := by unfold sq; rw [if_pos h]
    rw [decide_eq_true h] at c0
    have HS := Lib.hid hs
    clear hs h
    go_wp2
    go_ret
    exact ⟨by rw [HS.out]; rfl, HB.out⟩
  · rw [decide_eq_false h] at c0
    by_cases h0 : a.num = 0
    · have hs : sq a = 0 := by unfold sq; rw [if_neg h, if_pos h0]
      have ha0 : a = 0 := Rat.num_eq_zero.1 h0
      have e1 : NB a.num.natAbs = ⟨#[]⟩ := by rw [h0]; exact NB_zero
      have e2 : NB a.den = ⟨#[1]⟩ := by rw [ha0]; exact NB_one
      rw [e1] at c1
      rw [e2] at c2
      have HS := Lib.hid hs
      clear hs h h0 ha0 e1 e2
      go_wp2
      go_ret
      exact ⟨by rw [HS.out]; rfl, HB.out⟩
    · have hs : sq a = 1 := by unfold sq; rw [if_neg h, if_neg h0]
      have hne := nz_parts (b := a) (fun e => h0 (by rw [e]; rfl))
      generalize NB a.num.natAbs = A' at *
      generalize NB a.den = B' at *
      have HS := Lib.hid hs
      clear hs h h0
      go_wp2
      go_ret
      exact ⟨by rw [HS.out]; rfl, HB.out⟩
theorem raw_szl (ga gb : Bool) (A B C D : ByteArray) (hA : A.size ≤ 20) (hB : B.size ≤ 20) (hC : C.size ≤ 20) (hD : D.size ≤ 20) : SzL 20 [(ga, A, B), (gb, C, D), (ga, A, B)] := by
  intro t ht
  simp only [List.mem_cons, List.not_mem_nil, or_false] at ht
  rcases ht with rfl | rfl | rfl
  · exact ⟨hA, hB⟩
  · exact ⟨hC, hD⟩
  · exact ⟨hA, hB⟩
theorem raw_mid (w : World) (ga gb ok g0 : Bool) (s0 s1 s2 s3 A B C D a0 b0 : ByteArray) (m0 m1 m2 m3 : Nat)
    (h01 : min (s0.size : Int) 20 = (m0 : Int)) (h02 : (m0 : Int) ≤ (s0.size : Int)) (h03 : (0 : Int) ≤ (m0 : Int)) (h04 : s0.extract 0 m0 = A)
    (h11 : min (s1.size : Int) 20 = (m1 : Int)) (h12 : (m1 : Int) ≤ (s1.size : Int)) (h13 : (0 : Int) ≤ (m1 : Int)) (h14 : s1.extract 0 m1 = B)
    (h21 : min (s2.size : Int) 20 = (m2 : Int)) (h22 : (m2 : Int) ≤ (s2.size : Int)) (h23 : (0 : Int) ≤ (m2 : Int)) (h24 : s2.extract 0 m2 = C)
    (h31 : min (s3.size : Int) 20 = (m3 : Int)) (h32 : (m3 : Int) ≤ (s3.size : Int)) (h33 : (0 : Int) ≤ (m3 : Int)) (h34 : s3.extract 0 m3 = D)
    (hA : A.size ≤ 20) (hB : B.size ≤ 20) (hC : C.size ≤ 20) (hD : D.size ≤ 20)
    (QP : Hid (∀ W (_ : Tp W), Calls Tryz.prog 12 #[.agg (rrow ga A B), .agg (rrow gb C D)] W fun e w' => e = .returned (.tuple #[.agg (rrow g0 a0 b0), .bool ok]) ∧ Below W.heap.size W w'))
    (QR : Hid (∀ W (_ : Tp W), Calls Tryz.prog 13 #[.agg (rrow ga A B), .agg (rrow gb C D)] W fun e w' => e = .returned (.tuple #[.agg (rrow g0 a0 b0), .bool ok]) ∧ Below W.heap.size W w'))
    (hT : Tp w) :
    Calls Tryz.prog 4 #[.agg #[.bool ga, .string s0, .string s1], .agg #[.bool gb, .string s2, .string s3]] w fun e w' => e = .returned (.bool true) ∧ Below w.heap.size w w' := by
  have sa := SmQ_rvq ga A B 20 hA hB (by decide)
  have sb := SmQ_rvq gb C D 20 hC hD (by decide)
  have IP := fun W (h : Tp W) => right_any W ga A B 20 hA hB (by decide) h.b.t h.b.g
  have IR := fun W (_ : Tp W) => rright_any W ga A B 20 hA hB (by decide)
  have AP := fun W (h : Tp W) => qAdd W ga gb A B C D 20 hA hB hC hD (by decide) (by decide) h.b
  have AR := fun W (h : Tp W) => rAdd W ga gb A B C D 20 hA hB hC hD (by decide) (by decide) h.b
  have SP := fun W (h : Tp W) => qSub W ga gb A B C D 20 hA hB hC hD (by decide) (by decide) h.b
  have SR := fun W (h : Tp W) => rSub W ga gb A B C D 20 hA hB hC hD (by decide) (by decide) h.b
  have MP := fun W (h : Tp W) => qMul W ga gb A B C D 20 hA hB hC hD (by decide) (by decide) h.b
  have MR := fun W (h : Tp W) => rMul W ga gb A B C D 20 hA hB hC hD (by decide) (by decide) h.b
  have CP := fun W (h : Tp W) => qCmp W ga gb A B C D 20 hA hB hC hD (by decide) (by decide) h.b
  have CR := fun W (h : Tp W) => rCmp W ga gb A B C D 20 hA hB hC hD (by decide) (by decide) h.b
  have GP := fun W (h : Tp W) => qSign W ga A B 20 hA hB (by decide) h
  have GR := fun W (_ : Tp W) => rSign W ga A B 20 hA hB (by decide)
  have NP := fun W (h : Tp W) => qNeg W ga A B 20 hA hB (by decide) h.b
  have NR := fun W (h : Tp W) => rNeg W ga A B 20 hA hB (by decide) h.b
  have TP := fun W (h : Tp W) => qText W ga A B 20 hA hB (by decide) (by decide) h
  have TR := fun W (_ : Tp W) => rText W ga A B 20 hA hB (by decide) (by decide)
  have UP := fun W b (hR : RL W b [(ga, A, B), (gb, C, D), (ga, A, B)]) (hb : b < W.heap.size) (h : Tp W) => qSum W b 3 [(ga, A, B), (gb, C, D), (ga, A, B)] 20 hR hb (raw_szl ga gb A B C D hA hB hC hD) (by decide) (by simp) (by simp) (by simp) h.b
  have UR := fun W b (hR : RL W b [(ga, A, B), (gb, C, D), (ga, A, B)]) (hb : b < W.heap.size) (h : Tp W) => rSum W b 3 [(ga, A, B), (gb, C, D), (ga, A, B)] 20 hR hb (raw_szl ga gb A B C D hA hB hC hD) (by decide) (by simp) (by simp) (by simp) h.b
  generalize sumq [(ga, A, B), (gb, C, D), (ga, A, B)] = qs at *
  generalize okq ga A B = r at *
  generalize rvq ga A B = a at *
  generalize rvq gb C D = b at *
  have s1' := SmQ_add sa sb
  have s2' : SmQ 20 (-a) := ⟨by rw [Rat.neg_num, Int.natAbs_neg]; exact sa.1, by rw [Rat.neg_den]; exact sa.2⟩
  have IA := fun W (h : Tp W) => right_any W (decide ((a + b).num < 0)) (NB (a + b).num.natAbs) (NB (a + b).den) 41 (q_szA s1') (q_szB s1') (by decide) h.b.t h.b.g
  have IN := fun W (h : Tp W) => right_any W (decide ((-a).num < 0)) (NB (-a).num.natAbs) (NB (-a).den) 20 (q_szA s2') (q_szB s2') (by decide) h.b.t h.b.g
  rw [okq_QV] at IA IN
  rw [QV_rrow] at AP AR SP SR MP MR NP NR UP UR
  exact raw_core w ga gb ok r _ _ _ _ _ _ s0 s1 s2 s3 A B C D _ _ _ _ _ _ _ _ _ _ _ _ _ m0 m1 m2 m3 _ _ h01 h02 h03 h04 h11 h12 h13 h14 h21 h22 h23 h24 h31 h32 h33 h34
    (Lib.hid fun W h => sanity_any W h) QP QR (Lib.hid IP) (Lib.hid IR) (Lib.hid AP) (Lib.hid AR) (Lib.hid SP) (Lib.hid SR) (Lib.hid MP) (Lib.hid MR) (Lib.hid CP) (Lib.hid CR) (Lib.hid GP) (Lib.hid GR) (Lib.hid NP) (Lib.hid NR) (Lib.hid TP) (Lib.hid TR) (Lib.hid IA) (Lib.hid IN) (Lib.hid UP) (Lib.hid UR) hT
theorem raw_walk (w : World) (ga : Bool) (s0 s1 : ByteArray) (gb : Bool) (s2 s3 : ByteArray) (hT : Tp w) :
    Calls Tryz.prog 4 #[.agg #[.bool ga, .string s0, .string s1], .agg #[.bool gb, .string s2, .string s3]] w fun e w' => e = .returned (.bool true) ∧ Below w.heap.size w w' := by
  obtain ⟨m0, h01, h02, z0⟩ := cut20 s0
  obtain ⟨A, e0⟩ : ∃ A, s0.extract 0 m0 = A := ⟨_, rfl⟩
  rw [e0] at z0
  obtain ⟨m1, h11, h12, z1⟩ := cut20 s1
  obtain ⟨B, e1⟩ : ∃ A, s1.extract 0 m1 = A := ⟨_, rfl⟩
  rw [e1] at z1
  obtain ⟨m2, h21, h22, z2⟩ := cut20 s2
  obtain ⟨C, e2⟩ : ∃ A, s2.extract 0 m2 = A := ⟨_, rfl⟩
  rw [e2] at z2
  obtain ⟨m3, h31, h32, z3⟩ := cut20 s3
  obtain ⟨D, e3⟩ : ∃ A, s3.extract 0 m3 = A := ⟨_, rfl⟩
  rw [e3] at z3
  by_cases hb : rvq gb C D = 0
  · have QP := fun W (h : Tp W) => qQuo0 W ga gb A B C D 20 z2 z3 (by decide) h.b hb
    have QR := fun W (h : Tp W) => rQuo0 W ga gb A B C D 20 z0 z1 z2 z3 (by decide) (by decide) h.b hb
    rw [zrow_rrow] at QP QR
    exact raw_mid w ga gb false _ s0 s1 s2 s3 A B C D _ _ m0 m1 m2 m3 h01 (by omega) (by omega) e0 h11 (by omega) (by omega) e1 h21 (by omega) (by omega) e2 h31 (by omega) (by omega) e3 z0 z1 z2 z3 (Lib.hid QP) (Lib.hid QR) hT
  · have QP := fun W (h : Tp W) => qQuo1 W ga gb A B C D 20 z0 z1 z2 z3 (by decide) (by decide) h.b hb
    have QR := fun W (h : Tp W) => rQuo1 W ga gb A B C D 20 z0 z1 z2 z3 (by decide) (by decide) h.b hb
    rw [QV_rrow] at QP QR
    exact raw_mid w ga gb true _ s0 s1 s2 s3 A B C D _ _ m0 m1 m2 m3 h01 (by omega) (by omega) e0 h11 (by omega) (by omega) e1 h21 (by omega) (by omega) e2 h31 (by omega) (by omega) e3 z0 z1 z2 z3 (Lib.hid QP) (Lib.hid QR) hT
end Go.Proofs.YteccbedmpjeamaaGreatDoor
