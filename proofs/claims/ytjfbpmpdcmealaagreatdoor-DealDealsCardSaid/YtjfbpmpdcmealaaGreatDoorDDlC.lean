/-
  The walk of the law DealDeals.
  The law DealDeals.
-/
import Derived.Test.YtjfbpmpdcmealaaGreatDoorDDlB
import Derived.Deep.CutRange
import Derived.Test.YtjfbpmpdcmealaaGreatDoorDHonB
namespace Go.Proofs.YtjfbpmpdcmealaaGreatDoor.D7
open Go.RowKit GM SH G4 E6 D7P
set_option maxRecDepth 100000 in
set_option maxHeartbeats 16000000 in
theorem deals_core (w : World) (p q : Option Addr) (n c m e : Nat) (sd : ByteArray) (q0 q1 q2 : Int) (K C : List Int)
    (hq : i64 q0 ∧ i64 q1 ∧ i64 q2) (hKl : K.length ≤ 100) (hCl : C.length ≤ 100) (hrk : ∀ x ∈ K, i64 x) (hrc : ∀ x ∈ C, i64 x) (hs : sd.size ≤ 140737488355300) (hT : TS w)
    (S0 : Hid (∀ W, TS W → Calls Tryz.prog 8 #[] W fun e w' => e = .returned (.bool true) ∧ Below W.heap.size W w'))
    (K1 : Hid (∀ W, Below w.heap.size w W → Calls Tryz.prog 9 #[.agg #[.slice p n c, .slice q m e, .string sd]] W (OwnQ W K)))
    (N1 : Hid (∀ W, Below w.heap.size w W → Calls Tryz.prog 10 #[.agg #[.slice p n c, .slice q m e, .string sd]] W (OwnQ W C))) :
    Calls Tryz.prog 6 #[.agg #[.slice p n c, .slice q m e, .string sd], .agg #[.int .i64 q0, .int .i64 q1, .int .i64 q2]] w fun e w' => e = .returned (.bool true) ∧ Below w.heap.size w w' := by
  obtain ⟨i0, hi, hz0, hz1, hz2⟩ := info_parts infoI
  obtain ⟨W, hW⟩ : ∃ W, (w.alloc (.cells #[.slice p n c, .slice q m e, .string sd] 24)).alloc (.cells #[.int .i64 q0, .int .i64 q1, .int .i64 q2] 46) = W := ⟨_, rfl⟩
  have K0 : QB w [(⟨w.heap.size, 0, none⟩, .slice p n c), (⟨w.heap.size, 1, none⟩, .slice q m e), (⟨w.heap.size, 2, none⟩, .string sd), (⟨w.heap.size + 1, 0, none⟩, .int .i64 q0), (⟨w.heap.size + 1, 1, none⟩, .int .i64 q1), (⟨w.heap.size + 1, 2, none⟩, .int .i64 q2)] W := by
    have a1 := (CK.start w).cells #[.slice p n c, .slice q m e, .string sd] 24 _ rfl
    have a3 := a1.cells #[.int .i64 q0, .int .i64 q1, .int .i64 q2] 46 _ rfl
    rw [World.size_alloc] at a3
    rw [hW] at a3
    refine ⟨a3.b, by rw [← hW]; simp, fun x hx => ?_⟩
    simp only [List.mem_cons, List.not_mem_nil, or_false] at hx
    rcases hx with rfl | rfl | rfl | rfl | rfl | rfl
    all_goals exact ⟨by dsimp only; omega, a3.c _ (by simp)⟩
  have HK := Lib.hid K0; clear K0
  have HT0 := Lib.hid hT
  have HQQ := Lib.hid hq
  obtain ⟨r0, C0, pt0, B0, hC0, hB0, d0, f0⟩ := both C K sd hrc hrk (by omega) (by omega) hs
  have D0 := Lib.hid d0
  have E0 := Lib.hid f0
  have HRR := Lib.hid (And.intro hrk hrc)
  clear hT hrk hrc hq d0 f0
  go_enter Tryz.func6, Tryz.ntmps6
  go_upto_region 1 with fail
  clear hW
  go_wp2_with fail
  refine (S0.out _ (HT0.out.below HK.out.b)).mono ?_
  rintro e w1 ⟨rfl, b⟩
  have H1 := Lib.hid (HK.out.next b); clear b HK S0
  go_upto_region 2 with fail
  refine wp_region_held_drew (S := QB w [(⟨w.heap.size, 0, none⟩, .slice p n c), (⟨w.heap.size, 1, none⟩, .slice q m e), (⟨w.heap.size, 2, none⟩, .string sd), (⟨w.heap.size + 1, 0, none⟩, .int .i64 q0), (⟨w.heap.size + 1, 1, none⟩, .int .i64 q1), (⟨w.heap.size + 1, 2, none⟩, .int .i64 q2)]) (by kernel_rfl) H1.out.drew (fun hS => ?_)
  clear H1
  refine wpAnyH_take (i := 0) (oi := { dst := some 16, op := Op.load 24 (Operand.tmp 2), type := 24, pos := "law.go:45", after := #[], guard := none }) (v := .agg #[.slice p n c, .slice q m e, .string sd]) rfl (by kernel_rfl) (by kernel_rfl) (by kernel_rfl) (fun _ _ _ h => h) (Or.inl ⟨by rfl, ?yha0⟩) hS ?rha0
  case yha0 => (intro w' hS; have cf := (show w'.cell? ⟨w.heap.size, 0, none⟩ = some (.slice p n c) ∧ w'.cell? ⟨w.heap.size, 1, none⟩ = some (.slice q m e) ∧ w'.cell? ⟨w.heap.size, 2, none⟩ = some (.string sd) from ⟨hS.get _ _ (by simp), hS.get _ _ (by simp), hS.get _ _ (by simp)⟩); go_simp; try with_reducible rfl)
  refine wpAnyH_take (i := 2) (oi := { dst := some 18, op := Op.load 24 (Operand.tmp 2), type := 24, pos := "law.go:45", after := #[], guard := none }) (v := .agg #[.slice p n c, .slice q m e, .string sd]) rfl (by kernel_rfl) (by kernel_rfl) (by kernel_rfl) (fun _ _ _ h => h) (Or.inl ⟨by rfl, ?yha2⟩) hS ?rha2
  case yha2 => (intro w' hS; have cf := (show w'.cell? ⟨w.heap.size, 0, none⟩ = some (.slice p n c) ∧ w'.cell? ⟨w.heap.size, 1, none⟩ = some (.slice q m e) ∧ w'.cell? ⟨w.heap.size, 2, none⟩ = some (.string sd) from ⟨hS.get _ _ (by simp), hS.get _ _ (by simp), hS.get _ _ (by simp)⟩); go_simp; try with_reducible rfl)
  go_simp
  refine wpAnyH_ready (rs := [1]) (by kernel_rfl) (by simp) ?_
  refine AllReadyH.cons (o := { dst := some 17, op := Op.call { callee := Callee.value (Operand.func 9), args := #[Operand.tmp 16], argTypes := #[24] }, type := 22, pos := "law.go:45", after := #[{ on := 0, ground := Ground.data }], guard := none }) rfl (fun K hK => ?_) AllReadyH.nil
  go_simp
  go_at_call 9
  refine (K1.out _ hS.b).mono ?_
  rintro e w' ⟨v1, rfl, o1, b⟩
  have o1 := own_base o1 hS.s
  have hS2 := hS.next b
  clear b hS
  try go_simp
  refine hK.out _ _ hS2 (fun hS => ?_)
  clear hK K hS2
  refine wpAnyH_ready (rs := [3]) (by kernel_rfl) (by simp) ?_
  refine AllReadyH.cons (o := { dst := some 19, op := Op.call { callee := Callee.value (Operand.func 10), args := #[Operand.tmp 18], argTypes := #[24] }, type := 22, pos := "law.go:45", after := #[{ on := 2, ground := Ground.data }, { on := 1, ground := Ground.chain }], guard := none }) rfl (fun K hK => ?_) AllReadyH.nil
  go_simp
  go_at_call 10
  refine (N1.out _ hS.b).mono ?_
  rintro e w' ⟨v2, rfl, o2, b⟩
  have ne := own_ne o1 o2
  have o2 := own_base o2 hS.s
  have o1 := own_below o1 b
  have hS2 := hS.next b
  clear b hS
  try go_simp
  refine hK.out _ _ hS2 (fun hS => ?_)
  clear hK K hS2
  refine wpAnyH_take (i := 4) (oi := { dst := some 6, op := Op.assign (Operand.tmp 17), type := 22, pos := "law.go:45", after := #[{ on := 1, ground := Ground.data }, { on := 3, ground := Ground.chain }, { on := 0, ground := Ground.phase }, { on := 1, ground := Ground.phase }, { on := 2, ground := Ground.textOnly Departure.lateStores }, { on := 3, ground := Ground.textOnly Departure.lateStoresUnsure }], guard := none }) (v := ?vha4) rfl (by kernel_rfl) (by kernel_rfl) (by kernel_rfl) (fun _ _ _ h => h) (Or.inl ⟨by rfl, ?yha4⟩) hS ?rha4
  case yha4 => (intro w hS; go_simp; try with_reducible rfl)
  go_simp
  refine wpAnyH_take (i := 5) (oi := { dst := some 7, op := Op.assign (Operand.tmp 19), type := 22, pos := "law.go:45", after := #[{ on := 3, ground := Ground.data }, { on := 4, ground := Ground.chain }, { on := 0, ground := Ground.phase }, { on := 1, ground := Ground.phase }, { on := 2, ground := Ground.phase }, { on := 3, ground := Ground.phase }, { on := 4, ground := Ground.phase }], guard := none }) (v := ?vha5) rfl (by kernel_rfl) (by kernel_rfl) (by kernel_rfl) (fun _ _ _ h => h) (Or.inl ⟨by rfl, ?yha5⟩) hS ?rha5
  case yha5 => (intro w hS; go_simp; try with_reducible rfl)
  refine wpAnyH_done (by kernel_rfl) ?_ _
  obtain ⟨kp, kc, rfl⟩ := own_nil _ o1
  obtain ⟨cp, cc, rfl⟩ := own_nil _ o2
  have H2 := Lib.hid (Q3.mk (R := []) (G := []) (mv := .slice none 0 0) (M := []) hS o1 o2 (World.ownsRow_nil _ _ _ _) ne (fun _ _ h => by cases h) (fun _ _ h => by cases h) (fun d hd => by cases hd) (fun p hp => by cases hp)); clear hS o1 o2 ne
  try dsimp only [Act.put]
  have p2 := H2.out.get ⟨w.heap.size, 2, none⟩ (.string sd) (by simp)
  go_wp2_with fail
  refine (D0.out _ _ _ (HT0.out.below H2.out.b) (own_VL H2.out.hC) (own_VL H2.out.hK)).mono ?_
  rintro e w3 ⟨p1, c1, b1, m1, rfl, b, so, zo⟩
  have sc := own_VL so
  have zb := own_VL zo
  clear so zo
  have H3 := Lib.hid (H2.out.next b); clear b H2 p2 D0
  have SC := Lib.hid (And.intro sc zb); clear sc zb
  go_upto_region 4 with fail
  have H4 := Lib.hid (H3.out.newD #[.slice p1 C0.length c1, .int .i64 pt0, .slice b1 B0.length m1] rfl)
  have X4 := Lib.hid (heap_alloc_new w3 (.cells #[.slice p1 C0.length c1, .int .i64 pt0, .slice b1 B0.length m1] 34))
  have S4 := Lib.hid (And.intro (VL.below SC.out.1 ((Below.refl _ w3).alloc (Nat.le_refl _) (.cells #[.slice p1 C0.length c1, .int .i64 pt0, .slice b1 B0.length m1] 34))) (VL.below SC.out.2 ((Below.refl _ w3).alloc (Nat.le_refl _) (.cells #[.slice p1 C0.length c1, .int .i64 pt0, .slice b1 B0.length m1] 34))))
  clear H3 SC
  obtain ⟨D, hD⟩ : ∃ D, w3.heap.size = D := ⟨_, rfl⟩
  obtain ⟨W4, hW4⟩ : ∃ W4, w3.alloc (.cells #[.slice p1 C0.length c1, .int .i64 pt0, .slice b1 B0.length m1] 34) = W4 := ⟨_, rfl⟩
  rw [hW4] at H4 X4 S4 ⊢
  rw [hD] at H4 X4 ⊢
  clear hD hW4
  have p2 := H4.out.get ⟨w.heap.size, 2, none⟩ (.string sd) (by simp)
  go_wp2_with fail
  refine (E0.out _ _ _ (own_VL H4.out.hC) (own_VL H4.out.hK)).mono ?_
  rintro e w5 ⟨p3, c3, b3, m3, rfl, b, so, zo⟩
  have sc := own_VL so
  have zb := own_VL zo
  clear so zo
  have H5 := Lib.hid (H4.out.next b)
  have X5 := Lib.hid ((b.block _ (Array.getElem?_eq_some_iff.1 X4.out).1).trans X4.out)
  have S5 := Lib.hid (And.intro (VL.below S4.out.1 b) (And.intro (VL.below S4.out.2 b) (And.intro sc zb)))
  clear b H4 p2 E0 sc zb X4 S4
  go_upto_region 5 with fail
  have al := (Below.refl _ w5).alloc (Nat.le_refl _) (.cells #[.slice p3 C0.length c3, .int .i64 pt0, .slice b3 B0.length m3] 34)
  have H6 := Lib.hid (H5.out.newD #[.slice p3 C0.length c3, .int .i64 pt0, .slice b3 B0.length m3] rfl)
  have X6 := Lib.hid (And.intro ((al.block _ (Array.getElem?_eq_some_iff.1 X5.out).1).trans X5.out) (heap_alloc_new w5 (.cells #[.slice p3 C0.length c3, .int .i64 pt0, .slice b3 B0.length m3] 34)))
  have S6 := Lib.hid (And.intro (VL.below S5.out.1 al) (And.intro (VL.below S5.out.2.1 al) (And.intro (VL.below S5.out.2.2.1 al) (VL.below S5.out.2.2.2 al))))
  have hDE := Lib.hid (show D < w5.heap.size from (Array.getElem?_eq_some_iff.1 X5.out).1)
  clear H5 X5 S5 al
  obtain ⟨E, hE⟩ : ∃ E, w5.heap.size = E := ⟨_, rfl⟩
  obtain ⟨W6, hW6⟩ : ∃ W6, w5.alloc (.cells #[.slice p3 C0.length c3, .int .i64 pt0, .slice b3 B0.length m3] 34) = W6 := ⟨_, rfl⟩
  rw [hW6] at H6 X6 S6 ⊢
  rw [hE] at H6 X6 hDE ⊢
  clear hE hW6
  have d0 := cell_of_row _ D 0 _ _ _ X6.out.1
  have d1 := cell_of_row _ D 1 _ _ _ X6.out.1
  have d2 := cell_of_row _ D 2 _ _ _ X6.out.1
  have e0 := cell_of_row _ E 0 _ _ _ X6.out.2
  have e1 := cell_of_row _ E 1 _ _ _ X6.out.2
  have e2 := cell_of_row _ E 2 _ _ _ X6.out.2
  go_wp2_with fail
  refine (refSame_any W6 pt0 _ _ _ _ _ _ _ _ _ _ C0 B0 S6.out.1 S6.out.2.2.1 S6.out.2.1 S6.out.2.2.2 hC0 hB0).mono ?_
  rintro e w7 ⟨rfl, b⟩
  have H7 := Lib.hid (H6.out.next b)
  clear b H6 X6 S6 d0 d1 d2 e0 e1 e2 hC0 hB0
  go_upto_region 7 with fail
  have hA := Lib.hid (show C.length + 1 ≤ maxLen ∧ (C.length + 1) * 8 ≤ 140737488355328 from ⟨by unfold maxLen; omega, by omega⟩)
  go_upto_region 8 with (first | (refine app_lit rfl (.tmp 45) (.tmp 46) rfl w7.heap.size rfl (heap_alloc_new _ _) _ _ C rfl (H7.out.hC.alloc _) (by omega) w7.heap.size (Nat.le_refl _) ?_; intro v2 x2 hown hgrow hat hsz) | (at_builtin; go_must (refine wpList_append_lies _ rfl _ _ 22 rfl w7.heap.size 3 i0 (.int .i64 0) 1 8 Tryz.underlying22 hi hz0 hz1 hz2 rfl (by decide) _ C.length (C.map (Value.int .i64)) rfl (hown.alloc _) ⟨x2.heap.size, 0, none⟩ 1 1 [.int .i64 1] rfl rfl (World.news_of_block (heap_alloc_new _ _)) (by simp [Value.oneCell']) Nat.zero_lt_one hA.out.1 hA.out.2 (by rw [World.size_alloc]; exact Nat.le_succ_of_le hsz) _ rfl ?_); intro g3 c4 x3 hown3 hgrow3 hat3 hlt3))
  have B2 : Below w7.heap.size w7 x2 := ((Below.refl _ w7).alloc (Nat.le_refl _) (.cells #[] 3)).grown hgrow (by simp) (fun k hk => by injection hk with hk; omega)
  have B3 : Below w7.heap.size w7 x3 := (B2.alloc hsz (.cells #[.int .i64 1] 3)).grown hgrow3 (by rw [World.size_alloc]; exact Nat.le_succ_of_le hsz) (fun k hk => (hown.lt k hk).1)
  have hM : x3.ownsRow w7.heap.size 3 1 (.slice (some ⟨g3, 0, none⟩) (C.length + 1) c4) (C ++ [1]).length ((C ++ [1]).map (Value.int .i64)) := by rw [List.length_append, List.map_append]; exact hown3
  have H8 := Lib.hid (QV.mk ⟨K, C, rfl, rfl, HRR.out.1, HRR.out.2, H7.out.more B3 hM⟩)
  clear hown3 hgrow3 hat3 hlt3 hM B2 B3 hown hA H7 hsz hgrow hat
  obtain ⟨mp, hmp⟩ : ∃ mp : Option Addr, some ⟨g3, 0, none⟩ = mp := ⟨_, rfl⟩
  obtain ⟨ml, hml⟩ : ∃ ml, C.length + 1 = ml := ⟨_, rfl⟩
  rw [hmp, hml] at H8
  try rw [hmp]
  try rw [hml]
  clear hmp hml
  go_upto_region 8 with fail
  have cq := H8.out.get ⟨w.heap.size + 1, 0, none⟩ (.int .i64 q0) (by simp)
  have HM := Lib.hid (And.intro (show (C ++ [1]).length ≤ 1000 from by rw [List.length_append, List.length_singleton]; omega) (more_i HRR.out.2))
  obtain ⟨nK, hnK⟩ : ∃ a, K.length = a := ⟨_, rfl⟩
  obtain ⟨nC, hnC⟩ : ∃ a, C.length = a := ⟨_, rfl⟩
  rw [hnK, hnC] at H8
  rw [hnK] at hKl ⊢
  rw [hnC] at hCl ⊢
  have HLN := Lib.hid (And.intro hKl hCl)
  clear hKl hCl hnK hnC HRR
  go_cut [58] from 50 (fun b wx => b = .bool (decide (0 < nK) && decide (Int.tmod q0 2 = 0)) ∧ wx = x3)
  case first =>
    by_cases hk0 : nK = 0
    · go_wp2_with fail
      go_meet
      exact ⟨by simp [hk0], rfl⟩
    · have h1 : 0 < nK := by omega
      by_cases h2 : Int.tmod q0 2 = 0
      · go_wp2_with fail
        go_meet
        exact ⟨by simp [h1, h2], rfl⟩
      · go_wp2_with fail
        go_meet
        exact ⟨by simp [h1, h2], rfl⟩
  case rest =>
  obtain ⟨rfl, rfl⟩ := hcut
  clear cq
  obtain ⟨f1, hf1⟩ : ∃ f, (decide (0 < nK) && decide (Int.tmod q0 2 = 0)) = f := ⟨_, rfl⟩
  rw [hf1]
  go_upto_if 58 with fail
  go_cut [58] from 50 (fun _ wx => Hid (QV w [(⟨w.heap.size, 0, none⟩, .slice p n c), (⟨w.heap.size, 1, none⟩, .slice q m e), (⟨w.heap.size, 2, none⟩, .string sd), (⟨w.heap.size + 1, 0, none⟩, .int .i64 q0), (⟨w.heap.size + 1, 1, none⟩, .int .i64 q1), (⟨w.heap.size + 1, 2, none⟩, .int .i64 q2)] (.slice kp nK kc) (.slice cp nC cc) (.slice mp ml c4) nK nC (C ++ [1]) [E, D] [] wx))
  case first =>
    cases f1 with
    | false =>
      clear hf1
      go_wp2_with fail
      go_meet
      exact H8
    | true =>
      have h1 : 0 < nK := by simp at hf1; exact hf1.1
      clear hf1
      obtain ⟨g, cap, hg⟩ := H8.out.shapeK h1
      injection hg with e1 e2 e3
      subst e1 e3
      clear e2
      obtain ⟨j, hj⟩ : ∃ j : Nat, q1 % (nK : Int) = (j : Int) := ⟨(q1 % (nK : Int)).toNat, by have := Int.emod_nonneg q1 (b := (nK : Int)) (by omega); omega⟩
      have hjl : j < nK := by have := Int.emod_lt_of_pos q1 (b := (nK : Int)) (by omega); omega
      have HJ := Lib.hid (And.intro hj (And.intro (show 1 ≤ nK from h1) (show nK ≤ 1000000 by have := HLN.out.1; omega)))
      clear hj
      go_wp2_with fail
      refine wp_region_held_drew (S := QV w [(⟨w.heap.size, 0, none⟩, .slice p n c), (⟨w.heap.size, 1, none⟩, .slice q m e), (⟨w.heap.size, 2, none⟩, .string sd), (⟨w.heap.size + 1, 0, none⟩, .int .i64 q0), (⟨w.heap.size + 1, 1, none⟩, .int .i64 q1), (⟨w.heap.size + 1, 2, none⟩, .int .i64 q2)] (.slice (some ⟨g, 0, none⟩) nK kc) (.slice cp nC cc) (.slice mp ml c4) nK nC (C ++ [1]) [E, D] []) (by kernel_rfl) H8.out.drew (fun hS => ?_)
      clear H8
      refine wpAnyH_take (i := 0) (oi := { dst := some 59, op := Op.move (Operand.tmp 6), type := 22, pos := "law.go:53", after := #[], guard := none }) (v := ?vhb0) rfl (by kernel_rfl) (by kernel_rfl) (by kernel_rfl) (fun _ _ _ h => h) (Or.inl ⟨by rfl, ?yhb0⟩) hS ?rhb0
      case yhb0 => (intro w hS; go_simp; try with_reducible rfl)
      refine wpAnyH_take (i := 1) (oi := { dst := some 60, op := Op.indexAddr 46 (Operand.tmp 3) (Operand.const (Value.int IntKind.i64 1)), type := 0, pos := "law.go:53", after := #[], guard := none }) (v := ?vhb1) rfl (by kernel_rfl) (by kernel_rfl) (by kernel_rfl) (fun _ _ _ h => h) (Or.inl ⟨by rfl, ?yhb1⟩) hS ?rhb1
      case yhb1 => (intro w hS; go_simp; try with_reducible rfl)
      refine wpAnyH_take (i := 3) (oi := { dst := some 62, op := Op.move (Operand.tmp 6), type := 22, pos := "law.go:53", after := #[], guard := none }) (v := ?vhb3) rfl (by kernel_rfl) (by kernel_rfl) (by kernel_rfl) (fun _ _ _ h => h) (Or.inl ⟨by rfl, ?yhb3⟩) hS ?rhb3
      case yhb3 => (intro w hS; go_simp; try with_reducible rfl)
      refine wpAnyH_take (i := 6) (oi := { dst := some 65, op := Op.indexAddr 46 (Operand.tmp 3) (Operand.const (Value.int IntKind.i64 2)), type := 0, pos := "law.go:53", after := #[], guard := none }) (v := ?vhb6) rfl (by kernel_rfl) (by kernel_rfl) (by kernel_rfl) (fun _ _ _ h => h) (Or.inl ⟨by rfl, ?yhb6⟩) hS ?rhb6
      case yhb6 => (intro w hS; go_simp; try with_reducible rfl)
      go_simp
      refine wpAnyH_take (i := 2) (oi := { dst := some 61, op := Op.load 3 (Operand.tmp 60), type := 3, pos := "law.go:53", after := #[{ on := 1, ground := Ground.data }], guard := none }) (v := .int .i64 q1) rfl (by kernel_rfl) (by kernel_rfl) (by kernel_rfl) (fun _ _ _ h => h) (Or.inl ⟨by rfl, ?yhb2⟩) hS ?rhb2
      case yhb2 => (intro w' hS; have cf := hS.get ⟨w.heap.size + 1, 1, none⟩ (.int .i64 q1) (by simp); go_simp; try with_reducible rfl)
      refine wpAnyH_take (i := 4) (oi := { dst := some 63, op := Op.call { callee := Callee.builtin Builtin.len, args := #[Operand.tmp 62], argTypes := #[22] }, type := 3, pos := "law.go:53", after := #[{ on := 3, ground := Ground.data }], guard := none }) (v := ?vhb4) rfl (by kernel_rfl) (by kernel_rfl) (by kernel_rfl) (fun _ _ _ h => h) (Or.inl ⟨by rfl, ?yhb4⟩) hS ?rhb4
      case yhb4 => (intro w hS; go_simp; try with_reducible rfl)
      refine wpAnyH_take (i := 7) (oi := { dst := some 66, op := Op.load 3 (Operand.tmp 65), type := 3, pos := "law.go:53", after := #[{ on := 6, ground := Ground.data }], guard := none }) (v := .int .i64 q2) rfl (by kernel_rfl) (by kernel_rfl) (by kernel_rfl) (fun _ _ _ h => h) (Or.inl ⟨by rfl, ?yhb7⟩) hS ?rhb7
      case yhb7 => (intro w' hS; have cf := hS.get ⟨w.heap.size + 1, 2, none⟩ (.int .i64 q2) (by simp); go_simp; try with_reducible rfl)
      go_simp
      refine wpAnyH_ready (rs := [5]) (by kernel_rfl) (by simp) ?_
      refine AllReadyH.cons (o := { dst := some 64, op := Op.call { callee := Callee.value (Operand.func 13), args := #[Operand.tmp 61, Operand.tmp 63], argTypes := #[3, 3] }, type := 3, pos := "law.go:53", after := #[{ on := 2, ground := Ground.data }, { on := 4, ground := Ground.data }], guard := none }) rfl (fun K hK => ?_) AllReadyH.nil
      go_simp
      go_at_call 13
      refine (same_b (mod_c _ q1 _ _ HJ.out.1 HJ.out.2.1 HJ.out.2.2 HQQ.out.2.1)).mono ?_
      rintro e w' ⟨rfl, b⟩
      have hS2 := hS.next b
      clear b hS
      try go_simp
      refine hK.out _ _ hS2 (fun hS => ?_)
      clear hK K hS2
      refine wpAnyH_take (i := 8) (oi := { dst := some 67, op := Op.indexAddr 22 (Operand.tmp 59) (Operand.tmp 64), type := 0, pos := "law.go:53", after := #[{ on := 0, ground := Ground.data }, { on := 5, ground := Ground.data }, { on := 0, ground := Ground.phase }, { on := 1, ground := Ground.phase }, { on := 2, ground := Ground.phase }, { on := 3, ground := Ground.phase }, { on := 4, ground := Ground.phase }, { on := 5, ground := Ground.phase }, { on := 6, ground := Ground.phase }, { on := 7, ground := Ground.phase }], guard := none }) (v := ?vhb8) rfl (by kernel_rfl) (by kernel_rfl) (by kernel_rfl) (fun _ _ _ h => h) (Or.inl ⟨by rfl, ?yhb8⟩) hS ?rhb8
      case yhb8 => (intro w hS; go_simp; try with_reducible rfl)
      go_simp
      refine wpAnyH_ready (rs := [9]) (by kernel_rfl) (by simp) ?_
      refine AllReadyH.cons (o := { dst := none, op := Op.store 3 (Operand.tmp 67) (Operand.tmp 66), type := 0, pos := "law.go:53", after := #[{ on := 8, ground := Ground.data }, { on := 7, ground := Ground.data }, { on := 5, ground := Ground.chain }, { on := 0, ground := Ground.phase }, { on := 1, ground := Ground.phase }, { on := 2, ground := Ground.phase }, { on := 3, ground := Ground.phase }, { on := 4, ground := Ground.phase }, { on := 5, ground := Ground.phase }, { on := 6, ground := Ground.phase }, { on := 7, ground := Ground.phase }], guard := none }) rfl (fun K hK => ?_) AllReadyH.nil
      obtain ⟨y, cY, fY, hS2⟩ := hS.setK j q2 HQQ.out.2.2 hjl
      go_simp
      clear hS cY fY
      refine hK.out _ _ hS2 (fun hS => ?_)
      clear hK K hS2
      refine wpAnyH_done (by kernel_rfl) ?_ _
      have H9 := Lib.hid hS; clear hS
      try dsimp only [Act.put]
      go_wp2_with fail
      go_meet
      exact H9
  case rest =>
  clear H8 hf1
  have H8 := hcut
  clear hcut
  go_upto_region 10 with fail
  have cq := H8.out.get ⟨w.heap.size + 1, 0, none⟩ (.int .i64 q0) (by simp)
  go_cut [76] from 50 (fun b wx => b = .bool (decide (0 < nC) && decide (Int.tmod q0 2 ≠ 0)) ∧ wx = wc)
  case first =>
    by_cases hk0 : nC = 0
    · go_wp2_with fail
      go_meet
      exact ⟨by simp [hk0], rfl⟩
    · have h1 : 0 < nC := by omega
      by_cases h2 : Int.tmod q0 2 = 0
      · go_wp2_with fail
        go_meet
        exact ⟨by simp [h1, h2], rfl⟩
      · go_wp2_with fail
        go_meet
        exact ⟨by simp [h1, h2], rfl⟩
  case rest =>
  obtain ⟨rfl, rfl⟩ := hcut
  clear cq
  obtain ⟨f2, hf2⟩ : ∃ f, (decide (0 < nC) && decide (Int.tmod q0 2 ≠ 0)) = f := ⟨_, rfl⟩
  rw [hf2]
  go_upto_if 76 with fail
  go_cut [76] from 50 (fun _ wx => Hid (QV w [(⟨w.heap.size, 0, none⟩, .slice p n c), (⟨w.heap.size, 1, none⟩, .slice q m e), (⟨w.heap.size, 2, none⟩, .string sd), (⟨w.heap.size + 1, 0, none⟩, .int .i64 q0), (⟨w.heap.size + 1, 1, none⟩, .int .i64 q1), (⟨w.heap.size + 1, 2, none⟩, .int .i64 q2)] (.slice kp nK kc) (.slice cp nC cc) (.slice mp ml c4) nK nC (C ++ [1]) [E, D] [] wx))
  case first =>
    cases f2 with
    | false =>
      clear hf2
      go_wp2_with fail
      go_meet
      exact H8
    | true =>
      have h1 : 0 < nC := by simp at hf2; exact hf2.1
      clear hf2
      obtain ⟨g, cap, hg⟩ := H8.out.shapeC h1
      injection hg with e1 e2 e3
      subst e1 e3
      clear e2
      obtain ⟨j, hj⟩ : ∃ j : Nat, q1 % (nC : Int) = (j : Int) := ⟨(q1 % (nC : Int)).toNat, by have := Int.emod_nonneg q1 (b := (nC : Int)) (by omega); omega⟩
      have hjl : j < nC := by have := Int.emod_lt_of_pos q1 (b := (nC : Int)) (by omega); omega
      have HJ := Lib.hid (And.intro hj (And.intro (show 1 ≤ nC from h1) (show nC ≤ 1000000 by have := HLN.out.2; omega)))
      clear hj
      go_wp2_with fail
      refine wp_region_held_drew (S := QV w [(⟨w.heap.size, 0, none⟩, .slice p n c), (⟨w.heap.size, 1, none⟩, .slice q m e), (⟨w.heap.size, 2, none⟩, .string sd), (⟨w.heap.size + 1, 0, none⟩, .int .i64 q0), (⟨w.heap.size + 1, 1, none⟩, .int .i64 q1), (⟨w.heap.size + 1, 2, none⟩, .int .i64 q2)] (.slice kp nK kc) (.slice (some ⟨g, 0, none⟩) nC cc) (.slice mp ml c4) nK nC (C ++ [1]) [E, D] []) (by kernel_rfl) H8.out.drew (fun hS => ?_)
      clear H8
      refine wpAnyH_take (i := 0) (oi := { dst := some 77, op := Op.move (Operand.tmp 7), type := 22, pos := "law.go:56", after := #[], guard := none }) (v := ?vhc0) rfl (by kernel_rfl) (by kernel_rfl) (by kernel_rfl) (fun _ _ _ h => h) (Or.inl ⟨by rfl, ?yhc0⟩) hS ?rhc0
      case yhc0 => (intro w hS; go_simp; try with_reducible rfl)
      refine wpAnyH_take (i := 1) (oi := { dst := some 78, op := Op.indexAddr 46 (Operand.tmp 3) (Operand.const (Value.int IntKind.i64 1)), type := 0, pos := "law.go:56", after := #[], guard := none }) (v := ?vhc1) rfl (by kernel_rfl) (by kernel_rfl) (by kernel_rfl) (fun _ _ _ h => h) (Or.inl ⟨by rfl, ?yhc1⟩) hS ?rhc1
      case yhc1 => (intro w hS; go_simp; try with_reducible rfl)
      refine wpAnyH_take (i := 3) (oi := { dst := some 80, op := Op.move (Operand.tmp 7), type := 22, pos := "law.go:56", after := #[], guard := none }) (v := ?vhc3) rfl (by kernel_rfl) (by kernel_rfl) (by kernel_rfl) (fun _ _ _ h => h) (Or.inl ⟨by rfl, ?yhc3⟩) hS ?rhc3
      case yhc3 => (intro w hS; go_simp; try with_reducible rfl)
      refine wpAnyH_take (i := 6) (oi := { dst := some 83, op := Op.indexAddr 46 (Operand.tmp 3) (Operand.const (Value.int IntKind.i64 2)), type := 0, pos := "law.go:56", after := #[], guard := none }) (v := ?vhc6) rfl (by kernel_rfl) (by kernel_rfl) (by kernel_rfl) (fun _ _ _ h => h) (Or.inl ⟨by rfl, ?yhc6⟩) hS ?rhc6
      case yhc6 => (intro w hS; go_simp; try with_reducible rfl)
      go_simp
      refine wpAnyH_take (i := 2) (oi := { dst := some 79, op := Op.load 3 (Operand.tmp 78), type := 3, pos := "law.go:56", after := #[{ on := 1, ground := Ground.data }], guard := none }) (v := .int .i64 q1) rfl (by kernel_rfl) (by kernel_rfl) (by kernel_rfl) (fun _ _ _ h => h) (Or.inl ⟨by rfl, ?yhc2⟩) hS ?rhc2
      case yhc2 => (intro w' hS; have cf := hS.get ⟨w.heap.size + 1, 1, none⟩ (.int .i64 q1) (by simp); go_simp; try with_reducible rfl)
      refine wpAnyH_take (i := 4) (oi := { dst := some 81, op := Op.call { callee := Callee.builtin Builtin.len, args := #[Operand.tmp 80], argTypes := #[22] }, type := 3, pos := "law.go:56", after := #[{ on := 3, ground := Ground.data }], guard := none }) (v := ?vhc4) rfl (by kernel_rfl) (by kernel_rfl) (by kernel_rfl) (fun _ _ _ h => h) (Or.inl ⟨by rfl, ?yhc4⟩) hS ?rhc4
      case yhc4 => (intro w hS; go_simp; try with_reducible rfl)
      refine wpAnyH_take (i := 7) (oi := { dst := some 84, op := Op.load 3 (Operand.tmp 83), type := 3, pos := "law.go:56", after := #[{ on := 6, ground := Ground.data }], guard := none }) (v := .int .i64 q2) rfl (by kernel_rfl) (by kernel_rfl) (by kernel_rfl) (fun _ _ _ h => h) (Or.inl ⟨by rfl, ?yhc7⟩) hS ?rhc7
      case yhc7 => (intro w' hS; have cf := hS.get ⟨w.heap.size + 1, 2, none⟩ (.int .i64 q2) (by simp); go_simp; try with_reducible rfl)
      go_simp
      refine wpAnyH_ready (rs := [5]) (by kernel_rfl) (by simp) ?_
      refine AllReadyH.cons (o := { dst := some 82, op := Op.call { callee := Callee.value (Operand.func 13), args := #[Operand.tmp 79, Operand.tmp 81], argTypes := #[3, 3] }, type := 3, pos := "law.go:56", after := #[{ on := 2, ground := Ground.data }, { on := 4, ground := Ground.data }], guard := none }) rfl (fun K hK => ?_) AllReadyH.nil
      go_simp
      go_at_call 13
      refine (same_b (mod_c _ q1 _ _ HJ.out.1 HJ.out.2.1 HJ.out.2.2 HQQ.out.2.1)).mono ?_
      rintro e w' ⟨rfl, b⟩
      have hS2 := hS.next b
      clear b hS
      try go_simp
      refine hK.out _ _ hS2 (fun hS => ?_)
      clear hK K hS2
      refine wpAnyH_take (i := 8) (oi := { dst := some 85, op := Op.indexAddr 22 (Operand.tmp 77) (Operand.tmp 82), type := 0, pos := "law.go:56", after := #[{ on := 0, ground := Ground.data }, { on := 5, ground := Ground.data }, { on := 0, ground := Ground.phase }, { on := 1, ground := Ground.phase }, { on := 2, ground := Ground.phase }, { on := 3, ground := Ground.phase }, { on := 4, ground := Ground.phase }, { on := 5, ground := Ground.phase }, { on := 6, ground := Ground.phase }, { on := 7, ground := Ground.phase }], guard := none }) (v := ?vhc8) rfl (by kernel_rfl) (by kernel_rfl) (by kernel_rfl) (fun _ _ _ h => h) (Or.inl ⟨by rfl, ?yhc8⟩) hS ?rhc8
      case yhc8 => (intro w hS; go_simp; try with_reducible rfl)
      go_simp
      refine wpAnyH_ready (rs := [9]) (by kernel_rfl) (by simp) ?_
      refine AllReadyH.cons (o := { dst := none, op := Op.store 3 (Operand.tmp 85) (Operand.tmp 84), type := 0, pos := "law.go:56", after := #[{ on := 8, ground := Ground.data }, { on := 7, ground := Ground.data }, { on := 5, ground := Ground.chain }, { on := 0, ground := Ground.phase }, { on := 1, ground := Ground.phase }, { on := 2, ground := Ground.phase }, { on := 3, ground := Ground.phase }, { on := 4, ground := Ground.phase }, { on := 5, ground := Ground.phase }, { on := 6, ground := Ground.phase }, { on := 7, ground := Ground.phase }], guard := none }) rfl (fun K hK => ?_) AllReadyH.nil
      obtain ⟨y, cY, fY, hS2⟩ := hS.setC j q2 HQQ.out.2.2 hjl
      go_simp
      clear hS cY fY
      refine hK.out _ _ hS2 (fun hS => ?_)
      clear hK K hS2
      refine wpAnyH_done (by kernel_rfl) ?_ _
      have H9 := Lib.hid hS; clear hS
      try dsimp only [Act.put]
      go_wp2_with fail
      go_meet
      exact H9
  case rest =>
  clear H8 hf2
  obtain ⟨K2, C2, hk2, hc2, hik, hic, H8⟩ := hcut.out.ex
  have H8 := Lib.hid H8
  clear hcut
  go_upto_block 0 with fail
  have H9 := Lib.hid (H8.out.newG #[.slice cp nC cc, .slice mp ml c4, .slice none 0 0])
  clear H8
  obtain ⟨g, hg⟩ : ∃ g, wc.heap.size = g := ⟨_, rfl⟩
  obtain ⟨W9, hW9⟩ : ∃ W9, wc.alloc (.cells #[.slice cp nC cc, .slice mp ml c4, .slice none 0 0] 22) = W9 := ⟨_, rfl⟩
  rw [hW9] at H9 ⊢
  rw [hg] at H9 ⊢
  clear hg hW9
  have HF := Lib.hid (And.intro hk2 (And.intro hc2 (And.intro hik hic))); clear hk2 hc2 hik hic
  generalize C ++ [1] = M at *
  go_wp2_with fail
  go_loopw [90] (fun i wx => ∃ k : Nat, k ≤ 3 ∧ i = .int .i64 (k : Int) ∧ Hid (Q3 w [(⟨w.heap.size, 0, none⟩, .slice p n c), (⟨w.heap.size, 1, none⟩, .slice q m e), (⟨w.heap.size, 2, none⟩, .string sd), (⟨w.heap.size + 1, 0, none⟩, .int .i64 q0), (⟨w.heap.size + 1, 1, none⟩, .int .i64 q1), (⟨w.heap.size + 1, 2, none⟩, .int .i64 q2)] (.slice kp nK kc) (.slice cp nC cc) (.slice mp ml c4) K2 C2 M [E, D] [(g, #[.slice cp nC cc, .slice mp ml c4, .slice none 0 0])] wx)) (fun i _ => 3 - (match i with | .int _ i => i.toNat | _ => 0))
  case atStart => exact ⟨0, by omega, rfl, H9⟩
  case round =>
    clear H9
    obtain ⟨k, hk, rfl, HR⟩ := hrel
    by_cases hlt : k < 3
    · obtain ⟨v, l, hv, sv, hil, hll⟩ : ∃ v l, wr.cell? ⟨g, k, none⟩ = some v ∧ (∀ V, Q3 w [(⟨w.heap.size, 0, none⟩, .slice p n c), (⟨w.heap.size, 1, none⟩, .slice q m e), (⟨w.heap.size, 2, none⟩, .string sd), (⟨w.heap.size + 1, 0, none⟩, .int .i64 q0), (⟨w.heap.size + 1, 1, none⟩, .int .i64 q1), (⟨w.heap.size + 1, 2, none⟩, .int .i64 q2)] (.slice kp nK kc) (.slice cp nC cc) (.slice mp ml c4) K2 C2 M [E, D] [(g, #[.slice cp nC cc, .slice mp ml c4, .slice none 0 0])] V → SL V v l) ∧ (∀ x ∈ l, i64 x) ∧ l.length ≤ 1000 := by
        have hg := HR.out.g _ (List.mem_singleton.2 rfl)
        match k, hlt with
        | 0, _ => exact ⟨_, C2, cell_of_row _ g 0 _ _ _ hg, fun V h => own_VL h.hC, HF.out.2.2.2, by have := HF.out.2.1; have := HLN.out.2; omega⟩
        | 1, _ => exact ⟨_, M, cell_of_row _ g 1 _ _ _ hg, fun V h => own_VL h.hM, HM.out.2, HM.out.1⟩
        | 2, _ => exact ⟨_, [], cell_of_row _ g 2 _ _ _ hg, fun V h => VL.nil _ _ _, fun x hx => absurd hx (by simp), by simp⟩
      obtain ⟨r1, C1, pt1, B1, hC1, hB1, dd, ee⟩ := both l K2 sd hil HF.out.2.2.1 hll (by have := HF.out.1; have := HLN.out.1; omega) hs
      have DD := Lib.hid dd
      have EE := Lib.hid ee
      have SV := Lib.hid sv
      clear dd ee sv hil hll
      have p2 := HR.out.get ⟨w.heap.size, 2, none⟩ (.string sd) (by simp)
      obtain ⟨_, oldD, zD, hD⟩ := HR.out.r D (by simp)
      obtain ⟨_, oldE, zE, hE⟩ := HR.out.r E (by simp)
      have HLT := Lib.hid (And.intro (Array.getElem?_eq_some_iff.1 hD).1 (Array.getElem?_eq_some_iff.1 hE).1)
      have ZD := Lib.hid (dl_sz (.slice none 0 0) (.slice none 0 0) (.slice none 0 0) zD)
      have ZE := Lib.hid (dl_sz (.slice none 0 0) (.slice none 0 0) (.slice none 0 0) zE)
      have RD := Lib.hid (And.intro hD hE); clear zD hD zE hE
      go_wp2_with fail
      refine (DD.out _ _ _ (HT0.out.below HR.out.b) (SV.out _ HR.out) (own_VL HR.out.hK)).mono ?_
      rintro e wa ⟨p5, c5, b5, m5, rfl, b, so, zo⟩
      have HA := Lib.hid (HR.out.next b)
      have RA := Lib.hid (And.intro ((b.block _ HLT.out.1).trans RD.out.1) ((b.block _ HLT.out.2).trans RD.out.2))
      have SO := Lib.hid (And.intro so zo)
      clear b so zo HR RD p2 DD
      go_upto_region 16 with (refine wpList_store_row rfl 34 (.tmp 8) (.tmp 100) rfl D #[.slice p5 C1.length c5, .int .i64 pt1, .slice b5 B1.length m5] rfl rfl 34 oldD RA.out.1 (infoDl _ _ _).out ZD.out (dl_one _ _ _ _ _ _ _) ?_)
      have HB2 := Lib.hid (HA.out.store D (by simp) #[.slice p5 C1.length c5, .int .i64 pt1, .slice b5 B1.length m5] rfl)
      have RB := Lib.hid (And.intro (setRow_heap wa D oldD #[.slice p5 C1.length c5, .int .i64 pt1, .slice b5 B1.length m5] _ _ RA.out.1) ((setRow_other wa D E #[.slice p5 C1.length c5, .int .i64 pt1, .slice b5 B1.length m5] (by have := hDE.out; omega)).trans RA.out.2))
      have SB := Lib.hid (And.intro (own_row SO.out.1 D #[.slice p5 C1.length c5, .int .i64 pt1, .slice b5 B1.length m5] HLT.out.1) (own_row SO.out.2 D #[.slice p5 C1.length c5, .int .i64 pt1, .slice b5 B1.length m5] HLT.out.1))
      clear HA RA SO
      obtain ⟨wb, hwb⟩ : ∃ wb, wa.setRow D #[.slice p5 C1.length c5, .int .i64 pt1, .slice b5 B1.length m5] = wb := ⟨_, rfl⟩
      rw [hwb] at HB2 RB SB ⊢
      clear hwb
      have p2 := HB2.out.get ⟨w.heap.size, 2, none⟩ (.string sd) (by simp)
      have LB := Lib.hid (Array.getElem?_eq_some_iff.1 RB.out.2).1
      go_wp2_with fail
      refine (EE.out _ _ _ (SV.out _ HB2.out) (own_VL HB2.out.hK)).mono ?_
      rintro e wc2 ⟨p6, c6, b6, m6, rfl, b, so, zo⟩
      have HC2 := Lib.hid (HB2.out.next b)
      have RC := Lib.hid (And.intro ((b.block _ (Array.getElem?_eq_some_iff.1 RB.out.1).1).trans RB.out.1) ((b.block _ LB.out).trans RB.out.2))
      have SC2 := Lib.hid (And.intro (And.intro (own_below SB.out.1 b) (own_below SB.out.2 b)) (And.intro so zo))
      clear b so zo HB2 RB SB p2 EE
      go_upto_region 17 with (refine wpList_store_row rfl 34 (.tmp 10) (.tmp 108) rfl E #[.slice p6 C1.length c6, .int .i64 pt1, .slice b6 B1.length m6] rfl rfl 34 oldE RC.out.2 (infoDl _ _ _).out ZE.out (dl_one _ _ _ _ _ _ _) ?_)
      have HD2 := Lib.hid (HC2.out.store E (by simp) #[.slice p6 C1.length c6, .int .i64 pt1, .slice b6 B1.length m6] rfl)
      have RE := Lib.hid (And.intro ((setRow_other wc2 E D #[.slice p6 C1.length c6, .int .i64 pt1, .slice b6 B1.length m6] (by have := hDE.out; omega)).trans RC.out.1) (setRow_heap wc2 E oldE #[.slice p6 C1.length c6, .int .i64 pt1, .slice b6 B1.length m6] _ _ RC.out.2))
      have SE := Lib.hid (And.intro (And.intro (own_row SC2.out.1.1 E #[.slice p6 C1.length c6, .int .i64 pt1, .slice b6 B1.length m6] HLT.out.2) (own_row SC2.out.1.2 E #[.slice p6 C1.length c6, .int .i64 pt1, .slice b6 B1.length m6] HLT.out.2)) (And.intro (own_row SC2.out.2.1 E #[.slice p6 C1.length c6, .int .i64 pt1, .slice b6 B1.length m6] LB.out) (own_row SC2.out.2.2 E #[.slice p6 C1.length c6, .int .i64 pt1, .slice b6 B1.length m6] LB.out)))
      clear HC2 RC SC2
      obtain ⟨we, hwe⟩ : ∃ we, wc2.setRow E #[.slice p6 C1.length c6, .int .i64 pt1, .slice b6 B1.length m6] = we := ⟨_, rfl⟩
      rw [hwe] at HD2 RE SE ⊢
      clear hwe
      have d0 := cell_of_row _ D 0 _ _ _ RE.out.1
      have d1 := cell_of_row _ D 1 _ _ _ RE.out.1
      have d2 := cell_of_row _ D 2 _ _ _ RE.out.1
      have e0 := cell_of_row _ E 0 _ _ _ RE.out.2
      have e1 := cell_of_row _ E 1 _ _ _ RE.out.2
      have e2 := cell_of_row _ E 2 _ _ _ RE.out.2
      go_wp2_with fail
      refine (refSame_any we pt1 _ _ _ _ _ _ _ _ _ _ C1 B1 (own_VL SE.out.1.1) (own_VL SE.out.2.1) (own_VL SE.out.1.2) (own_VL SE.out.2.2) hC1 hB1).mono ?_
      rintro e wf ⟨rfl, b⟩
      have HF2 := Lib.hid (HD2.out.next b)
      clear b HD2 RE SE d0 d1 d2 e0 e1 e2 hC1 hB1
      go_wp2
      exact ⟨⟨k + 1, by omega, by go_num, HF2⟩, by simp; omega⟩
    · obtain rfl : k = 3 := by omega
      have HE := Lib.hid HR.out.b
      clear HR
      go_wp2
      go_ret
      exact ⟨rfl, HE.out⟩
end Go.Proofs.YtjfbpmpdcmealaaGreatDoor.D7
namespace Go.Proofs.YtjfbpmpdcmealaaGreatDoor.D7
open Go.RowKit GM SH G4 E6 D7P
theorem deals_law (w : World) (v0 v1 : Value) (S C : List Int) (sd : ByteArray) (q0 q1 q2 : Int) (hS : AL w v0 S) (hC : AL w v1 C) (hsd : sd.size ≤ 140737488355300)
    (hq0 : i64 q0) (hq1 : i64 q1) (hq2 : i64 q2) (hT : TS w) :
    Calls Tryz.prog 6 #[.agg #[v0, v1, .string sd], .agg #[.int .i64 q0, .int .i64 q1, .int .i64 q2]] w fun e w' => e = .returned (.bool true) ∧ Below w.heap.size w w' := by
  have hS' := hS
  have hC' := hC
  obtain ⟨p, n, c, rfl, a1, a2, a3, a4, a5, a6⟩ := hS
  obtain ⟨q, m, e, rfl, b1, b2, b3, b4, b5, b6⟩ := hC
  have hn9 : (n : Int) ≤ 9223372036854775807 := by unfold maxLen at a3; omega
  have al : ∀ {W : World} {v : Value} {l : List Int}, AL w v l → Below w.heap.size w W → AL W v l := fun {W v l} h b => by
    obtain ⟨p, n, c, e, h1, h2, h3, h4, h5, h6⟩ := h
    exact ⟨p, n, c, e, h1, h2, h3, h4.below b, h5, h6⟩
  have K1 : Hid (∀ W, Below w.heap.size w W → Calls Tryz.prog 9 #[.agg #[.slice p n c, .slice q m e, .string sd]] W (OwnQ W (KL S))) := Lib.hid fun W b => Keys_any W p q n c m e sd S (al hS' b)
  have N1 : Hid (∀ W, Below w.heap.size w W → Calls Tryz.prog 10 #[.agg #[.slice p n c, .slice q m e, .string sd]] W (OwnQ W (NL S C))) := Lib.hid fun W b => Numbers_any W q p m e n c sd S C a1 hn9 (al hC' b)
  have hKl := KL_len S
  have hNl := NL_len S C
  exact deals_core w p q n c m e sd q0 q1 q2 (KL S) (NL S C) ⟨hq0, hq1, hq2⟩ (by omega) (by omega) (KL_i S) (NL_i S C) hsd hT (Lib.hid fun W h => sanity_any W h) K1 N1
end Go.Proofs.YtjfbpmpdcmealaaGreatDoor.D7
