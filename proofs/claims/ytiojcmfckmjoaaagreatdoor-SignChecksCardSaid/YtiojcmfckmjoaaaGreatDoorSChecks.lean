/-
  The walk of the law SignChecks.
-/
import Derived.Test.YtiojcmfckmjoaaaGreatDoorSMany
namespace Go.Proofs.YtiojcmfckmjoaaaGreatDoor.S5
open Go.RowKit GM SH G4
/-- what the walk keeps: the signatures, and the change in block p -/
structure CK (w0 W : World) (p : Nat) (q : Array Value) (l : List (Nat × Int × Int)) : Prop where
  k : SK w0 W l
  q : W.heap[p]? = some (.cells q 43 (0, 0))
theorem CK.next {w0 u v : World} {p : Nat} {q : Array Value} {l : List (Nat × Int × Int)} (h : CK w0 u p q l) (b : Below u.heap.size u v) : CK w0 v p q l :=
  ⟨h.k.next b, (b.block p (Array.getElem?_eq_some_iff.1 h.q).1).trans h.q⟩
theorem CK.push {w0 u : World} {p : Nat} {q : Array Value} {l : List (Nat × Int × Int)} (h : CK w0 u p q l) (R S : Int) :
    CK w0 ((u.alloc (.cells #[.int .i64 0, .int .i64 0] 30)).setRow u.heap.size #[.int .i64 R, .int .i64 S]) p q ((u.heap.size, R, S) :: l) := by
  have hb : Below u.heap.size u ((u.alloc (.cells #[.int .i64 0, .int .i64 0] 30)).setRow u.heap.size #[.int .i64 R, .int .i64 S]) := Below.setRow' ((Below.refl u.heap.size u).alloc (Nat.le_refl _) _) (Nat.le_refl _) _
  exact ⟨h.k.push R S, (h.next hb).q⟩
theorem CK.cell {w0 W : World} {p : Nat} {q : Array Value} {l : List (Nat × Int × Int)} (h : CK w0 W p q l) (j : Nat) : W.cell? ⟨p, j, none⟩ = q[j]? := cell_of_row W p j _ _ _ h.q
theorem SM.put0 {w : World} {b : Nat} {R S : Int} (h : SM w b R S) (z : Int) : SM (w.setCell ⟨b, 0, none⟩ (.int .i64 z)) b z S := by
  unfold SM; rw [heap_setCell_same w b 0 _ _ _ h]; rfl
theorem SM.put1 {w : World} {b : Nat} {R S : Int} (h : SM w b R S) (z : Int) : SM (w.setCell ⟨b, 1, none⟩ (.int .i64 z)) b R z := by
  unfold SM; rw [heap_setCell_same w b 1 _ _ _ h]; rfl
theorem SM.away {w : World} {b c : Nat} {R S : Int} (h : SM w b R S) (hc : b ≠ c) (j : Nat) (v : Value) : SM (w.setCell ⟨c, j, none⟩ v) b R S := by
  unfold SM; rw [heap_setCell_other w _ b _ hc]; exact h
theorem CK.set2 {w0 W : World} {p a : Nat} {q : Array Value} {l : List (Nat × Int × Int)} {R S : Int} (h : CK w0 W p q ((a, R, S) :: l)) (h0 : TS w0) (ha : w0.heap.size ≤ a) (hpa : p ≠ a) (hl : ∀ x ∈ l, x.1 ≠ a) (R2 S2 : Int) :
    CK w0 (((W.setCell ⟨a, 0, none⟩ (.int .i64 R2)).setCell ⟨a, 1, none⟩ (.int .i64 S2)).drew) p q ((a, R2, S2) :: l) := by
  have hb := (((h.k.b.setCell (p := ⟨a, 0, none⟩) ha (.int .i64 R2)).setCell (p := ⟨a, 1, none⟩) ha (.int .i64 S2)).drew)
  refine ⟨⟨h0.below hb, hb, fun x hx => ?_⟩, ?_⟩
  · rcases List.mem_cons.1 hx with rfl | hx
    · exact ((h.k.s (a, R, S) (by simp)).put0 R2).put1 S2
    · exact ((h.k.s x (by simp [hx])).away (hl x hx) 0 _).away (hl x hx) 1 _
  · show ((W.setCell ⟨a, 0, none⟩ (.int .i64 R2)).setCell ⟨a, 1, none⟩ (.int .i64 S2)).heap[p]? = _
    rw [heap_setCell_other _ _ p _ hpa, heap_setCell_other _ _ p _ hpa]; exact h.q
theorem ck_next {w0 u v : World} {p a : Nat} {q : Array Value} {l : List (Nat × Int × Int)} {R S : Int} (h : CK w0 u p q l ∧ u.cell? ⟨a, 0, none⟩ = some (.int .i64 R) ∧ u.cell? ⟨a, 1, none⟩ = some (.int .i64 S)) (b : Below u.heap.size u v) :
    CK w0 v p q l ∧ v.cell? ⟨a, 0, none⟩ = some (.int .i64 R) ∧ v.cell? ⟨a, 1, none⟩ = some (.int .i64 S) := by
  have hp : a < u.heap.size := World.block_lt_of_cell? _ _ h.2.1
  exact ⟨h.1.next b, (b.cell (p := ⟨a, 0, none⟩) hp).trans h.2.1, (b.cell (p := ⟨a, 1, none⟩) hp).trans h.2.2⟩
theorem ck_next2 {w0 u v : World} {p a a2 : Nat} {q : Array Value} {l : List (Nat × Int × Int)} {R S R2 S2 : Int} (h : CK w0 u p q l ∧ u.cell? ⟨a, 0, none⟩ = some (.int .i64 R) ∧ u.cell? ⟨a, 1, none⟩ = some (.int .i64 S) ∧ u.cell? ⟨a2, 0, none⟩ = some (.int .i64 R2) ∧ u.cell? ⟨a2, 1, none⟩ = some (.int .i64 S2)) (b : Below u.heap.size u v) :
    CK w0 v p q l ∧ v.cell? ⟨a, 0, none⟩ = some (.int .i64 R) ∧ v.cell? ⟨a, 1, none⟩ = some (.int .i64 S) ∧ v.cell? ⟨a2, 0, none⟩ = some (.int .i64 R2) ∧ v.cell? ⟨a2, 1, none⟩ = some (.int .i64 S2) := by
  have hp : a < u.heap.size := World.block_lt_of_cell? _ _ h.2.1
  have hp2 : a2 < u.heap.size := World.block_lt_of_cell? _ _ h.2.2.2.1
  exact ⟨h.1.next b, (b.cell (p := ⟨a, 0, none⟩) hp).trans h.2.1, (b.cell (p := ⟨a, 1, none⟩) hp).trans h.2.2.1, (b.cell (p := ⟨a2, 0, none⟩) hp2).trans h.2.2.2.1, (b.cell (p := ⟨a2, 1, none⟩) hp2).trans h.2.2.2.2⟩
set_option maxRecDepth 100000 in
set_option maxHeartbeats 8000000 in
theorem checks_add (w : World) (s r v y dR dS dK tr tv ky : Int) (t u dT du o : ByteArray) (m n : Nat) (b0 b1 b2 b3 b4 : Bool)
    (m1 : min (t.size : Int) 300 = (m : Int)) (m2 : (m : Int) ≤ (t.size : Int)) (m3 : (0 : Int) ≤ (m : Int)) (hu : t.extract 0 m = u)
    (n1 : min (dT.size : Int) 300 = (n : Int)) (n2 : (n : Int) ≤ (dT.size : Int)) (n3 : (0 : Int) ≤ (n : Int)) (hv : dT.extract 0 n = du) (ho : u ++ du = o) (hbig : (9223372036854775807 < u.size + du.size) = False)
    (hr : wrap64 (r + dR) = tr) (hs : wrap64 (v + dS) = tv) (hk : wrap64 (y + dK) = ky)
    (C0 : Hid (∀ W (_ : TS W), Calls Tryz.prog 9 #[] W fun e w' => e = .returned (.bool true) ∧ Below W.heap.size W w'))
    (P1 : Hid (∀ W, Calls Tryz.prog 19 #[.int .i64 s] W fun e w' => e = .returned (.int .i64 y) ∧ Below W.heap.size W w'))
    (C2 : Hid (∀ W, Calls Tryz.prog 18 #[.int .i64 s, .string u] W fun e w' => e = .returned (sgv r v) ∧ Below W.heap.size W w'))
    (V0 : Hid (∀ W (_ : TB W), Calls Tryz.prog 20 #[.int .i64 y, .string u, sgv r v] W fun e w' => e = .returned (.bool b0) ∧ Below W.heap.size W w'))
    (W0 : Hid (∀ W, Calls Tryz.prog 21 #[.int .i64 y, .string u, sgv r v] W fun e w' => e = .returned (.bool b0) ∧ Below W.heap.size W w'))
    (V1 : Hid (∀ W (_ : TB W), Calls Tryz.prog 20 #[.int .i64 ky, .string o, sgv tr tv] W fun e w' => e = .returned (.bool b1) ∧ Below W.heap.size W w'))
    (W1 : Hid (∀ W, Calls Tryz.prog 21 #[.int .i64 ky, .string o, sgv tr tv] W fun e w' => e = .returned (.bool b1) ∧ Below W.heap.size W w'))
    (V2 : Hid (∀ W (_ : TB W), Calls Tryz.prog 20 #[.int .i64 ky, .string u, sgv r v] W fun e w' => e = .returned (.bool b2) ∧ Below W.heap.size W w'))
    (W2 : Hid (∀ W, Calls Tryz.prog 21 #[.int .i64 ky, .string u, sgv r v] W fun e w' => e = .returned (.bool b2) ∧ Below W.heap.size W w'))
    (V3 : Hid (∀ W (_ : TB W), Calls Tryz.prog 20 #[.int .i64 y, .string o, sgv r v] W fun e w' => e = .returned (.bool b3) ∧ Below W.heap.size W w'))
    (W3 : Hid (∀ W, Calls Tryz.prog 21 #[.int .i64 y, .string o, sgv r v] W fun e w' => e = .returned (.bool b3) ∧ Below W.heap.size W w'))
    (V4 : Hid (∀ W (_ : TB W), Calls Tryz.prog 20 #[.int .i64 y, .string u, sgv tr tv] W fun e w' => e = .returned (.bool b4) ∧ Below W.heap.size W w'))
    (W4 : Hid (∀ W, Calls Tryz.prog 21 #[.int .i64 y, .string u, sgv tr tv] W fun e w' => e = .returned (.bool b4) ∧ Below W.heap.size W w'))
    (hT : TS w) :
    Calls Tryz.prog 6 #[.int .i64 s, .string t, .agg #[.int .i64 dR, .int .i64 dS, .int .i64 dK, .string dT, .bool false]] w fun e w' => e = .returned (.bool true) ∧ Below w.heap.size w w' := by
  obtain ⟨W, hW⟩ : ∃ W, w.alloc (.cells #[.int .i64 dR, .int .i64 dS, .int .i64 dK, .string dT, .bool false] 43) = W := ⟨_, rfl⟩
  have hb : Below w.heap.size w W := by rw [← hW]; exact (Below.refl w.heap.size w).alloc (Nat.le_refl _) _
  have H0 := Lib.hid hT
  have HT := Lib.hid (show CK w W w.heap.size #[.int .i64 dR, .int .i64 dS, .int .i64 dK, .string dT, .bool false] [] from ⟨(sk_start hT).next hb, by rw [← hW]; exact heap_alloc_new _ _⟩)
  clear hT hb
  go_enter Tryz.func6, Tryz.ntmps6
  go_upto_region 1 with fail
  clear hW
  go_wp2_with fail
  refine (C0.out _ HT.out.k.t).mono ?_
  rintro e w1 ⟨rfl, b⟩
  have K1 := Lib.hid (HT.out.next b); clear b HT
  go_wp2_with fail
  refine (P1.out _).mono ?_
  rintro e w2 ⟨rfl, b⟩
  have K2 := Lib.hid (K1.out.next b); clear b K1
  go_wp2_with fail
  refine (C2.out _).mono ?_
  rintro e w3 ⟨rfl, b⟩
  have K3 := Lib.hid (K2.out.next b); clear b K2
  have z3 := SM.new w3 0 0
  have hi := infoS r v
  go_upto_region 5 with (refine wpList_store_row rfl 30 (.tmp 9) (.tmp 23) rfl w3.heap.size #[.int .i64 r, .int .i64 v] rfl rfl 30 _ z3 hi.out (two_size _ _ _ _) (sg_one _ _) ?_)
  clear z3
  have H3 := Lib.hid (K3.out.push r v); clear K3
  try change Code.wp _ _ _ _ ((w3.alloc (.cells #[.int .i64 0, .int .i64 0] 30)).setRow w3.heap.size #[.int .i64 r, .int .i64 v])
  generalize hq : (w3.alloc (.cells #[.int .i64 0, .int .i64 0] 30)).setRow w3.heap.size #[.int .i64 r, .int .i64 v] = v3 at *
  clear hq
  have hS : CK w v3 w.heap.size #[.int .i64 dR, .int .i64 dS, .int .i64 dK, .string dT, .bool false] [(w3.heap.size, r, v)] ∧ v3.cell? ⟨w3.heap.size, 0, none⟩ = some (.int .i64 r) ∧ v3.cell? ⟨w3.heap.size, 1, none⟩ = some (.int .i64 v) := ⟨H3.out, (H3.out.k.get w3.heap.size r v (by simp)).c0, (H3.out.k.get w3.heap.size r v (by simp)).c1⟩
  clear H3 hi
  go_region_held3 (fun w' => CK w w' w.heap.size #[.int .i64 dR, .int .i64 dS, .int .i64 dK, .string dT, .bool false] [(w3.heap.size, r, v)] ∧ w'.cell? ⟨w3.heap.size, 0, none⟩ = some (.int .i64 r) ∧ w'.cell? ⟨w3.heap.size, 1, none⟩ = some (.int .i64 v))
    (first | assumption | exact ck_next hS (Below.drew (Below.refl _ _)) | exact hS | exact ck_next (by assumption) b)
    (first
      | (go_at_call_of 20 (Value.string u); go_at_call_of 20 (Value.agg #[.int .i64 r, .int .i64 v]); refine (V0.out _ (CK.k (And.left (by assumption))).t.tb).mono ?_; rintro e w' ⟨rfl, b⟩)
      | (go_at_call_of 21 (Value.string u); go_at_call_of 21 (Value.agg #[.int .i64 r, .int .i64 v]); refine (W0.out _).mono ?_; rintro e w' ⟨rfl, b⟩))
  go_upto_region 7 with fail
  have hX : CK w w' w.heap.size #[.int .i64 dR, .int .i64 dS, .int .i64 dK, .string dT, .bool false] [(w3.heap.size, r, v)] ∧ w'.cell? ⟨w3.heap.size, 0, none⟩ = some (.int .i64 r) ∧ w'.cell? ⟨w3.heap.size, 1, none⟩ = some (.int .i64 v) := by assumption
  clear hS V0 W0
  generalize w' = x3 at *
  have HX := Lib.hid hX.1
  have c0 := hX.2.1
  have c1 := hX.2.2
  clear hX
  have q0 : x3.cell? ⟨w.heap.size, 0, none⟩ = some (.int .i64 dR) := HX.out.cell 0
  have q1 : x3.cell? ⟨w.heap.size, 1, none⟩ = some (.int .i64 dS) := HX.out.cell 1
  have z4 := SM.new x3 0 0
  have hi := infoS tr tv
  go_upto_region 8 with (refine wpList_store_row rfl 30 (.tmp 10) (.tmp 43) rfl x3.heap.size #[.int .i64 tr, .int .i64 tv] rfl rfl 30 _ z4 hi.out (two_size _ _ _ _) (sg_one _ _) ?_)
  clear z4 c0 c1 q0 q1
  have hl3 := (HX.out.k.get w3.heap.size r v (by simp)).lt
  have hb3 := HX.out.k.b.size
  have hw3 : w.heap.size < x3.heap.size := (Array.getElem?_eq_some_iff.1 HX.out.q).1
  have HN := Lib.hid (And.intro hl3 (And.intro hb3 hw3)); clear hl3 hb3 hw3
  have H4 := Lib.hid (HX.out.push tr tv); clear HX
  try change Code.wp _ _ _ _ ((x3.alloc (.cells #[.int .i64 0, .int .i64 0] 30)).setRow x3.heap.size #[.int .i64 tr, .int .i64 tv])
  generalize hq : (x3.alloc (.cells #[.int .i64 0, .int .i64 0] 30)).setRow x3.heap.size #[.int .i64 tr, .int .i64 tv] = x4 at *
  clear hq hi
  have q2 : x4.cell? ⟨w.heap.size, 2, none⟩ = some (.int .i64 dK) := H4.out.cell 2
  have q4 : x4.cell? ⟨w.heap.size, 4, none⟩ = some (.bool false) := H4.out.cell 4
  go_upto_region 11 with fail
  clear q2 q4
  have H5 := H4
  generalize x4 = x5 at *
  have q3 : x5.cell? ⟨w.heap.size, 3, none⟩ = some (.string dT) := H5.out.cell 3
  go_upto_region 12 with fail
  clear q3
  have hY : CK w x5 w.heap.size #[.int .i64 dR, .int .i64 dS, .int .i64 dK, .string dT, .bool false] [(x3.heap.size, tr, tv), (w3.heap.size, r, v)] ∧ x5.cell? ⟨w3.heap.size, 0, none⟩ = some (.int .i64 r) ∧ x5.cell? ⟨w3.heap.size, 1, none⟩ = some (.int .i64 v) ∧ x5.cell? ⟨x3.heap.size, 0, none⟩ = some (.int .i64 tr) ∧ x5.cell? ⟨x3.heap.size, 1, none⟩ = some (.int .i64 tv) :=
    ⟨H5.out, (H5.out.k.get w3.heap.size r v (by simp)).c0, (H5.out.k.get w3.heap.size r v (by simp)).c1, (H5.out.k.get x3.heap.size tr tv (by simp)).c0, (H5.out.k.get x3.heap.size tr tv (by simp)).c1⟩
  clear H5
  go_region_held3 (fun w' => CK w w' w.heap.size #[.int .i64 dR, .int .i64 dS, .int .i64 dK, .string dT, .bool false] [(x3.heap.size, tr, tv), (w3.heap.size, r, v)] ∧ w'.cell? ⟨w3.heap.size, 0, none⟩ = some (.int .i64 r) ∧ w'.cell? ⟨w3.heap.size, 1, none⟩ = some (.int .i64 v) ∧ w'.cell? ⟨x3.heap.size, 0, none⟩ = some (.int .i64 tr) ∧ w'.cell? ⟨x3.heap.size, 1, none⟩ = some (.int .i64 tv))
    (first | assumption | exact ck_next2 hY (Below.drew (Below.refl _ _)) | exact hY | exact ck_next2 (by assumption) b)
    (first
      | (go_at_call_of 20 (Value.string o); go_at_call_of 20 (Value.agg #[.int .i64 tr, .int .i64 tv]); refine (V1.out _ (CK.k (And.left (by assumption))).t.tb).mono ?_; rintro e w' ⟨rfl, b⟩)
      | (go_at_call_of 21 (Value.string o); go_at_call_of 21 (Value.agg #[.int .i64 tr, .int .i64 tv]); refine (W1.out _).mono ?_; rintro e w' ⟨rfl, b⟩)
      | (go_at_call_of 20 (Value.string u); go_at_call_of 20 (Value.agg #[.int .i64 r, .int .i64 v]); refine (V2.out _ (CK.k (And.left (by assumption))).t.tb).mono ?_; rintro e w' ⟨rfl, b⟩)
      | (go_at_call_of 21 (Value.string u); go_at_call_of 21 (Value.agg #[.int .i64 r, .int .i64 v]); refine (W2.out _).mono ?_; rintro e w' ⟨rfl, b⟩)
      | (go_at_call_of 20 (Value.string o); go_at_call_of 20 (Value.agg #[.int .i64 r, .int .i64 v]); refine (V3.out _ (CK.k (And.left (by assumption))).t.tb).mono ?_; rintro e w' ⟨rfl, b⟩)
      | (go_at_call_of 21 (Value.string o); go_at_call_of 21 (Value.agg #[.int .i64 r, .int .i64 v]); refine (W3.out _).mono ?_; rintro e w' ⟨rfl, b⟩)
      | (go_at_call_of 20 (Value.string u); go_at_call_of 20 (Value.agg #[.int .i64 tr, .int .i64 tv]); refine (V4.out _ (CK.k (And.left (by assumption))).t.tb).mono ?_; rintro e w' ⟨rfl, b⟩)
      | (go_at_call_of 21 (Value.string u); go_at_call_of 21 (Value.agg #[.int .i64 tr, .int .i64 tv]); refine (W4.out _).mono ?_; rintro e w' ⟨rfl, b⟩))
  all_goals
    have hZ := (CK.k (And.left (by assumption) : CK _ w' _ _ _)).b
    go_wp2
    go_ret
    exact ⟨rfl, hZ⟩
end Go.Proofs.YtiojcmfckmjoaaaGreatDoor.S5
