/-
  The walk of ratio.times.
  The walk of ratio.plus.
  The walks of ratio.minus, ratio.Make, ratio.Right, ratio.span's excludes and ratio.valid, at right numbers.
  Rational numbers compared as values.
  The walk of ratio.Make.
  The walks of ratio.Right, of the spans, and of ratio.valid: for any three parts.
  The walks of ratio.Right, of the spans' excludes and of ratio.valid, for any three parts.
  Regions that load whole numbers and call: what a region keeps.
-/
import Derived.Test.YteccbedmpjeamaaGreatDoorQA
import Derived.Deep.RegionHeld3
import Derived.Deep.RegionWith
import Derived.Laws.StructEq
import Derived.Deep.WholeRow
namespace Go.Proofs.YteccbedmpjeamaaGreatDoor
open Go.RowKit NM QM
/-- two numbers lie in the blocks p and p + 1 -/
def Q2 (p : Nat) (a b : Rat) (w : World) : Prop :=
  w.cell? ⟨p, 0, none⟩ = some (.bool (decide (a.num < 0))) ∧ w.cell? ⟨p, 1, none⟩ = some (.string (NB a.num.natAbs)) ∧ w.cell? ⟨p, 2, none⟩ = some (.string (NB a.den)) ∧
  w.cell? ⟨p + 1, 0, none⟩ = some (.bool (decide (b.num < 0))) ∧ w.cell? ⟨p + 1, 1, none⟩ = some (.string (NB b.num.natAbs)) ∧ w.cell? ⟨p + 1, 2, none⟩ = some (.string (NB b.den))
theorem Q2.below {p : Nat} {a b : Rat} {u v : World} (h : Q2 p a b u) (k : Below (p + 2) u v) : Q2 p a b v :=
  ⟨(k.cell (p := ⟨p, 0, none⟩) (by simp)).trans h.1, (k.cell (p := ⟨p, 1, none⟩) (by simp)).trans h.2.1, (k.cell (p := ⟨p, 2, none⟩) (by simp)).trans h.2.2.1,
    (k.cell (p := ⟨p + 1, 0, none⟩) (by simp)).trans h.2.2.2.1, (k.cell (p := ⟨p + 1, 1, none⟩) (by simp)).trans h.2.2.2.2.1, (k.cell (p := ⟨p + 1, 2, none⟩) (by simp)).trans h.2.2.2.2.2⟩
def zrow : Array Value := #[.bool false, .string ⟨#[]⟩, .string ⟨#[]⟩]
theorem info26 : Hid ((Tryz.prog.info? 26).map (·.size) = some 3) := Lib.hid (by kernel_rfl)
theorem Below.setRow' {B g : Nat} {w0 w : World} (hb : Below B w0 w) (hBg : B ≤ g) (cs : Array Value) : Below B w0 (w.setRow g cs) := by
  refine hb.trans ⟨rfl, rfl, rfl, by simp, fun k hk => ?_⟩
  exact setRow_other w g k cs (by omega)
/-- byte i of a row -/
def gb (l : List UInt8) (i : Nat) : Nat := (l.getD i 0).toNat
theorem qone (a : Rat) : (qcells a).all (·.oneCell') = true := by simp [qcells, Value.oneCell']
/-- two numbers and a third place -/
structure B3 (w : World) (a b : Rat) (W : World) : Prop where
  q : Q2 w.heap.size a b W
  z : W.heap[w.heap.size + 2]? = some (.cells zrow 26 (0, 0))
  lt : w.heap.size + 2 < W.heap.size
  b : Below w.heap.size w W
theorem b3_start (w : World) (a b : Rat) : B3 w a b (((w.alloc (.cells (qcells a) 26)).alloc (.cells (qcells b) 26)).alloc (.cells zrow 26)) := by
  have s1 : (w.alloc (.cells (qcells a) 26)).heap.size = w.heap.size + 1 := by simp
  have s2 : ((w.alloc (.cells (qcells a) 26)).alloc (.cells (qcells b) 26)).heap.size = w.heap.size + 2 := by simp
  have ha : (((w.alloc (.cells (qcells a) 26)).alloc (.cells (qcells b) 26)).alloc (.cells zrow 26)).heap[w.heap.size]? = some (.cells (qcells a) 26 (0, 0)) := by
    rw [heap_alloc_old _ _ (by omega), heap_alloc_old _ _ (by omega)]; exact heap_alloc_new _ _
  have hb : (((w.alloc (.cells (qcells a) 26)).alloc (.cells (qcells b) 26)).alloc (.cells zrow 26)).heap[w.heap.size + 1]? = some (.cells (qcells b) 26 (0, 0)) := by
    rw [heap_alloc_old _ _ (by omega), ← s1]; exact heap_alloc_new _ _
  have hz : (((w.alloc (.cells (qcells a) 26)).alloc (.cells (qcells b) 26)).alloc (.cells zrow 26)).heap[w.heap.size + 2]? = some (.cells zrow 26 (0, 0)) := by
    rw [← s2]; exact heap_alloc_new _ _
  refine ⟨⟨cell_of_row _ _ 0 _ _ _ ha, cell_of_row _ _ 1 _ _ _ ha, cell_of_row _ _ 2 _ _ _ ha, cell_of_row _ _ 0 _ _ _ hb, cell_of_row _ _ 1 _ _ _ hb, cell_of_row _ _ 2 _ _ _ hb⟩, hz, by simp, ?_⟩
  exact (((Below.refl _ w).alloc (Nat.le_refl _) _).alloc (by simp) _).alloc (by simp; omega) _
theorem B3.next {w u v : World} {a b : Rat} (h : B3 w a b u) (k : Below u.heap.size u v) : B3 w a b v :=
  ⟨h.q.below (k.mono (by have := h.lt; omega)), (k.block _ (by have := h.lt; omega)).trans h.z, Nat.lt_of_lt_of_le h.lt k.size, h.b.trans (k.mono h.b.size)⟩
theorem B3.drew {w u : World} {a b : Rat} (h : B3 w a b u) : B3 w a b u.drew := ⟨h.q, h.z, h.lt, h.b.drew⟩
theorem s7 {w w' : World} {a b : Rat} (h : B3 w a b w') : w'.cell? ⟨w.heap.size, 0, none⟩ = some (.bool (decide (a.num < 0))) ∧ w'.cell? ⟨w.heap.size, 1, none⟩ = some (.string (NB a.num.natAbs)) ∧ w'.cell? ⟨w.heap.size, 2, none⟩ = some (.string (NB a.den)) ∧ w'.cell? ⟨w.heap.size + 1, 0, none⟩ = some (.bool (decide (b.num < 0))) ∧ w'.cell? ⟨w.heap.size + 1, 1, none⟩ = some (.string (NB b.num.natAbs)) ∧ w'.cell? ⟨w.heap.size + 1, 2, none⟩ = some (.string (NB b.den)) ∧ B3 w a b w' :=
  ⟨h.q.1, h.q.2.1, h.q.2.2.1, h.q.2.2.2.1, h.q.2.2.2.2.1, h.q.2.2.2.2.2, h⟩
theorem s_out {w w' : World} {a b : Rat} (h : w'.cell? ⟨w.heap.size, 0, none⟩ = some (.bool (decide (a.num < 0))) ∧ w'.cell? ⟨w.heap.size, 1, none⟩ = some (.string (NB a.num.natAbs)) ∧ w'.cell? ⟨w.heap.size, 2, none⟩ = some (.string (NB a.den)) ∧ w'.cell? ⟨w.heap.size + 1, 0, none⟩ = some (.bool (decide (b.num < 0))) ∧ w'.cell? ⟨w.heap.size + 1, 1, none⟩ = some (.string (NB b.num.natAbs)) ∧ w'.cell? ⟨w.heap.size + 1, 2, none⟩ = some (.string (NB b.den)) ∧ B3 w a b w') : B3 w a b w' := h.2.2.2.2.2.2
set_option maxRecDepth 100000 in
set_option maxHeartbeats 4000000 in
theorem times_q (w : World) (a b : Rat) (N : Nat) (ha : SmQ N a) (hb : SmQ N b) (hN : N ≤ 1000000) (hT : DB w) (hg : 5 < w.heap.size) :
    Calls Tryz.prog 48 #[QV a, QV b] w fun e w' => e = .returned (QV (a * b)) ∧ Below w.heap.size w w' := by
  have h0 := b3_start w a b
  obtain ⟨W, hW⟩ : ∃ W, ((w.alloc (.cells (qcells a) 26)).alloc (.cells (qcells b) 26)).alloc (.cells zrow 26) = W := ⟨_, rfl⟩
  rw [hW] at h0
  have HW := Lib.hid hW; clear hW
  have gp : 0 < a.num.natAbs.gcd b.den := Nat.gcd_pos_of_pos_right _ b.den_pos
  have gn : 0 < b.num.natAbs.gcd a.den := Nat.gcd_pos_of_pos_right _ a.den_pos
  have l1 := gcd_lt_r (x := a.num.natAbs) hb.2 b.den_pos
  have l2 := gcd_lt_r (x := b.num.natAbs) ha.2 a.den_pos
  have G1 := fun W' (h : Below w.heap.size w W') => gcd_q W' a.num.natAbs b.den N ha.1 hb.2 (by omega) (hT.below h hg) (Nat.lt_of_lt_of_le hg h.size)
  have G2 := fun W' (h : Below w.heap.size w W') => gcd_q W' b.num.natAbs a.den N hb.1 ha.2 (by omega) (hT.below h hg) (Nat.lt_of_lt_of_le hg h.size)
  have O1 := fun W' => over_q W' a.num.natAbs (a.num.natAbs.gcd b.den) N ha.1 l1 (by omega) (by omega)
  have O2 := fun W' => over_q W' b.num.natAbs (b.num.natAbs.gcd a.den) N hb.1 l2 (by omega) (by omega)
  have O3 := fun W' => over_q W' a.den (b.num.natAbs.gcd a.den) N ha.2 l2 (by omega) (by omega)
  have O4 := fun W' => over_q W' b.den (a.num.natAbs.gcd b.den) N hb.2 l1 (by omega) (by omega)
  have M1 := fun W' => mul_q W' (a.num.natAbs / a.num.natAbs.gcd b.den) (b.num.natAbs / b.num.natAbs.gcd a.den) N (div_lt ha.1) (div_lt hb.1) (by omega)
  have M2 := fun W' => mul_q W' (a.den / b.num.natAbs.gcd a.den) (b.den / a.num.natAbs.gcd b.den) N (div_lt ha.2) (div_lt hb.2) (by omega)
  have NN := fun W' => rnumber_any W' (decide (a.num < 0) != decide (b.num < 0)) (a.num.natAbs / a.num.natAbs.gcd b.den * (b.num.natAbs / b.num.natAbs.gcd a.den)) (a.den / b.num.natAbs.gcd a.den * (b.den / a.num.natAbs.gcd b.den))
  rw [← QV_RV (a * b) _ _ _ (mul_num a b) (mul_den a b) (by rw [mul_neg, mul_num])] at NN
  have hc := h0.q
  unfold Q2 at hc
  have HC := Lib.hid h0
  unfold QV qcells at NN ⊢
  generalize NB (a.num.natAbs / a.num.natAbs.gcd b.den * (b.num.natAbs / b.num.natAbs.gcd a.den)) = P1 at *
  generalize NB (a.den / b.num.natAbs.gcd a.den * (b.den / a.num.natAbs.gcd b.den)) = P2 at *
  generalize NB (a.num.natAbs / a.num.natAbs.gcd b.den) = D1 at *
  generalize NB (b.num.natAbs / b.num.natAbs.gcd a.den) = D2 at *
  generalize NB (a.den / b.num.natAbs.gcd a.den) = D3 at *
  generalize NB (b.den / a.num.natAbs.gcd b.den) = D4 at *
  generalize NB (a.num.natAbs.gcd b.den) = GM at *
  generalize NB (b.num.natAbs.gcd a.den) = GN at *
  have HG := Lib.hid (And.intro G1 G2)
  have HO := Lib.hid (And.intro O1 (And.intro O2 (And.intro O3 O4)))
  have HM := Lib.hid (And.intro M1 (And.intro M2 NN))
  clear G1 G2 O1 O2 O3 O4 M1 M2 NN gp gn l1 l2 hT
  go_enter Tryz.func48, Tryz.ntmps48
  go_upto_region 1 with fail
  change Code.wp _ _ _ _ (((w.alloc (.cells (qcells a) 26)).alloc (.cells (qcells b) 26)).alloc (.cells zrow 26))
  rw [HW.out]
  clear HW hc h0
  have h1 := HC.out.drew
  go_region_held3 (fun w' => w'.cell? ⟨w.heap.size, 0, none⟩ = some (.bool (decide (a.num < 0))) ∧ w'.cell? ⟨w.heap.size, 1, none⟩ = some (.string (NB a.num.natAbs)) ∧ w'.cell? ⟨w.heap.size, 2, none⟩ = some (.string (NB a.den)) ∧ w'.cell? ⟨w.heap.size + 1, 0, none⟩ = some (.bool (decide (b.num < 0))) ∧ w'.cell? ⟨w.heap.size + 1, 1, none⟩ = some (.string (NB b.num.natAbs)) ∧ w'.cell? ⟨w.heap.size + 1, 2, none⟩ = some (.string (NB b.den)) ∧ B3 w a b w') (first | assumption | exact s7 (by assumption) | exact s7 (B3.drew (by assumption)) | exact s7 (B3.drew (s_out (by assumption))))
    (first
      | (go_at_call_of 64 (Value.string (NB a.num.natAbs)); go_must (refine (HG.out.1 _ (B3.b (s_out (by assumption)))).mono ?_); rintro e ua ⟨rfl, ka⟩; have ha := B3.next (s_out (by assumption)) ka; clear ka)
      | (go_at_call_of 64 (Value.string (NB b.num.natAbs)); go_must (refine (HG.out.2 _ (B3.b (s_out (by assumption)))).mono ?_); rintro e ub ⟨rfl, kb⟩; have hb := B3.next (s_out (by assumption)) kb; clear kb))
  all_goals go_wp2_with fail
  go_region_held3 (fun w' => w'.cell? ⟨w.heap.size, 0, none⟩ = some (.bool (decide (a.num < 0))) ∧ w'.cell? ⟨w.heap.size, 1, none⟩ = some (.string (NB a.num.natAbs)) ∧ w'.cell? ⟨w.heap.size, 2, none⟩ = some (.string (NB a.den)) ∧ w'.cell? ⟨w.heap.size + 1, 0, none⟩ = some (.bool (decide (b.num < 0))) ∧ w'.cell? ⟨w.heap.size + 1, 1, none⟩ = some (.string (NB b.num.natAbs)) ∧ w'.cell? ⟨w.heap.size + 1, 2, none⟩ = some (.string (NB b.den)) ∧ B3 w a b w') (first | assumption | exact s7 (by assumption) | exact s7 (B3.drew (by assumption)) | exact s7 (B3.drew (s_out (by assumption))))
    (first
      | (go_at_call_of 66 (Value.string (NB a.num.natAbs)); go_must (refine (HO.out.1 _).mono ?_); rintro e uc ⟨rfl, kc⟩; have hc := B3.next (s_out (by assumption)) kc; clear kc)
      | (go_at_call_of 66 (Value.string (NB b.num.natAbs)); go_must (refine (HO.out.2.1 _).mono ?_); rintro e ud ⟨rfl, kd⟩; have hd := B3.next (s_out (by assumption)) kd; clear kd)
      | (go_at_call_of 56 (Value.string D1); go_must (refine (HM.out.1 _).mono ?_); rintro e ue ⟨rfl, ke⟩; have he := B3.next (s_out (by assumption)) ke; clear ke))
  all_goals go_wp2_with fail
  go_region_held3 (fun w' => w'.cell? ⟨w.heap.size, 0, none⟩ = some (.bool (decide (a.num < 0))) ∧ w'.cell? ⟨w.heap.size, 1, none⟩ = some (.string (NB a.num.natAbs)) ∧ w'.cell? ⟨w.heap.size, 2, none⟩ = some (.string (NB a.den)) ∧ w'.cell? ⟨w.heap.size + 1, 0, none⟩ = some (.bool (decide (b.num < 0))) ∧ w'.cell? ⟨w.heap.size + 1, 1, none⟩ = some (.string (NB b.num.natAbs)) ∧ w'.cell? ⟨w.heap.size + 1, 2, none⟩ = some (.string (NB b.den)) ∧ B3 w a b w') (first | assumption | exact s7 (by assumption) | exact s7 (B3.drew (by assumption)) | exact s7 (B3.drew (s_out (by assumption))))
    (first
      | (go_at_call_of 66 (Value.string (NB a.den)); go_must (refine (HO.out.2.2.1 _).mono ?_); rintro e uf ⟨rfl, kf⟩; have hf := B3.next (s_out (by assumption)) kf; clear kf)
      | (go_at_call_of 66 (Value.string (NB b.den)); go_must (refine (HO.out.2.2.2 _).mono ?_); rintro e ug ⟨rfl, kg⟩; have hg := B3.next (s_out (by assumption)) kg; clear kg)
      | (go_at_call_of 56 (Value.string D3); go_must (refine (HM.out.2.1 _).mono ?_); rintro e uh ⟨rfl, kh⟩; have hh := B3.next (s_out (by assumption)) kh; clear kh))
  obtain ⟨c0, c1, c2, c3, c4, c5⟩ := hh.q
  go_wp2_with fail
  refine (HM.out.2.2 _).mono ?_
  rintro e uk ⟨rfl, bk⟩
  have hk := hh.next bk
  have hz := hk.z
  have HB := Lib.hid hk.b
  clear bk hk
  go_wp2_with (refine wpList_store_row rfl 26 (.tmp 4) (.tmp 44) rfl (w.heap.size + 2) (qcells (a * b)) rfl rfl 26 _ hz info26.out rfl (qone _) ?_)
  refine bodyPost_ret (results_cell_row rfl _ _ (w.heap.size + 2) _ (qcells (a * b)) _ _ rfl (setRow_heap _ _ _ _ _ _ hz) Tryz.underlying26 rfl info26.out) rfl ?_
  exact ⟨rfl, Below.setRow' HB.out (by omega) _⟩
end Go.Proofs.YteccbedmpjeamaaGreatDoor
namespace Go.Proofs.YteccbedmpjeamaaGreatDoor
open Go.RowKit NM QM
theorem row3 {u : World} {g : Nat} {t : TypeId} {x y z : Value} (h : u.heap[g]? = some (.cells #[x, y, z] t (0, 0))) (a b c : Value) :
    (((u.setCell ⟨g, 0, none⟩ a).setCell ⟨g, 1, none⟩ b).setCell ⟨g, 2, none⟩ c).heap[g]? = some (.cells #[a, b, c] t (0, 0)) := by
  have h1 := heap_setCell_same u g 0 _ _ a h
  have h2 := heap_setCell_same _ g 1 _ _ b h1
  have h3 := heap_setCell_same _ g 2 _ _ c h2
  exact h3
theorem below3 {w u : World} {B g : Nat} (h : Below B w u) (hg : B ≤ g) (a b c : Value) : Below B w (((u.setCell ⟨g, 0, none⟩ a).setCell ⟨g, 1, none⟩ b).setCell ⟨g, 2, none⟩ c) :=
  ((h.setCell (p := ⟨g, 0, none⟩) hg a).setCell (p := ⟨g, 1, none⟩) hg b).setCell (p := ⟨g, 2, none⟩) hg c
set_option maxRecDepth 100000 in
set_option maxHeartbeats 8000000 in
theorem plus_q (w : World) (a b : Rat) (N : Nat) (ha : SmQ N a) (hb : SmQ N b) (hN : N ≤ 1000000) (hT : DB w) (hg : 5 < w.heap.size) :
    Calls Tryz.prog 50 #[QV a, QV b] w fun e w' => e = .returned (QV (a + b)) ∧ Below w.heap.size w w' := by
  have h0 := b3_start w a b
  obtain ⟨W, hW⟩ : ∃ W, ((w.alloc (.cells (qcells a) 26)).alloc (.cells (qcells b) 26)).alloc (.cells zrow 26) = W := ⟨_, rfl⟩
  rw [hW] at h0
  have HW := Lib.hid hW; clear hW
  have cp : 0 < a.den.gcd b.den := Nat.gcd_pos_of_pos_right _ b.den_pos
  have l1 : a.den.gcd b.den < 256^N := gcd_lt_r hb.2 b.den_pos
  have hj := sn_jn a b
  obtain ⟨c, hc⟩ : ∃ c, a.den.gcd b.den = c := ⟨_, rfl⟩
  obtain ⟨rA, hrA⟩ : ∃ r, a.den / c = r := ⟨_, rfl⟩
  obtain ⟨rB, hrB⟩ : ∃ r, b.den / c = r := ⟨_, rfl⟩
  rw [hc, hrA, hrB] at hj
  have x1 : a.num.natAbs * rB < 256^(N + N) := mul_lt ha.1 (by rw [← hrB]; exact div_lt hb.2)
  have x2 : b.num.natAbs * rA < 256^(N + N) := mul_lt hb.1 (by rw [← hrA]; exact div_lt ha.2)
  have J := fun W' => join_q W' (decide (a.num < 0)) (a.num.natAbs * rB) (decide (b.num < 0)) (b.num.natAbs * rA) (N + N) x1 x2 (by omega)
  have jl : (jn (decide (a.num < 0)) (a.num.natAbs * rB) (decide (b.num < 0)) (b.num.natAbs * rA)).2 < 256^(N + N + 1) := by
    unfold jn; split
    · exact add_lt x1 x2
    · split
      · exact Nat.lt_of_le_of_lt (Nat.sub_le _ _) (lt_wide x1 (by omega))
      · exact Nat.lt_of_le_of_lt (Nat.sub_le _ _) (lt_wide x2 (by omega))
  generalize jn (decide (a.num < 0)) (a.num.natAbs * rB) (decide (b.num < 0)) (b.num.natAbs * rA) = j at *
  obtain ⟨g, n⟩ := j
  simp only at hj jl J
  have hpos : 0 < n.gcd (a.den.gcd b.den) := Nat.gcd_pos_of_pos_right _ cp
  have hlt : n.gcd (a.den.gcd b.den) < 256^N := gcd_lt_r l1 cp
  have qn := add_abs a b g n hj
  have qd := add_den' a b g n hj
  have qg := add_neg a b g n hj
  rw [hc] at qn qd qg hpos hlt cp l1
  rw [hrA] at qd
  obtain ⟨f, hf⟩ : ∃ f, n.gcd c = f := ⟨_, rfl⟩
  rw [hf] at qn qd qg hpos hlt
  have G1 := fun W' (h : Below w.heap.size w W') => gcd_q W' a.den b.den N ha.2 hb.2 (by omega) (hT.below h hg) (Nat.lt_of_lt_of_le hg h.size)
  rw [hc] at G1
  have O1 := fun W' => over_q W' a.den c N ha.2 l1 (by omega) (by omega)
  rw [hrA] at O1
  have O2 := fun W' => over_q W' b.den c N hb.2 l1 (by omega) (by omega)
  rw [hrB] at O2
  have M1 := fun W' => mul_q W' a.num.natAbs rB N ha.1 (by rw [← hrB]; exact div_lt hb.2) (by omega)
  have M2 := fun W' => mul_q W' b.num.natAbs rA N hb.1 (by rw [← hrA]; exact div_lt ha.2) (by omega)
  have G2 := fun W' (h : Below w.heap.size w W') => gcd_q W' n c (N + N + 1) jl (lt_wide l1 (by omega)) (by omega) (hT.below h hg) (Nat.lt_of_lt_of_le hg h.size)
  rw [hf] at G2
  have O3 := fun W' => over_q W' n f (N + N + 1) jl (lt_wide hlt (by omega)) (by omega) (by omega)
  have O4 := fun W' => over_q W' b.den f N hb.2 hlt (by omega) (by omega)
  have M3 := fun W' => mul_q W' rA (b.den / f) N (by rw [← hrA]; exact div_lt ha.2) (div_lt hb.2) (by omega)
  have NN := fun W' => rnumber_any W' g (n / f) (rA * (b.den / f))
  rw [← QV_RV (a + b) _ _ _ qn qd qg] at NN
  have HC := Lib.hid h0
  unfold QV qcells at NN ⊢
  have HE := Lib.hid (And.intro hc (And.intro hrA (And.intro hrB hf)))
  clear hc hrA hrB hf x1 x2 qn qd qg hj jl cp l1 hpos hlt
  generalize NB (n / f) = D3 at *
  generalize NB (b.den / f) = D4 at *
  generalize NB (rA * (b.den / f)) = P3 at *
  generalize NB (a.num.natAbs * rB) = P1 at *
  generalize NB (b.num.natAbs * rA) = P2 at *
  generalize NB rA = D1 at *
  generalize NB rB = D2 at *
  generalize NB c = GC at *
  generalize NB f = GF at *
  generalize NB n = NU at *
  have HG := Lib.hid (And.intro G1 G2)
  have HO := Lib.hid (And.intro O1 (And.intro O2 (And.intro O3 O4)))
  have HM := Lib.hid (And.intro M1 (And.intro M2 (And.intro M3 (And.intro NN J))))
  clear G1 G2 O1 O2 O3 O4 M1 M2 M3 NN J hT
  go_enter Tryz.func50, Tryz.ntmps50
  go_upto_region 1 with fail
  change Code.wp _ _ _ _ (((w.alloc (.cells (qcells a) 26)).alloc (.cells (qcells b) 26)).alloc (.cells zrow 26))
  rw [HW.out]
  clear HW h0
  have hz := HC.out
  obtain ⟨c0, c1, c2, c3, c4, c5⟩ := hz.q
  go_wp2_with fail
  refine (HG.out.1 _ hz.b).mono ?_
  rintro e u1 ⟨rfl, k1⟩
  have h1 := hz.next k1
  clear k1 c0 c1 c2 c3 c4 c5 hz
  go_wp2_with fail
  go_region_held3 (fun w' => w'.cell? ⟨w.heap.size, 0, none⟩ = some (.bool (decide (a.num < 0))) ∧ w'.cell? ⟨w.heap.size, 1, none⟩ = some (.string (NB a.num.natAbs)) ∧ w'.cell? ⟨w.heap.size, 2, none⟩ = some (.string (NB a.den)) ∧ w'.cell? ⟨w.heap.size + 1, 0, none⟩ = some (.bool (decide (b.num < 0))) ∧ w'.cell? ⟨w.heap.size + 1, 1, none⟩ = some (.string (NB b.num.natAbs)) ∧ w'.cell? ⟨w.heap.size + 1, 2, none⟩ = some (.string (NB b.den)) ∧ B3 w a b w') (first | assumption | exact s7 (by assumption) | exact s7 (B3.drew (by assumption)) | exact s7 (B3.drew (s_out (by assumption))))
    (first
      | (go_at_call_of 66 (Value.string (NB a.den)); go_must (refine (HO.out.1 _).mono ?_); rintro e ua ⟨rfl, ka⟩; have ha := B3.next (s_out (by assumption)) ka; clear ka)
      | (go_at_call_of 66 (Value.string (NB b.den)); go_must (refine (HO.out.2.1 _).mono ?_); rintro e ub ⟨rfl, kb⟩; have hb := B3.next (s_out (by assumption)) kb; clear kb))
  all_goals go_wp2_with fail
  go_region_held3 (fun w' => w'.cell? ⟨w.heap.size, 0, none⟩ = some (.bool (decide (a.num < 0))) ∧ w'.cell? ⟨w.heap.size, 1, none⟩ = some (.string (NB a.num.natAbs)) ∧ w'.cell? ⟨w.heap.size, 2, none⟩ = some (.string (NB a.den)) ∧ w'.cell? ⟨w.heap.size + 1, 0, none⟩ = some (.bool (decide (b.num < 0))) ∧ w'.cell? ⟨w.heap.size + 1, 1, none⟩ = some (.string (NB b.num.natAbs)) ∧ w'.cell? ⟨w.heap.size + 1, 2, none⟩ = some (.string (NB b.den)) ∧ B3 w a b w') (first | assumption | exact s7 (by assumption) | exact s7 (B3.drew (by assumption)) | exact s7 (B3.drew (s_out (by assumption))))
    (first
      | (go_at_call_of 56 (Value.string (NB a.num.natAbs)); go_must (refine (HM.out.1 _).mono ?_); rintro e uc ⟨rfl, kc⟩; have hc := B3.next (s_out (by assumption)) kc; clear kc)
      | (go_at_call_of 56 (Value.string (NB b.num.natAbs)); go_must (refine (HM.out.2.1 _).mono ?_); rintro e ud ⟨rfl, kd⟩; have hd := B3.next (s_out (by assumption)) kd; clear kd)
      | (go_at_call_of 82 (Value.bool (decide (a.num < 0))); go_must (refine (HM.out.2.2.2.2 _).mono ?_); rintro e ue ⟨rfl, ke⟩; have he := B3.next (s_out (by assumption)) ke; clear ke))
  all_goals have h4 := B3.next he (Below.refl _ _)
  all_goals go_wp2_with fail
  all_goals refine (HG.out.2 _ h4.b).mono ?_
  all_goals rintro e u5 ⟨rfl, k5⟩
  all_goals have h5 := h4.next k5
  all_goals clear k5
  all_goals go_wp2_with fail
  have h6 := h5.drew
  obtain ⟨c0, c1, c2, c3, c4, c5⟩ := h6.q
  clear h1 ha hb hc hd he h4
  go_region_with (first
      | (go_at_call_of 66 (Value.string NU); go_must (refine (HO.out.2.2.1 _).mono ?_); rintro e uf ⟨rfl, kf⟩; have hf := B3.next (by assumption) kf; obtain ⟨cf0, cf1, cf2, cf3, cf4, cf5⟩ := hf.q; clear kf)
      | (go_at_call_of 66 (Value.string (NB b.den)); go_must (refine (HO.out.2.2.2 _).mono ?_); rintro e ug ⟨rfl, kg⟩; have hg := B3.next (by assumption) kg; obtain ⟨cg0, cg1, cg2, cg3, cg4, cg5⟩ := hg.q; clear kg)
      | (go_at_call_of 56 (Value.string D1); go_must (refine (HM.out.2.2.1 _).mono ?_); rintro e um ⟨rfl, km⟩; have hm := B3.next (by assumption) km; obtain ⟨cm0, cm1, cm2, cm3, cm4, cm5⟩ := hm.q; clear km)
      | (go_at_call_of 65 (Value.bool g); go_must (refine (HM.out.2.2.2.1 _).mono ?_); rintro e uz ⟨rfl, kz⟩; have hz := B3.next (by assumption) kz; obtain ⟨cz0, cz1, cz2, cz3, cz4, cz5⟩ := hz.q; clear kz; have z0 : uz.cell? ⟨w.heap.size + 1 + 1, 0, none⟩ = some (.bool false) := cell_of_row _ _ 0 _ _ _ hz.z; have z1 : uz.cell? ⟨w.heap.size + 1 + 1, 1, none⟩ = some (.string ⟨#[]⟩) := cell_of_row _ _ 1 _ _ _ hz.z; have z2 : uz.cell? ⟨w.heap.size + 1 + 1, 2, none⟩ = some (.string ⟨#[]⟩) := cell_of_row _ _ 2 _ _ _ hz.z; have f0 : uz.frozen? ⟨w.heap.size + 1 + 1, 0, none⟩ = false := frozen_of_row _ _ 0 _ _ hz.z; have f1 : uz.frozen? ⟨w.heap.size + 1 + 1, 1, none⟩ = false := frozen_of_row _ _ 1 _ _ hz.z; have f2 : uz.frozen? ⟨w.heap.size + 1 + 1, 2, none⟩ = false := frozen_of_row _ _ 2 _ _ hz.z))
  all_goals
    have hrow := row3 hz.z (.bool (decide ((a + b).num < 0))) (.string (NB (a + b).num.natAbs)) (.string (NB (a + b).den))
    have hbel := below3 (g := w.heap.size + 2) hz.b (by omega) (.bool (decide ((a + b).num < 0))) (.string (NB (a + b).num.natAbs)) (.string (NB (a + b).den))
    change Exit.then _ _ Exit.normal _ (((uz.setCell ⟨w.heap.size + 2, 0, none⟩ (.bool (decide ((a + b).num < 0)))).setCell ⟨w.heap.size + 2, 1, none⟩ (.string (NB (a + b).num.natAbs))).setCell ⟨w.heap.size + 2, 2, none⟩ (.string (NB (a + b).den)))
    clear z0 z1 z2 f0 f1 f2
    generalize ((uz.setCell ⟨w.heap.size + 2, 0, none⟩ (.bool (decide ((a + b).num < 0)))).setCell ⟨w.heap.size + 2, 1, none⟩ (.string (NB (a + b).num.natAbs))).setCell ⟨w.heap.size + 2, 2, none⟩ (.string (NB (a + b).den)) = X at *
    have HBX := Lib.hid hbel
    clear hbel
    go_wp2
    refine bodyPost_ret (results_cell_row rfl _ _ (w.heap.size + 2) _ (qcells (a + b)) _ _ rfl hrow Tryz.underlying26 rfl info26.out) rfl ?_
    exact ⟨rfl, HBX.out⟩
end Go.Proofs.YteccbedmpjeamaaGreatDoor
namespace Go.Proofs.YteccbedmpjeamaaGreatDoor
open Go.RowKit NM QM
/-- a number and a second place -/
structure B2 (w : World) (a : Rat) (W : World) : Prop where
  c0 : W.cell? ⟨w.heap.size, 0, none⟩ = some (.bool (decide (a.num < 0)))
  c1 : W.cell? ⟨w.heap.size, 1, none⟩ = some (.string (NB a.num.natAbs))
  c2 : W.cell? ⟨w.heap.size, 2, none⟩ = some (.string (NB a.den))
  h : W.heap[w.heap.size]? = some (.cells (qcells a) 26 (0, 0))
  z : W.heap[w.heap.size + 1]? = some (.cells zrow 26 (0, 0))
  lt : w.heap.size + 1 < W.heap.size
  b : Below w.heap.size w W
theorem b2_start (w : World) (a : Rat) : B2 w a ((w.alloc (.cells (qcells a) 26)).alloc (.cells zrow 26)) := by
  have ha : ((w.alloc (.cells (qcells a) 26)).alloc (.cells zrow 26)).heap[w.heap.size]? = some (.cells (qcells a) 26 (0, 0)) := by
    rw [heap_alloc_old _ _ (by simp)]; exact heap_alloc_new _ _
  have hz : ((w.alloc (.cells (qcells a) 26)).alloc (.cells zrow 26)).heap[w.heap.size + 1]? = some (.cells zrow 26 (0, 0)) := by
    rw [show w.heap.size + 1 = (w.alloc (.cells (qcells a) 26)).heap.size by simp]; exact heap_alloc_new _ _
  exact ⟨cell_of_row _ _ 0 _ _ _ ha, cell_of_row _ _ 1 _ _ _ ha, cell_of_row _ _ 2 _ _ _ ha, ha, hz, by simp, ((Below.refl _ w).alloc (Nat.le_refl _) _).alloc (by simp) _⟩
theorem B2.next {w u v : World} {a : Rat} (h : B2 w a u) (k : Below u.heap.size u v) : B2 w a v :=
  have hl : w.heap.size < u.heap.size := by have := h.lt; omega
  ⟨(k.cell (p := ⟨w.heap.size, 0, none⟩) hl).trans h.c0, (k.cell (p := ⟨w.heap.size, 1, none⟩) hl).trans h.c1, (k.cell (p := ⟨w.heap.size, 2, none⟩) hl).trans h.c2, (k.block _ hl).trans h.h, (k.block _ h.lt).trans h.z, Nat.lt_of_lt_of_le h.lt k.size, h.b.trans (k.mono h.b.size)⟩
theorem neg_rv (a : Rat) : QV (-a) = RV (!decide (a.num < 0)) a.num.natAbs a.den := by
  refine QV_RV (-a) _ _ _ (by rw [Rat.neg_num, Int.natAbs_neg]) (by rw [Rat.neg_den]) ?_
  rw [Rat.neg_num]
  by_cases h : a.num < 0
  · rw [decide_eq_true h]; simp; omega
  · rw [decide_eq_false h]
    by_cases h0 : a.num = 0
    · simp [h0]
    · have : 0 < a.num := by omega
      simp [this, h0]
set_option maxRecDepth 100000 in
set_option maxHeartbeats 2000000 in
theorem minus_q (w : World) (a : Rat) : Calls Tryz.prog 54 #[QV a] w fun e w' => e = .returned (QV (-a)) ∧ Below w.heap.size w w' := by
  have h0 := b2_start w a
  obtain ⟨W, hW⟩ : ∃ W, (w.alloc (.cells (qcells a) 26)).alloc (.cells zrow 26) = W := ⟨_, rfl⟩
  rw [hW] at h0
  have NN := fun W' => rnumber_any W' (!decide (a.num < 0)) a.num.natAbs a.den
  rw [← neg_rv] at NN
  have HW := Lib.hid (And.intro hW NN); clear hW NN
  have HC := Lib.hid h0
  unfold QV qcells
  go_enter Tryz.func54, Tryz.ntmps54
  go_upto_region 1 with fail
  change Code.wp _ _ _ _ ((w.alloc (.cells (qcells a) 26)).alloc (.cells zrow 26))
  rw [HW.out.1]
  obtain ⟨c0, c1, c2, _, _, _, _⟩ := h0
  go_wp2_with fail
  refine (HW.out.2 _).mono ?_
  rintro e uk ⟨rfl, bk⟩
  have hk := HC.out.next bk
  have hz := hk.z
  have HB := Lib.hid hk.b
  clear bk hk HW HC
  go_wp2_with (refine wpList_store_row rfl 26 (.tmp 2) (.tmp 10) rfl (w.heap.size + 1) (qcells (-a)) rfl rfl 26 _ hz info26.out rfl (qone _) ?_)
  refine bodyPost_ret (results_cell_row rfl _ _ (w.heap.size + 1) _ (qcells (-a)) _ _ rfl (setRow_heap _ _ _ _ _ _ hz) Tryz.underlying26 rfl info26.out) rfl ?_
  exact ⟨rfl, Below.setRow' HB.out (by omega) _⟩
end Go.Proofs.YteccbedmpjeamaaGreatDoor
namespace Go.Proofs.YteccbedmpjeamaaGreatDoor
open Go.RowKit NM QM
theorem fields26 : Tryz.prog.underlying 26 = some (.struct (Tryz.prog.fieldsOf 26)) := by kernel_rfl
theorem stood26 : Tryz.prog.stoodInHeld 26 = false := by kernel_rfl
theorem toList_inj {A B : ByteArray} (h : A.toList = B.toList) : A = B := by
  rw [ByteArray.toList_eq, ByteArray.toList_eq] at h
  cases A with | mk a => cases B with | mk b =>
  congr 1
  exact Array.ext' h
theorem rat_eq (a b : Rat) : a = b ↔ decide (a.num < 0) = decide (b.num < 0) ∧ (NB a.num.natAbs).toList = (NB b.num.natAbs).toList ∧ (NB a.den).toList = (NB b.den).toList := by
  constructor
  · rintro rfl; exact ⟨rfl, rfl, rfl⟩
  · rintro ⟨h1, h2, h3⟩
    have e2 := NB_inj (toList_inj h2)
    have e3 := NB_inj (toList_inj h3)
    refine Rat.ext ?_ e3
    rw [← sg_abs a.num, ← sg_abs b.num, h1, e2]
set_option maxRecDepth 100000 in
theorem eq_q (w : World) (a b : Rat) : (binOp .eql 26 (.agg (qcells a)) (.agg (qcells b))).run Tryz.prog w = .ok (.bool (decide (a = b))) w := by
  rw [run_eql_struct, run_equalIn_agg w _ _ _ _ fields26 stood26]
  have HR := Lib.hid (rat_eq a b)
  unfold qcells
  generalize decide (a.num < 0) = g1 at *
  generalize decide (b.num < 0) = g2 at *
  generalize NB a.num.natAbs = x1 at *
  generalize NB b.num.natAbs = x2 at *
  generalize NB a.den = y1 at *
  generalize NB b.den = y2 at *
  by_cases h : a = b
  · obtain ⟨h1, h2, h3⟩ := HR.out.1 h
    rw [decide_eq_true h]
    clear HR h
    go_simp
  · rw [decide_eq_false h]
    have hn := HR.out
    by_cases h1 : g1 = g2
    · by_cases h2 : x1.toList = x2.toList
      · by_cases h3 : y1.toList = y2.toList
        · exact absurd (hn.2 ⟨h1, h2, h3⟩) h
        · clear hn HR h
          go_simp
      · clear hn HR h
        go_simp
    · clear hn HR h
      go_simp
end Go.Proofs.YteccbedmpjeamaaGreatDoor
namespace Go.Proofs.YteccbedmpjeamaaGreatDoor
open Go.RowKit NM QM
theorem results_row_tmp {P : Program} {fn : Func} {p u : Tmp} {ty : TypeId} (h : fn.results = #[.cell p ty, .tmp u]) (tmps : Array Value) (w : World) (g : Nat) (t : TypeId) (cs : Array Value) (fr : Nat × Nat) (d : TypeDesc)
    (hp : tmps.getD p undef = .pointer (some ⟨g, 0, none⟩)) (hg : w.heap[g]? = some (.cells cs t fr))
    (hu : P.underlying ty = some d) (hd : (match d with | .struct _ | .array _ _ => true | _ => false) = true) (hi : (P.info? ty).map (·.size) = some cs.size) :
    (results fn tmps).run P w = .ok (.tuple #[.agg cs, tmps.getD u undef]) w := by
  have hp' : tmps[p]?.getD undef = .pointer (some ⟨g, 0, none⟩) := by simpa using hp
  simp [results, h, hp', asAddr, run_loadVar_row w g t ty cs fr d hg hu hd hi]
/-- a block of the call's own for the result -/
structure Z1 (w : World) (W : World) : Prop where
  z : W.heap[w.heap.size]? = some (.cells zrow 26 (0, 0))
  lt : w.heap.size < W.heap.size
  b : Below w.heap.size w W
theorem z1_start (w : World) : Z1 w (w.alloc (.cells zrow 26)) := ⟨heap_alloc_new _ _, by simp, (Below.refl _ w).alloc (Nat.le_refl _) _⟩
theorem Z1.next {w u v : World} (h : Z1 w u) (k : Below u.heap.size u v) : Z1 w v :=
  ⟨(k.block _ h.lt).trans h.z, Nat.lt_of_lt_of_le h.lt k.size, h.b.trans (k.mono h.b.size)⟩
theorem zone : zrow.all (·.oneCell') = true := by simp [zrow, Value.oneCell']
theorem infoz : Hid ((Tryz.prog.info? 26).map (·.size) = some zrow.size) := Lib.hid (by kernel_rfl)
theorem qinfo (a : Rat) : Hid ((Tryz.prog.info? 26).map (·.size) = some (qcells a).size) := Lib.hid (by show _ = some 3; kernel_rfl)
set_option maxRecDepth 100000 in
set_option maxHeartbeats 2000000 in
theorem make_no (w : World) (g : Bool) (A B : ByteArray) (h : fitq A B = false) :
    Calls Tryz.prog 32 #[.bool g, .string A, .string B] w fun e w' => e = .returned (.tuple #[.agg zrow, .bool false]) ∧ Below w.heap.size w w' := by
  have RA := fun W => Right_any W A
  have RB := fun W => Right_any W B
  have h0 := z1_start w
  obtain ⟨W, hW⟩ : ∃ W, w.alloc (.cells zrow 26) = W := ⟨_, rfl⟩
  rw [hW] at h0
  have HW := Lib.hid hW; clear hW
  have hz := h0.z
  have HB := Lib.hid h0.b
  clear h0
  by_cases hA : rgt A = true
  · rw [hA] at RA
    by_cases hB : rgt B = true
    · rw [hB] at RB
      have hb : B = ⟨#[]⟩ := by
        unfold fitq at h
        rw [hA, hB] at h
        have h2 : sv B = 0 := by simpa using h
        rw [rgt_NB hB, h2, NB_zero]
      subst hb
      have HR := Lib.hid (And.intro RA RB)
      clear RA RB hA hB h
      go_enter Tryz.func32, Tryz.ntmps32
      go_upto_region 1 with fail
      change Code.wp _ _ _ _ (w.alloc (.cells zrow 26))
      rw [HW.out]
      go_wp2_with fail
      refine (HR.out.1 _).mono ?_
      rintro e w' ⟨rfl, rfl⟩
      go_wp2_with fail
      refine (HR.out.2 _).mono ?_
      rintro e w' ⟨rfl, rfl⟩
      go_wp2_with (refine wpList_store_row rfl 26 (.tmp 6) (.tmp 21) rfl w.heap.size zrow rfl rfl 26 _ hz infoz.out rfl zone ?_)
      refine bodyPost_ret (results_row_tmp rfl _ _ w.heap.size _ zrow _ _ rfl (setRow_heap _ _ _ _ _ _ hz) Tryz.underlying26 rfl infoz.out) rfl ?_
      exact ⟨rfl, Below.setRow' HB.out (Nat.le_refl _) _⟩
    · rw [Bool.not_eq_true] at hB
      rw [hB] at RB
      have HR := Lib.hid (And.intro RA RB)
      clear RA RB hA hB h
      go_enter Tryz.func32, Tryz.ntmps32
      go_upto_region 1 with fail
      change Code.wp _ _ _ _ (w.alloc (.cells zrow 26))
      rw [HW.out]
      go_wp2_with fail
      refine (HR.out.1 _).mono ?_
      rintro e w' ⟨rfl, rfl⟩
      go_wp2_with fail
      refine (HR.out.2 _).mono ?_
      rintro e w' ⟨rfl, rfl⟩
      go_wp2_with (refine wpList_store_row rfl 26 (.tmp 6) (.tmp 21) rfl w.heap.size zrow rfl rfl 26 _ hz infoz.out rfl zone ?_)
      refine bodyPost_ret (results_row_tmp rfl _ _ w.heap.size _ zrow _ _ rfl (setRow_heap _ _ _ _ _ _ hz) Tryz.underlying26 rfl infoz.out) rfl ?_
      exact ⟨rfl, Below.setRow' HB.out (Nat.le_refl _) _⟩
  · rw [Bool.not_eq_true] at hA
    rw [hA] at RA
    have HR := Lib.hid RA
    clear RA RB hA h
    go_enter Tryz.func32, Tryz.ntmps32
    go_upto_region 1 with fail
    change Code.wp _ _ _ _ (w.alloc (.cells zrow 26))
    rw [HW.out]
    go_wp2_with fail
    refine (HR.out _).mono ?_
    rintro e w' ⟨rfl, rfl⟩
    go_wp2_with (refine wpList_store_row rfl 26 (.tmp 6) (.tmp 21) rfl w.heap.size zrow rfl rfl 26 _ hz infoz.out rfl zone ?_)
    refine bodyPost_ret (results_row_tmp rfl _ _ w.heap.size _ zrow _ _ rfl (setRow_heap _ _ _ _ _ _ hz) Tryz.underlying26 rfl infoz.out) rfl ?_
    exact ⟨rfl, Below.setRow' HB.out (Nat.le_refl _) _⟩
set_option maxRecDepth 100000 in
set_option maxHeartbeats 2000000 in
theorem make_yes (w : World) (g : Bool) (n d N : Nat) (hn : n < 256^N) (hd : d < 256^N) (h0 : d ≠ 0) (hN : N ≤ 1000000) (hT : DB w) (hg : 5 < w.heap.size) :
    Calls Tryz.prog 32 #[.bool g, .string (NB n), .string (NB d)] w fun e w' => e = .returned (.tuple #[QV (mk g n d), .bool true]) ∧ Below w.heap.size w w' := by
  have RA := fun W => Right_any W (NB n)
  have RB := fun W => Right_any W (NB d)
  rw [NB_rgt] at RA RB
  have cp : 0 < n.gcd d := Nat.gcd_pos_of_pos_right _ (by omega)
  have cl : n.gcd d < 256^N := gcd_lt_r hd (by omega)
  have G1 := fun W' (h : Below w.heap.size w W') => gcd_q W' n d N hn hd (by omega) (hT.below h hg) (Nat.lt_of_lt_of_le hg h.size)
  have O1 := fun W' => over_q W' n (n.gcd d) N hn cl (by omega) (by omega)
  have O2 := fun W' => over_q W' d (n.gcd d) N hd cl (by omega) (by omega)
  have NN := fun W' => rnumber_any W' g (n / n.gcd d) (d / n.gcd d)
  rw [← QV_RV (mk g n d) _ _ _ (mk_num g n d h0) (mk_den g n d h0) (mk_neg g n d h0)] at NN
  have hne : ((NB d).toList == []) = false := str_ne (B := ⟨#[]⟩) rfl (fun h => h0 (NB_inj (h.trans NB_zero.symm)))
  have hs := z1_start w
  obtain ⟨W, hW⟩ : ∃ W, w.alloc (.cells zrow 26) = W := ⟨_, rfl⟩
  rw [hW] at hs
  have HW := Lib.hid hW; clear hW
  generalize NB (n / n.gcd d) = D1 at *
  generalize NB (d / n.gcd d) = D2 at *
  generalize NB (n.gcd d) = GC at *
  generalize NB n = A at *
  generalize NB d = B at *
  have HR := Lib.hid (And.intro RA (And.intro RB (And.intro G1 (And.intro O1 (And.intro O2 NN)))))
  have HS := Lib.hid hs
  clear RA RB G1 O1 O2 NN cp cl hn hd h0 hT hs
  go_enter Tryz.func32, Tryz.ntmps32
  go_upto_region 1 with fail
  change Code.wp _ _ _ _ (w.alloc (.cells zrow 26))
  rw [HW.out]
  go_wp2_with fail
  refine (HR.out.1 _).mono ?_
  rintro e w' ⟨rfl, rfl⟩
  go_wp2_with fail
  refine (HR.out.2.1 _).mono ?_
  rintro e w' ⟨rfl, rfl⟩
  go_wp2_with fail
  refine (HR.out.2.2.1 _ HS.out.b).mono ?_
  rintro e w1 ⟨rfl, b1⟩
  have H1 := Lib.hid (HS.out.next b1); clear b1
  go_wp2_with fail
  refine (HR.out.2.2.2.1 _).mono ?_
  rintro e w2 ⟨rfl, b2⟩
  have H2 := Lib.hid (H1.out.next b2); clear b2
  go_wp2_with fail
  refine (HR.out.2.2.2.2.1 _).mono ?_
  rintro e w3 ⟨rfl, b3⟩
  have H3 := Lib.hid (H2.out.next b3); clear b3
  go_wp2_with fail
  refine (HR.out.2.2.2.2.2 _).mono ?_
  rintro e w4 ⟨rfl, b4⟩
  have H4 := Lib.hid (H3.out.next b4); clear b4
  have hz := H4.out.z
  have e26 := Lib.hid (qinfo (mk g n d)).out
  unfold QV
  go_wp2_with (refine wpList_store_row rfl 26 (.tmp 6) (.tmp 32) rfl w.heap.size (qcells (mk g n d)) rfl rfl 26 _ hz info26.out rfl (qone _) ?_)
  refine bodyPost_ret (results_row_tmp rfl _ _ w.heap.size _ (qcells (mk g n d)) _ _ rfl (setRow_heap _ _ _ _ _ _ hz) Tryz.underlying26 rfl info26.out) rfl ?_
  exact ⟨rfl, Below.setRow' H4.out.b (Nat.le_refl _) _⟩
end Go.Proofs.YteccbedmpjeamaaGreatDoor
namespace Go.Proofs.YteccbedmpjeamaaGreatDoor
open Go.RowKit NM QM
/-- the cells of a number by its parts -/
def rrow (g : Bool) (A B : ByteArray) : Array Value := #[.bool g, .string A, .string B]
theorem RW_rrow (g : Bool) (A B : ByteArray) : RW g A B = .agg (rrow g A B) := rfl
theorem toList_eqB {A B : ByteArray} : A = B ↔ A.toList = B.toList := ⟨fun h => by rw [h], toList_inj⟩
set_option maxRecDepth 100000 in
theorem eq_raw (w : World) (g1 g2 : Bool) (A1 B1 A2 B2 : ByteArray) : (binOp .eql 26 (.agg (rrow g1 A1 B1)) (.agg (rrow g2 A2 B2))).run Tryz.prog w = .ok (.bool (decide (g1 = g2 ∧ A1 = A2 ∧ B1 = B2))) w := by
  rw [run_eql_struct, run_equalIn_agg w _ _ _ _ fields26 stood26]
  unfold rrow
  simp only [toList_eqB]
  by_cases h1 : g1 = g2
  · by_cases h2 : A1.toList = A2.toList
    · by_cases h3 : B1.toList = B2.toList
      · rw [decide_eq_true ⟨h1, h2, h3⟩]
        go_simp
      · rw [decide_eq_false (fun h => h3 h.2.2)]
        go_simp
    · rw [decide_eq_false (fun h => h2 h.2.1)]
      go_simp
  · rw [decide_eq_false (fun h => h1 h.1)]
    go_simp
/-- a number lies in the first block, whatever its parts -/
structure R1 (w : World) (cs : Array Value) (W : World) : Prop where
  r : W.heap[w.heap.size]? = some (.cells cs 26 (0, 0))
  lt : w.heap.size < W.heap.size
  b : Below w.heap.size w W
theorem r1_start (w : World) (cs : Array Value) : R1 w cs (w.alloc (.cells cs 26)) := ⟨heap_alloc_new _ _, by simp, (Below.refl _ w).alloc (Nat.le_refl _) _⟩
theorem R1.next {w u v : World} {cs : Array Value} (h : R1 w cs u) (k : Below u.heap.size u v) : R1 w cs v :=
  ⟨(k.block _ h.lt).trans h.r, Nat.lt_of_lt_of_le h.lt k.size, h.b.trans (k.mono h.b.size)⟩
theorem rinfo (g : Bool) (A B : ByteArray) : Hid ((Tryz.prog.info? 26).map (·.size) = some (rrow g A B).size) := Lib.hid (by show _ = some 3; kernel_rfl)
theorem rone (g : Bool) (A B : ByteArray) : (rrow g A B).all (·.oneCell') = true := by simp [rrow, Value.oneCell']
theorem okq_fit {g : Bool} {A B : ByteArray} (h : fitq A B = true) : okq g A B = decide (decide ((mk g (sv A) (sv B)).num < 0) = g ∧ NB (mk g (sv A) (sv B)).num.natAbs = A ∧ NB (mk g (sv A) (sv B)).den = B) := by
  unfold okq; rw [h, Bool.true_and]
  exact decide_eq_decide.2 ⟨fun ⟨a, b, c⟩ => ⟨a.symm, b.symm, c.symm⟩, fun ⟨a, b, c⟩ => ⟨a.symm, b.symm, c.symm⟩⟩
theorem okq_nofit {g : Bool} {A B : ByteArray} (h : fitq A B = false) : okq g A B = false := by
  unfold okq; rw [h, Bool.false_and]
theorem fit_parts {A B : ByteArray} (h : fitq A B = true) : A = NB (sv A) ∧ B = NB (sv B) ∧ sv B ≠ 0 := by
  unfold fitq at h
  simp only [Bool.and_eq_true, decide_eq_true_eq] at h
  exact ⟨rgt_NB h.1.1, rgt_NB h.1.2, h.2⟩
set_option maxRecDepth 100000 in
set_option maxHeartbeats 2000000 in
theorem right_no (w : World) (g : Bool) (A B : ByteArray) (h : fitq A B = false) :
    Calls Tryz.prog 26 #[RW g A B] w fun e w' => e = .returned (.bool (okq g A B)) ∧ Below w.heap.size w w' := by
  rw [okq_nofit h]
  have MM := fun W => make_no W g A B h
  have hs := r1_start w (rrow g A B)
  obtain ⟨W, hW⟩ : ∃ W, w.alloc (.cells (rrow g A B) 26) = W := ⟨_, rfl⟩
  rw [hW] at hs
  have HW := Lib.hid (And.intro hW MM); clear hW MM
  have HS := Lib.hid hs
  have c0 : W.cell? ⟨w.heap.size, 0, none⟩ = some (.bool g) := cell_of_row _ _ 0 _ _ _ hs.r
  have c1 : W.cell? ⟨w.heap.size, 1, none⟩ = some (.string A) := cell_of_row _ _ 1 _ _ _ hs.r
  have c2 : W.cell? ⟨w.heap.size, 2, none⟩ = some (.string B) := cell_of_row _ _ 2 _ _ _ hs.r
  clear hs h
  unfold RW
  go_enter Tryz.func26, Tryz.ntmps26
  go_upto_region 1 with fail
  change Code.wp _ _ _ _ (w.alloc (.cells (rrow g A B) 26))
  rw [HW.out.1]
  go_wp2_with fail
  refine (HW.out.2 _).mono ?_
  rintro e w1 ⟨rfl, b1⟩
  have H1 := Lib.hid (HS.out.next b1); clear b1
  go_wp2_with (refine wpList_store_row rfl 26 (.tmp 3) (.tmp 13) rfl w1.heap.size zrow rfl rfl 26 _ (heap_alloc_new _ _) infoz.out rfl zone ?_)
  go_ret
  exact ⟨rfl, Below.setRow' (H1.out.b.alloc H1.out.b.size _) H1.out.b.size _⟩
set_option maxRecDepth 100000 in
set_option maxHeartbeats 2000000 in
theorem right_yes (w : World) (g : Bool) (A B : ByteArray) (h : fitq A B = true) (N : Nat) (hA : A.size ≤ N) (hB : B.size ≤ N) (hN : N ≤ 1000000) (hT : DB w) (hg : 5 < w.heap.size) :
    Calls Tryz.prog 26 #[RW g A B] w fun e w' => e = .returned (.bool (okq g A B)) ∧ Below w.heap.size w w' := by
  rw [okq_fit h]
  obtain ⟨p1, p2, p3⟩ := fit_parts h
  have MM := fun W' (k : Below w.heap.size w W') => make_yes W' g (sv A) (sv B) N (sv_lt256 A N hA) (sv_lt256 B N hB) p3 hN (hT.below k hg) (Nat.lt_of_lt_of_le hg k.size)
  rw [← p1, ← p2] at MM
  generalize mk g (sv A) (sv B) = q at *
  have EE := fun W' => eq_raw W' (decide (q.num < 0)) g (NB q.num.natAbs) (NB q.den) A B
  obtain ⟨k, hk⟩ : ∃ k, decide (decide (q.num < 0) = g ∧ NB q.num.natAbs = A ∧ NB q.den = B) = k := ⟨_, rfl⟩
  rw [hk] at EE ⊢
  have HK := Lib.hid hk
  clear hk p1 p2 p3 h hT
  have hs := r1_start w (rrow g A B)
  obtain ⟨W, hW⟩ : ∃ W, w.alloc (.cells (rrow g A B) 26) = W := ⟨_, rfl⟩
  rw [hW] at hs
  have HW := Lib.hid (And.intro hW (And.intro MM EE)); clear hW MM EE
  have HS := Lib.hid hs
  have c0 : W.cell? ⟨w.heap.size, 0, none⟩ = some (.bool g) := cell_of_row _ _ 0 _ _ _ hs.r
  have c1 : W.cell? ⟨w.heap.size, 1, none⟩ = some (.string A) := cell_of_row _ _ 1 _ _ _ hs.r
  have c2 : W.cell? ⟨w.heap.size, 2, none⟩ = some (.string B) := cell_of_row _ _ 2 _ _ _ hs.r
  clear hs
  unfold RW
  go_enter Tryz.func26, Tryz.ntmps26
  go_upto_region 1 with fail
  change Code.wp _ _ _ _ (w.alloc (.cells (rrow g A B) 26))
  rw [HW.out.1]
  go_wp2_with fail
  refine (HW.out.2.1 _ HS.out.b).mono ?_
  rintro e w1 ⟨rfl, b1⟩
  have H1 := Lib.hid (HS.out.next b1); clear b1
  unfold QV
  go_upto_region 2 with (refine wpList_store_row rfl 26 (.tmp 3) (.tmp 13) rfl w1.heap.size (qcells q) rfl rfl 26 zrow (heap_alloc_new _ _) info26.out rfl (qone _) ?_)
  have x1 := heap_alloc_new w1 (.cells (qcells q) 26)
  have x2 := (heap_alloc_old w1 (.cells (qcells q) 26) H1.out.lt).trans H1.out.r
  have x3 := H1.out.b.alloc H1.out.b.size (.cells (qcells q) 26)
  change Code.wp _ _ _ _ ((w1.alloc (.cells zrow 26)).setRow w1.heap.size (qcells q))
  rw [World.setRow_alloc_new w1 zrow (qcells q) 26]
  generalize w1.alloc (.cells (qcells q) 26) = Y at *
  have d0 : Y.cell? ⟨w.heap.size, 0, none⟩ = some (.bool g) := cell_of_row _ _ 0 _ _ _ x2
  have d1 : Y.cell? ⟨w.heap.size, 1, none⟩ = some (.string A) := cell_of_row _ _ 1 _ _ _ x2
  have d2 : Y.cell? ⟨w.heap.size, 2, none⟩ = some (.string B) := cell_of_row _ _ 2 _ _ _ x2
  have e0 : Y.cell? ⟨w1.heap.size, 0, none⟩ = some (.bool (decide (q.num < 0))) := cell_of_row _ _ 0 _ _ _ x1
  have e1 : Y.cell? ⟨w1.heap.size, 1, none⟩ = some (.string (NB q.num.natAbs)) := cell_of_row _ _ 1 _ _ _ x1
  have e2 : Y.cell? ⟨w1.heap.size, 2, none⟩ = some (.string (NB q.den)) := cell_of_row _ _ 2 _ _ _ x1
  have HX := Lib.hid x3
  unfold qcells rrow at *
  generalize decide (q.num < 0) = gq at *
  generalize NB q.num.natAbs = Aq at *
  generalize NB q.den = Bq at *
  clear HW HS H1 x1 x2 x3
  go_wp2
  all_goals go_ret
  all_goals exact ⟨by rw [← HK.out]; simp_all [toList_eqB], HX.out⟩
end Go.Proofs.YteccbedmpjeamaaGreatDoor
namespace Go.Proofs.YteccbedmpjeamaaGreatDoor
open Go.RowKit NM QM
theorem right_any (w : World) (g : Bool) (A B : ByteArray) (N : Nat) (hA : A.size ≤ N) (hB : B.size ≤ N) (hN : N ≤ 1000000) (hT : DB w) (hg : 5 < w.heap.size) :
    Calls Tryz.prog 26 #[RW g A B] w fun e w' => e = .returned (.bool (okq g A B)) ∧ Below w.heap.size w w' := by
  by_cases h : fitq A B = true
  · exact right_yes w g A B h N hA hB hN hT hg
  · exact right_no w g A B (by simpa using h)
/-- the variable zero lies as the text lays it -/
def ZQ (w : World) : Prop := w.cell? ⟨0, 0, none⟩ = some (.bool false) ∧ w.cell? ⟨0, 1, none⟩ = some (.string ⟨#[]⟩) ∧ w.cell? ⟨0, 2, none⟩ = some (.string ⟨#[1]⟩)
theorem ZQ.lt {w : World} (h : ZQ w) : 0 < w.heap.size := World.block_lt_of_cell? _ _ h.1
theorem ZQ.below {B : Nat} {u w : World} (h : ZQ u) (hb : Below B u w) (hB : 0 < B) : ZQ w :=
  ⟨(hb.cell (p := ⟨0, 0, none⟩) hB).trans h.1, (hb.cell (p := ⟨0, 1, none⟩) hB).trans h.2.1, (hb.cell (p := ⟨0, 2, none⟩) hB).trans h.2.2⟩
def zc : Array Value := #[.bool false, .string ⟨#[]⟩, .string ⟨#[1]⟩]
theorem QV_zero : QV 0 = .agg zc := by
  unfold QV qcells zc
  rw [show (0 : Rat).num = 0 from rfl, show (0 : Rat).den = 1 from rfl, NB_one, show (0 : Int).natAbs = 0 from rfl, NB_zero]
  rfl
theorem zcone : zc.all (·.oneCell') = true := by simp [zc, Value.oneCell']
/-- the tables that every call of the package may read -/
structure Tb (w : World) : Prop where
  t : DB w
  g : 5 < w.heap.size
  z : ZQ w
theorem Tb.below {u w : World} (h : Tb u) (hb : Below u.heap.size u w) : Tb w :=
  ⟨h.t.below hb h.g, Nat.lt_of_lt_of_le h.g hb.size, h.z.below hb h.z.lt⟩
theorem Tb.belowB {B : Nat} {u w : World} (h : Tb u) (hb : Below B u w) (hB : u.heap.size ≤ B) : Tb w := h.below (hb.mono hB)
set_option maxRecDepth 100000 in
set_option maxHeartbeats 2000000 in
theorem excl_any (w : World) (s g : Bool) (A B : ByteArray) (N : Nat) (hA : A.size ≤ N) (hB : B.size ≤ N) (hN : N ≤ 1000000) (hT : DB w) (hg : 5 < w.heap.size) :
    Calls Tryz.prog 71 #[.agg #[.bool s], RW g A B] w fun e w' => e = .returned (.bool (!okq g A B || (g && !s))) ∧ Below w.heap.size w w' := by
  have RR := fun W' (k : Below w.heap.size w W') => right_any W' g A B N hA hB hN (hT.below k hg) (Nat.lt_of_lt_of_le hg k.size)
  obtain ⟨W, hW⟩ : ∃ W, (w.alloc (.cells #[.bool s] 72)).alloc (.cells (rrow g A B) 26) = W := ⟨_, rfl⟩
  have hs0 : W.heap[w.heap.size]? = some (.cells #[.bool s] 72 (0, 0)) := by rw [← hW]; exact heap_alloc2_old _ _ _
  have hs1 : W.heap[w.heap.size + 1]? = some (.cells (rrow g A B) 26 (0, 0)) := by rw [← hW]; exact heap_alloc2_new _ _ _
  have hz : W.heap.size = w.heap.size + 2 := by rw [← hW]; simp
  have hb : Below w.heap.size w W := by rw [← hW]; exact ((Below.refl w.heap.size w).alloc (Nat.le_refl _) _).alloc (by simp) _
  have c0 : W.cell? ⟨w.heap.size + 1, 0, none⟩ = some (.bool g) := cell_of_row _ _ 0 _ _ _ hs1
  have c1 : W.cell? ⟨w.heap.size + 1, 1, none⟩ = some (.string A) := cell_of_row _ _ 1 _ _ _ hs1
  have c2 : W.cell? ⟨w.heap.size + 1, 2, none⟩ = some (.string B) := cell_of_row _ _ 2 _ _ _ hs1
  have HW := Lib.hid (And.intro hW (And.intro RR (And.intro hb (And.intro hz (And.intro hs0 hs1)))))
  clear hW RR hb hz hs0 hs1 hT
  obtain ⟨k, hk⟩ : ∃ k, okq g A B = k := ⟨_, rfl⟩
  have RR := fun W' b => HW.out.2.1 W' b
  rw [hk] at RR ⊢
  have HR := Lib.hid RR
  clear RR hk
  unfold RW
  go_enter Tryz.func71, Tryz.ntmps71
  go_upto_region 1 with fail
  change Code.wp _ _ _ _ ((w.alloc (.cells #[.bool s] 72)).alloc (.cells (rrow g A B) 26))
  rw [HW.out.1]
  go_wp2_with fail
  refine (HR.out _ HW.out.2.2.1).mono ?_
  rintro e w1 ⟨rfl, b1⟩
  have HB := Lib.hid (HW.out.2.2.1.trans (b1.mono HW.out.2.2.1.size))
  have d0 : w1.cell? ⟨w.heap.size + 1, 0, none⟩ = some (.bool g) := (b1.cell (p := ⟨w.heap.size + 1, 0, none⟩) (by have := HW.out.2.2.2.1; show w.heap.size + 1 < W.heap.size; omega)).trans c0
  have d1 : w1.cell? ⟨w.heap.size, 0, none⟩ = some (.bool s) := (b1.cell (p := ⟨w.heap.size, 0, none⟩) (by have := HW.out.2.2.2.1; show w.heap.size < W.heap.size; omega)).trans (cell_of_row _ _ 0 _ _ _ HW.out.2.2.2.2.1)
  clear b1
  cases k <;> cases g <;> cases s
  all_goals go_wp2
  all_goals go_ret
  all_goals exact ⟨rfl, HB.out⟩
set_option maxRecDepth 100000 in
set_option maxHeartbeats 2000000 in
theorem valid_any (w : World) (g : Bool) (A B : ByteArray) (N : Nat) (hA : A.size ≤ N) (hB : B.size ≤ N) (hN : N ≤ 1000000) (hT : Tb w) :
    Calls Tryz.prog 47 #[RW g A B] w fun e w' => e = .returned (QV (rvq g A B)) ∧ Below w.heap.size w w' := by
  obtain ⟨W, hW⟩ : ∃ W, (w.alloc (.cells (rrow g A B) 26)).alloc (.cells zrow 26) = W := ⟨_, rfl⟩
  have hs0 : W.heap[w.heap.size]? = some (.cells (rrow g A B) 26 (0, 0)) := by rw [← hW]; exact heap_alloc2_old _ _ _
  have hs1 : W.heap[w.heap.size + 1]? = some (.cells zrow 26 (0, 0)) := by rw [← hW]; exact heap_alloc2_new _ _ _
  have hz : W.heap.size = w.heap.size + 2 := by rw [← hW]; simp
  have hb : Below w.heap.size w W := by rw [← hW]; exact ((Below.refl w.heap.size w).alloc (Nat.le_refl _) _).alloc (by simp) _
  have c0 : W.cell? ⟨w.heap.size, 0, none⟩ = some (.bool g) := cell_of_row _ _ 0 _ _ _ hs0
  have c1 : W.cell? ⟨w.heap.size, 1, none⟩ = some (.string A) := cell_of_row _ _ 1 _ _ _ hs0
  have c2 : W.cell? ⟨w.heap.size, 2, none⟩ = some (.string B) := cell_of_row _ _ 2 _ _ _ hs0
  have EE := excl_any W true g A B N hA hB hN (hT.t.below hb hT.g) (Nat.lt_of_lt_of_le hT.g hb.size)
  have HW := Lib.hid (And.intro hW (And.intro hb (And.intro hz (And.intro hs0 hs1))))
  have HT := Lib.hid hT
  clear hW hb hz hs0 hs1 hT
  by_cases hk : okq g A B = true
  · have hv := Lib.hid (ok_RW hk)
    rw [hk] at EE
    have HE := Lib.hid EE
    clear hk EE
    unfold RW
    go_enter Tryz.func47, Tryz.ntmps47
    go_upto_region 1 with fail
    change Code.wp _ _ _ _ ((w.alloc (.cells (rrow g A B) 26)).alloc (.cells zrow 26))
    rw [HW.out.1]
    go_wp2_with fail
    refine HE.out.mono ?_
    rintro e w1 ⟨rfl, b1⟩
    have hr0 := (b1.block w.heap.size (by have := HW.out.2.2.1; omega)).trans HW.out.2.2.2.1
    have hr1 := (b1.block (w.heap.size + 1) (by have := HW.out.2.2.1; omega)).trans HW.out.2.2.2.2
    have d0 : w1.cell? ⟨w.heap.size, 0, none⟩ = some (.bool g) := cell_of_row _ _ 0 _ _ _ hr0
    have d1 : w1.cell? ⟨w.heap.size, 1, none⟩ = some (.string A) := cell_of_row _ _ 1 _ _ _ hr0
    have d2 : w1.cell? ⟨w.heap.size, 2, none⟩ = some (.string B) := cell_of_row _ _ 2 _ _ _ hr0
    have HB := Lib.hid (HW.out.2.1.trans (b1.mono HW.out.2.1.size))
    have HZ := Lib.hid hr1
    clear b1 hr0 hr1
    go_wp2_with (refine wpList_store_row rfl 26 (.tmp 2) (.tmp 7) rfl (w.heap.size + 1) (rrow g A B) rfl rfl 26 zrow HZ.out info26.out rfl (rone g A B) ?_)
    refine bodyPost_ret (results_cell_row rfl _ _ (w.heap.size + 1) _ (rrow g A B) _ _ rfl (setRow_heap _ _ _ _ _ _ HZ.out) Tryz.underlying26 rfl info26.out) rfl ?_
    exact ⟨by rw [← hv.out]; rfl, Below.setRow' HB.out (by omega) _⟩
  · have hv := Lib.hid (show rvq g A B = 0 by unfold rvq; rw [if_neg hk])
    rw [show okq g A B = false by simpa using hk] at EE
    have HE := Lib.hid EE
    clear hk EE
    unfold RW
    go_enter Tryz.func47, Tryz.ntmps47
    go_upto_region 1 with fail
    change Code.wp _ _ _ _ ((w.alloc (.cells (rrow g A B) 26)).alloc (.cells zrow 26))
    rw [HW.out.1]
    go_wp2_with fail
    refine HE.out.mono ?_
    rintro e w1 ⟨rfl, b1⟩
    have hr1 := (b1.block (w.heap.size + 1) (by have := HW.out.2.2.1; omega)).trans HW.out.2.2.2.2
    have zz := (HT.out.z.below HW.out.2.1 HT.out.z.lt).below b1 (Nat.lt_of_lt_of_le HT.out.z.lt HW.out.2.1.size)
    obtain ⟨z0, z1, z2⟩ := zz
    have HB := Lib.hid (HW.out.2.1.trans (b1.mono HW.out.2.1.size))
    have HZ := Lib.hid hr1
    clear b1 hr1
    go_wp2_with (refine wpList_store_row rfl 26 (.tmp 2) (.tmp 6) rfl (w.heap.size + 1) zc rfl rfl 26 zrow HZ.out info26.out rfl zcone ?_)
    refine bodyPost_ret (results_cell_row rfl _ _ (w.heap.size + 1) _ zc _ _ rfl (setRow_heap _ _ _ _ _ _ HZ.out) Tryz.underlying26 rfl info26.out) rfl ?_
    exact ⟨by rw [hv.out, QV_zero], Below.setRow' HB.out (by omega) _⟩
end Go.Proofs.YteccbedmpjeamaaGreatDoor
namespace Go.Proofs.YteccbedmpjeamaaGreatDoor
open Go.RowKit NM QM
theorem exec_load_row {P : Program} {ρ : Operand → Value} {o : Oper} (w : World) (ty : TypeId) (x : Operand) (ho : o.op = .load ty x)
    (g : Nat) (hx : ρ x = .pointer (some ⟨g, 0, none⟩)) (t : TypeId) (cs : Array Value) (fr : Nat × Nat) (d : TypeDesc) (hg : w.heap[g]? = some (.cells cs t fr))
    (hu : P.underlying ty = some d) (hd : (match d with | .struct _ | .array _ _ => true | _ => false) = true) (hi : (P.info? ty).map (·.size) = some cs.size) :
    (execOp ρ o).run P w = .ok (.value (.agg cs)) w := by
  unfold execOp
  simp only [ho, hx, Instr.loadAt, Instr.sureAddr, Sem.run_bind, Sem.run_pure, Result.andThen_ok, run_loadVar_row w g t ty cs fr d hg hu hd hi]
/-- two numbers in the call's first blocks, and one block more; the tables -/
structure D2 (w : World) (ca cb : Array Value) (W : World) : Prop where
  a : W.heap[w.heap.size]? = some (.cells ca 26 (0, 0))
  c : W.heap[w.heap.size + 1]? = some (.cells cb 26 (0, 0))
  lt : w.heap.size + 2 < W.heap.size
  b : Below w.heap.size w W
  t : Tb W
theorem D2.next {w u v : World} {ca cb : Array Value} (h : D2 w ca cb u) (k : Below u.heap.size u v) : D2 w ca cb v :=
  ⟨(k.block _ (by have := h.lt; omega)).trans h.a, (k.block _ (by have := h.lt; omega)).trans h.c, Nat.lt_of_lt_of_le h.lt k.size, h.b.trans (k.mono h.b.size), h.t.below k⟩
theorem Tb.drew {w : World} (h : Tb w) : Tb w.drew := ⟨fun j hj => h.t j hj, h.g, ⟨h.z.1, h.z.2.1, h.z.2.2⟩⟩
theorem Tb.setRow {w : World} (h : Tb w) (g : Nat) (cs : Array Value) (B : Nat) (hB : w.heap.size = w.heap.size) (hk : Below B w (w.setRow g cs)) (hd : 5 < B) (hz : 0 < B) : Tb (w.setRow g cs) :=
  ⟨h.t.below hk hd, Nat.lt_of_lt_of_le h.g hk.size, h.z.below hk hz⟩
theorem D2.drew {w u : World} {ca cb : Array Value} (h : D2 w ca cb u) : D2 w ca cb u.drew := ⟨h.a, h.c, h.lt, h.b.drew, h.t.drew⟩
/-- a store into the third block -/
theorem D2.store {w u : World} {ca cb : Array Value} (h : D2 w ca cb u) (hw : Tb w) (cs : Array Value) : D2 w ca cb (u.setRow (w.heap.size + 2) cs) :=
  ⟨(setRow_other _ _ _ _ (by omega)).trans h.a, (setRow_other _ _ _ _ (by omega)).trans h.c, by have := h.lt; rw [show (u.setRow (w.heap.size + 2) cs).heap.size = u.heap.size by simp]; exact this, Below.setRow' h.b (by omega) _,
    hw.below (Below.setRow' h.b (by omega) _)⟩
theorem d2_start (w : World) (ca cb : Array Value) (hw : Tb w) : D2 w ca cb (((w.alloc (.cells ca 26)).alloc (.cells cb 26)).alloc (.cells zrow 26)) := by
  have s1 : (w.alloc (.cells ca 26)).heap.size = w.heap.size + 1 := by simp
  have hb : Below w.heap.size w (((w.alloc (.cells ca 26)).alloc (.cells cb 26)).alloc (.cells zrow 26)) := (((Below.refl _ w).alloc (Nat.le_refl _) _).alloc (by simp) _).alloc (by simp; omega) _
  refine ⟨?_, ?_, by simp, hb, hw.below hb⟩
  · rw [heap_alloc_old _ _ (by simp; omega)]; exact heap_alloc2_old _ _ _
  · rw [heap_alloc_old _ _ (by simp)]; exact heap_alloc2_new _ _ _
theorem d2_z (w : World) (ca cb : Array Value) : (((w.alloc (.cells ca 26)).alloc (.cells cb 26)).alloc (.cells zrow 26)).heap[w.heap.size + 2]? = some (.cells zrow 26 (0, 0)) := by
  have h := heap_alloc_new ((w.alloc (.cells ca 26)).alloc (.cells cb 26)) (.cells zrow 26)
  rwa [show ((w.alloc (.cells ca 26)).alloc (.cells cb 26)).heap.size = w.heap.size + 2 by simp] at h
end Go.Proofs.YteccbedmpjeamaaGreatDoor
