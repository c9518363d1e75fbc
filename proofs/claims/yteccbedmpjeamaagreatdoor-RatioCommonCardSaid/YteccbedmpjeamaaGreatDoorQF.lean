/-
  The walk of ratio.Parse, for any string.
  The walk of ratio.Text.
  The walk of the reference's Same.
  The calls of the package at right numbers; what a law's walk keeps.
-/
import Derived.Test.YteccbedmpjeamaaGreatDoorQE
import Derived.Test.YteccbedmpjeamaaGreatDoorTexts
import Derived.RegionTactic
import Derived.Test.YteccbedmpjeamaaGreatDoorQC
namespace Go.Proofs.YteccbedmpjeamaaGreatDoor
open Go.RowKit NM QM
/-- the tables that the calls with texts may read, too -/
structure Tp (w : World) : Prop where
  b : Tb w
  p : P10 w
  pg : 4 < w.heap.size
  m : ∃ m, w.cell? ⟨3, 0, none⟩ = some (.int .i64 m)
theorem Tp.below {u w : World} (h : Tp u) (hb : Below u.heap.size u w) : Tp w :=
  ⟨h.b.below hb, h.p.below hb h.pg, Nat.lt_of_lt_of_le h.pg hb.size, by
    obtain ⟨m, hm⟩ := h.m
    exact ⟨m, (hb.cell (p := ⟨3, 0, none⟩) (World.block_lt_of_cell? _ _ hm)).trans hm⟩⟩
theorem Tp.belowB {B : Nat} {u w : World} (h : Tp u) (hb : Below B u w) (hB : u.heap.size ≤ B) : Tp w := h.below (hb.mono hB)
theorem below_drewN (w : World) (n : Nat) : Below w.heap.size w (w.drewN n) := ⟨rfl, rfl, rfl, Nat.le_refl _, fun _ _ => rfl⟩
/-- what Parse reads, by the pieces of the text -/
def parp (neg fnd : Bool) (C1 C2 : List UInt8) : Option Rat :=
  if decOK C1 then
    if fnd = true then
      if decOK C2 ∧ dval C2 ≠ 1 ∧ okq neg (NB (dval C1)) (NB (dval C2)) = true then some (mk neg (dval C1) (dval C2)) else none
    else if okq neg (NB (dval C1)) ⟨#[1]⟩ = true then some (mk neg (dval C1) 1) else none
  else none
def prest (s : ByteArray) : List UInt8 := Lib.trimPrefix s.data.toList [45]
def parq (s : ByteArray) : Option Rat := parp (Lib.hasPrefix s.data.toList [45]) (Lib.cut (prest s) [47]).2.2 (Lib.cut (prest s) [47]).1 (Lib.cut (prest s) [47]).2.1
def ParqV : Option Rat → Value
  | some a => .tuple #[QV a, .bool true]
  | none => .tuple #[.agg zrow, .bool false]
theorem pv_ok (l : List UInt8) (h : decOK l) (w : World) (hs : l.length ≤ 1000) :
    Calls Tryz.prog 77 #[.string ⟨l.toArray⟩] w fun e w' => e = .returned (.tuple #[.string (NB (dval l)), .bool true]) ∧ Below w.heap.size w w' := by
  have hp := Parse_any w ⟨l.toArray⟩ (by show l.toArray.size ≤ _; simp; omega)
  unfold ParseV at hp
  rwa [if_pos h] at hp
theorem pv_no (l : List UInt8) (h : ¬ decOK l) (w : World) (hs : l.length ≤ 1000) :
    Calls Tryz.prog 77 #[.string ⟨l.toArray⟩] w fun e w' => e = .returned (.tuple #[.string ⟨#[]⟩, .bool false]) ∧ Below w.heap.size w w' := by
  have hp := Parse_any w ⟨l.toArray⟩ (by show l.toArray.size ≤ _; simp; omega)
  unfold ParseV at hp
  rwa [if_neg h] at hp
/-- the result's block and the number's -/
structure PZ (w : World) (pb : Nat) (cs : Array Value) (W : World) : Prop where
  z : W.heap[w.heap.size]? = some (.cells zrow 26 (0, 0))
  r : W.heap[pb]? = some (.cells cs 26 (0, 0))
  wpb : w.heap.size < pb
  lt : pb < W.heap.size
  b : Below w.heap.size w W
theorem PZ.next {w u v : World} {pb : Nat} {cs : Array Value} (h : PZ w pb cs u) (k : Below u.heap.size u v) : PZ w pb cs v :=
  ⟨(k.block _ (by have := h.wpb; have := h.lt; omega)).trans h.z, (k.block _ h.lt).trans h.r, h.wpb, Nat.lt_of_lt_of_le h.lt k.size, h.b.trans (k.mono h.b.size)⟩
theorem PZ.set {w u : World} {pb : Nat} {g : Bool} {A B : ByteArray} (h : PZ w pb (rrow g A B) u) (D : ByteArray) : PZ w pb (rrow g A D) (u.setCell ⟨pb, 2, none⟩ (.string D)) := by
  refine ⟨?_, heap_setCell_same u pb 2 _ _ (.string D) h.r, h.wpb, by rw [Deep.nblk_setCell]; exact h.lt, h.b.setCell (p := ⟨pb, 2, none⟩) (by have := h.wpb; show w.heap.size ≤ pb; omega) _⟩
  rw [Deep.blk_setCell_other _ _ _ _ (by have := h.wpb; show w.heap.size ≠ pb; omega)]; exact h.z
set_option maxRecDepth 100000 in
set_option maxHeartbeats 8000000 in
theorem parse_core (w : World) (s R : ByteArray) (neg fnd : Bool) (C1 C2 : List UInt8) (l1 : C1.length ≤ 1000) (l2 : C2.length ≤ 1000) (hT : Tp w)
    (K1 : ∀ W, Calls Tryz.prog 75 #[.string s, .string ⟨#[45]⟩] W fun e w' => e = .returned (.tuple #[.string R, .bool neg]) ∧ w' = W)
    (K2 : ∀ W, Below w.heap.size w W → Calls Tryz.prog 76 #[.string R, .string ⟨#[47]⟩] W fun e w' => e = .returned (.tuple #[.string ⟨C1.toArray⟩, .string ⟨C2.toArray⟩, .bool fnd]) ∧ Below W.heap.size W w') :
    Calls Tryz.prog 42 #[.string s] w fun e w' => e = .returned (ParqV (parp neg fnd C1 C2)) ∧ Below w.heap.size w w' := by
  have h0 := z1_start w
  obtain ⟨W, hW⟩ : ∃ W, w.alloc (.cells zrow 26) = W := ⟨_, rfl⟩
  rw [hW] at h0
  have HW := Lib.hid (And.intro hW h0)
  have HT := Lib.hid hT
  have HK := Lib.hid (And.intro K1 K2)
  clear hW h0 hT K1 K2
  by_cases o1 : decOK C1
  · have P1 := fun W => pv_ok C1 o1 W l1
    have n1 := dval_size C1 o1.2.1
    obtain ⟨NU, hNU⟩ : ∃ NU, NB (dval C1) = NU := ⟨_, rfl⟩
    rw [hNU] at P1 n1
    have HP := Lib.hid P1
    clear P1
    cases fnd with
    | false =>
      obtain ⟨k, hk⟩ : ∃ k, okq neg NU ⟨#[1]⟩ = k := ⟨_, rfl⟩
      have RR := fun W (h : Below w.heap.size w W) => right_any W neg NU ⟨#[1]⟩ 1000 (by omega) (by decide) (by decide) (HT.out.b.belowB h (Nat.le_refl _)).t (HT.out.b.belowB h (Nat.le_refl _)).g
      rw [hk] at RR
      have HR := Lib.hid RR
      have hfin : parp neg false C1 C2 = if k = true then some (mk neg (dval C1) 1) else none := by unfold parp; rw [if_pos o1, if_neg (by simp), hNU, hk]
      have f0 : k = false → ParqV (parp neg false C1 C2) = .tuple #[.agg zrow, .bool false] := fun hk2 => by rw [hfin, hk2]; rfl
      have f1 : k = true → ParqV (parp neg false C1 C2) = .tuple #[.agg (rrow neg NU ⟨#[1]⟩), .bool true] := fun hk2 => by
        rw [hk2] at hk
        rw [hfin, if_pos hk2, ← RW_rrow, ok_RW hk]
        unfold rvq; rw [if_pos hk, ← hNU, sv_NB]; rfl
      have HF := Lib.hid (And.intro f0 f1)
      clear hfin f0 f1 hk RR n1 hNU o1
      generalize (⟨C1.toArray⟩ : ByteArray) = B1 at *
      generalize (⟨C2.toArray⟩ : ByteArray) = B2 at *
      go_enter Tryz.func42, Tryz.ntmps42
      go_upto_region 1 with fail
      change Code.wp _ _ _ _ (w.alloc (.cells zrow 26))
      rw [HW.out.1]
      go_wp2_with fail
      refine (HK.out.1 _).mono ?_
      rintro e w' ⟨rfl, rfl⟩
      go_wp2_with fail
      refine (HK.out.2 _ HW.out.2.b).mono ?_
      rintro e w2 ⟨rfl, b2⟩
      have H2 := Lib.hid (HW.out.2.next b2); clear b2
      go_wp2_with fail
      refine (HP.out _).mono ?_
      rintro e w3 ⟨rfl, b3⟩
      have H3 := Lib.hid (H2.out.next b3); clear b3
      go_upto_region 7 with fail
      have h4 : PZ w w3.heap.size (rrow neg NU ⟨#[1]⟩) (w3.alloc (.cells (rrow neg NU ⟨#[1]⟩) 26)) :=
        ⟨(heap_alloc_old _ _ H3.out.lt).trans H3.out.z, heap_alloc_new _ _, H3.out.lt, by simp, H3.out.b.alloc H3.out.b.size _⟩
      change Code.wp _ _ _ _ (w3.alloc (.cells (rrow neg NU ⟨#[1]⟩) 26))
      generalize w3.alloc (.cells (rrow neg NU ⟨#[1]⟩) 26) = Y at *
      obtain ⟨pb, hpb⟩ : ∃ pb, w3.heap.size = pb := ⟨_, rfl⟩
      rw [hpb] at h4 ⊢
      clear hpb H3 H2 HW HK HP
      have c0 : Y.cell? ⟨pb, 0, none⟩ = some (.bool neg) := cell_of_row _ _ 0 _ _ _ h4.r
      have c1 : Y.cell? ⟨pb, 1, none⟩ = some (.string NU) := cell_of_row _ _ 1 _ _ _ h4.r
      have c2 : Y.cell? ⟨pb, 2, none⟩ = some (.string ⟨#[1]⟩) := cell_of_row _ _ 2 _ _ _ h4.r
      have H4 := Lib.hid h4
      clear h4
      go_wp2_with fail
      refine (HR.out _ H4.out.b).mono ?_
      rintro e w5 ⟨rfl, b5⟩
      have H5 := Lib.hid (H4.out.next b5); clear b5 c0 c1 c2
      cases k with
      | false =>
        have HX := Lib.hid (HF.out.1 rfl)
        clear HF
        go_wp2_with (refine wpList_store_row rfl 26 (.tmp 2) (.tmp 53) rfl w.heap.size zrow rfl rfl 26 zrow H5.out.z info26.out rfl zone ?_)
        refine bodyPost_ret (results_row_tmp rfl _ _ w.heap.size _ zrow _ _ rfl (setRow_heap _ _ _ _ _ _ H5.out.z) Tryz.underlying26 rfl infoz.out) rfl ?_
        exact ⟨by rw [HX.out]; rfl, Below.setRow' H5.out.b (Nat.le_refl _) _⟩
      | true =>
        have HX := Lib.hid (HF.out.2 rfl)
        clear HF
        have c0 : w5.cell? ⟨pb, 0, none⟩ = some (.bool neg) := cell_of_row _ _ 0 _ _ _ H5.out.r
        have c1 : w5.cell? ⟨pb, 1, none⟩ = some (.string NU) := cell_of_row _ _ 1 _ _ _ H5.out.r
        have c2 : w5.cell? ⟨pb, 2, none⟩ = some (.string ⟨#[1]⟩) := cell_of_row _ _ 2 _ _ _ H5.out.r
        go_wp2_with (refine wpList_store_row rfl 26 (.tmp 2) (.tmp 54) rfl w.heap.size (rrow neg NU ⟨#[1]⟩) rfl rfl 26 zrow H5.out.z info26.out rfl (rone _ _ _) ?_)
        refine bodyPost_ret (results_row_tmp rfl _ _ w.heap.size _ (rrow neg NU ⟨#[1]⟩) _ _ rfl (setRow_heap _ _ _ _ _ _ H5.out.z) Tryz.underlying26 rfl info26.out) rfl ?_
        exact ⟨by rw [HX.out]; rfl, Below.setRow' H5.out.b (Nat.le_refl _) _⟩
    | true =>
      by_cases o2 : decOK C2
      · have P2 := fun W => pv_ok C2 o2 W l2
        have n2 := dval_size C2 o2.2.1
        by_cases d1 : dval C2 = 1
        · rw [d1, NB_one] at P2
          have HP2 := Lib.hid P2
          have HX := Lib.hid (show ParqV (parp neg true C1 C2) = .tuple #[.agg zrow, .bool false] by unfold parp; rw [if_pos o1, if_pos rfl, if_neg (fun h => h.2.1 d1)]; rfl)
          clear P2 n1 n2 hNU o1 o2 d1
          generalize (⟨C1.toArray⟩ : ByteArray) = B1 at *
          generalize (⟨C2.toArray⟩ : ByteArray) = B2 at *
          go_enter Tryz.func42, Tryz.ntmps42
          go_upto_region 1 with fail
          change Code.wp _ _ _ _ (w.alloc (.cells zrow 26))
          rw [HW.out.1]
          go_wp2_with fail
          refine (HK.out.1 _).mono ?_
          rintro e w' ⟨rfl, rfl⟩
          go_wp2_with fail
          refine (HK.out.2 _ HW.out.2.b).mono ?_
          rintro e w2 ⟨rfl, b2⟩
          have H2 := Lib.hid (HW.out.2.next b2); clear b2
          go_wp2_with fail
          refine (HP.out _).mono ?_
          rintro e w3 ⟨rfl, b3⟩
          have H3 := Lib.hid (H2.out.next b3); clear b3
          go_upto_region 7 with fail
          have h4 : PZ w w3.heap.size (rrow neg NU ⟨#[1]⟩) (w3.alloc (.cells (rrow neg NU ⟨#[1]⟩) 26)) :=
            ⟨(heap_alloc_old _ _ H3.out.lt).trans H3.out.z, heap_alloc_new _ _, H3.out.lt, by simp, H3.out.b.alloc H3.out.b.size _⟩
          change Code.wp _ _ _ _ (w3.alloc (.cells (rrow neg NU ⟨#[1]⟩) 26))
          generalize w3.alloc (.cells (rrow neg NU ⟨#[1]⟩) 26) = Y at *
          obtain ⟨pb, hpb⟩ : ∃ pb, w3.heap.size = pb := ⟨_, rfl⟩
          rw [hpb] at h4 ⊢
          clear hpb H3 H2 HW HK HP
          have H4 := Lib.hid h4
          clear h4
          go_wp2_with fail
          refine (HP2.out _).mono ?_
          rintro e w4 ⟨rfl, b4⟩
          have H4b := Lib.hid (H4.out.next b4); clear b4
          have c2 : w4.cell? ⟨pb, 2, none⟩ = some (.string ⟨#[1]⟩) := cell_of_row _ _ 2 _ _ _ H4b.out.r
          have fz : w4.frozen? ⟨pb, 2, none⟩ = false := frozen_of_row _ _ 2 _ _ H4b.out.r
          go_upto_region 9 with fail
          have H6 := Lib.hid (H4b.out.set ⟨#[1]⟩)
          change Code.wp _ _ _ _ (w4.setCell ⟨pb, 2, none⟩ (.string ⟨#[1]⟩))
          generalize w4.setCell ⟨pb, 2, none⟩ (.string ⟨#[1]⟩) = X at *
          clear c2 fz H4 H4b HP2
          have c3 : X.cell? ⟨pb, 2, none⟩ = some (.string ⟨#[1]⟩) := cell_of_row _ _ 2 _ _ _ H6.out.r
          go_wp2_with (refine wpList_store_row rfl 26 (.tmp 2) (.tmp 53) rfl w.heap.size zrow rfl rfl 26 zrow H6.out.z info26.out rfl zone ?_)
          refine bodyPost_ret (results_row_tmp rfl _ _ w.heap.size _ zrow _ _ rfl (setRow_heap _ _ _ _ _ _ H6.out.z) Tryz.underlying26 rfl infoz.out) rfl ?_
          exact ⟨by rw [HX.out]; rfl, Below.setRow' H6.out.b (Nat.le_refl _) _⟩

        · obtain ⟨DE, hDE⟩ : ∃ DE, NB (dval C2) = DE := ⟨_, rfl⟩
          rw [hDE] at P2 n2
          have HP2 := Lib.hid P2
          have hne : (DE.toList == [1]) = false := by
            rw [← hDE]; exact str_ne (B := ⟨#[1]⟩) rfl (fun h => d1 (NB_inj (h.trans NB_one.symm)))
          obtain ⟨k, hk⟩ : ∃ k, okq neg NU DE = k := ⟨_, rfl⟩
          have RR := fun W (h : Below w.heap.size w W) => right_any W neg NU DE 1000 (by omega) (by omega) (by decide) (HT.out.b.belowB h (Nat.le_refl _)).t (HT.out.b.belowB h (Nat.le_refl _)).g
          rw [hk] at RR
          have HR := Lib.hid RR
          have f0 : k = false → ParqV (parp neg true C1 C2) = .tuple #[.agg zrow, .bool false] := fun hk2 => by
            unfold parp; rw [if_pos o1, if_pos rfl, if_neg (fun h => by rw [hNU, hDE, hk, hk2] at h; exact absurd h.2.2 (by decide))]; rfl
          have f1 : k = true → ParqV (parp neg true C1 C2) = .tuple #[.agg (rrow neg NU DE), .bool true] := fun hk2 => by
            rw [hk2] at hk
            unfold parp; rw [if_pos o1, if_pos rfl, if_pos ⟨o2, d1, by rw [hNU, hDE, hk]⟩, ← RW_rrow, ok_RW hk]
            unfold rvq; rw [if_pos hk, ← hNU, ← hDE, sv_NB, sv_NB]; rfl
          have HF := Lib.hid (And.intro f0 f1)
          clear P2 n1 n2 hNU o1 o2 d1 hDE f0 f1 hk RR
          generalize (⟨C1.toArray⟩ : ByteArray) = B1 at *
          generalize (⟨C2.toArray⟩ : ByteArray) = B2 at *
          go_enter Tryz.func42, Tryz.ntmps42
          go_upto_region 1 with fail
          change Code.wp _ _ _ _ (w.alloc (.cells zrow 26))
          rw [HW.out.1]
          go_wp2_with fail
          refine (HK.out.1 _).mono ?_
          rintro e w' ⟨rfl, rfl⟩
          go_wp2_with fail
          refine (HK.out.2 _ HW.out.2.b).mono ?_
          rintro e w2 ⟨rfl, b2⟩
          have H2 := Lib.hid (HW.out.2.next b2); clear b2
          go_wp2_with fail
          refine (HP.out _).mono ?_
          rintro e w3 ⟨rfl, b3⟩
          have H3 := Lib.hid (H2.out.next b3); clear b3
          go_upto_region 7 with fail
          have h4 : PZ w w3.heap.size (rrow neg NU ⟨#[1]⟩) (w3.alloc (.cells (rrow neg NU ⟨#[1]⟩) 26)) :=
            ⟨(heap_alloc_old _ _ H3.out.lt).trans H3.out.z, heap_alloc_new _ _, H3.out.lt, by simp, H3.out.b.alloc H3.out.b.size _⟩
          change Code.wp _ _ _ _ (w3.alloc (.cells (rrow neg NU ⟨#[1]⟩) 26))
          generalize w3.alloc (.cells (rrow neg NU ⟨#[1]⟩) 26) = Y at *
          obtain ⟨pb, hpb⟩ : ∃ pb, w3.heap.size = pb := ⟨_, rfl⟩
          rw [hpb] at h4 ⊢
          clear hpb H3 H2 HW HK HP
          have H4 := Lib.hid h4
          clear h4
          go_wp2_with fail
          refine (HP2.out _).mono ?_
          rintro e w4 ⟨rfl, b4⟩
          have H4b := Lib.hid (H4.out.next b4); clear b4
          have c2 : w4.cell? ⟨pb, 2, none⟩ = some (.string ⟨#[1]⟩) := cell_of_row _ _ 2 _ _ _ H4b.out.r
          have fz : w4.frozen? ⟨pb, 2, none⟩ = false := frozen_of_row _ _ 2 _ _ H4b.out.r
          go_upto_region 9 with fail
          have H6 := Lib.hid (H4b.out.set DE)
          change Code.wp _ _ _ _ (w4.setCell ⟨pb, 2, none⟩ (.string DE))
          generalize w4.setCell ⟨pb, 2, none⟩ (.string DE) = X at *
          clear c2 fz H4 H4b HP2
          have c0 : X.cell? ⟨pb, 0, none⟩ = some (.bool neg) := cell_of_row _ _ 0 _ _ _ H6.out.r
          have c1 : X.cell? ⟨pb, 1, none⟩ = some (.string NU) := cell_of_row _ _ 1 _ _ _ H6.out.r
          have c2 : X.cell? ⟨pb, 2, none⟩ = some (.string DE) := cell_of_row _ _ 2 _ _ _ H6.out.r
          go_wp2_with fail
          refine (HR.out _ H6.out.b).mono ?_
          rintro e w5 ⟨rfl, b5⟩
          have H5 := Lib.hid (H6.out.next b5); clear b5 c0 c1 c2
          cases k with
          | false =>
            have HX := Lib.hid (HF.out.1 rfl)
            clear HF
            go_wp2_with (refine wpList_store_row rfl 26 (.tmp 2) (.tmp 53) rfl w.heap.size zrow rfl rfl 26 zrow H5.out.z info26.out rfl zone ?_)
            refine bodyPost_ret (results_row_tmp rfl _ _ w.heap.size _ zrow _ _ rfl (setRow_heap _ _ _ _ _ _ H5.out.z) Tryz.underlying26 rfl infoz.out) rfl ?_
            exact ⟨by rw [HX.out]; rfl, Below.setRow' H5.out.b (Nat.le_refl _) _⟩

          | true =>
            have HX := Lib.hid (HF.out.2 rfl)
            clear HF
            have c0 : w5.cell? ⟨pb, 0, none⟩ = some (.bool neg) := cell_of_row _ _ 0 _ _ _ H5.out.r
            have c1 : w5.cell? ⟨pb, 1, none⟩ = some (.string NU) := cell_of_row _ _ 1 _ _ _ H5.out.r
            have c2 : w5.cell? ⟨pb, 2, none⟩ = some (.string DE) := cell_of_row _ _ 2 _ _ _ H5.out.r
            go_wp2_with (refine wpList_store_row rfl 26 (.tmp 2) (.tmp 54) rfl w.heap.size (rrow neg NU DE) rfl rfl 26 zrow H5.out.z info26.out rfl (rone _ _ _) ?_)
            refine bodyPost_ret (results_row_tmp rfl _ _ w.heap.size _ (rrow neg NU DE) _ _ rfl (setRow_heap _ _ _ _ _ _ H5.out.z) Tryz.underlying26 rfl info26.out) rfl ?_
            exact ⟨by rw [HX.out]; rfl, Below.setRow' H5.out.b (Nat.le_refl _) _⟩

      · have HP2 := Lib.hid fun W => pv_no C2 o2 W l2
        have HX := Lib.hid (show ParqV (parp neg true C1 C2) = .tuple #[.agg zrow, .bool false] by unfold parp; rw [if_pos o1, if_pos rfl, if_neg (fun h => o2 h.1)]; rfl)
        clear n1 hNU o1 o2
        generalize (⟨C1.toArray⟩ : ByteArray) = B1 at *
        generalize (⟨C2.toArray⟩ : ByteArray) = B2 at *
        go_enter Tryz.func42, Tryz.ntmps42
        go_upto_region 1 with fail
        change Code.wp _ _ _ _ (w.alloc (.cells zrow 26))
        rw [HW.out.1]
        go_wp2_with fail
        refine (HK.out.1 _).mono ?_
        rintro e w' ⟨rfl, rfl⟩
        go_wp2_with fail
        refine (HK.out.2 _ HW.out.2.b).mono ?_
        rintro e w2 ⟨rfl, b2⟩
        have H2 := Lib.hid (HW.out.2.next b2); clear b2
        go_wp2_with fail
        refine (HP.out _).mono ?_
        rintro e w3 ⟨rfl, b3⟩
        have H3 := Lib.hid (H2.out.next b3); clear b3
        go_upto_region 7 with fail
        have h4 : PZ w w3.heap.size (rrow neg NU ⟨#[1]⟩) (w3.alloc (.cells (rrow neg NU ⟨#[1]⟩) 26)) :=
          ⟨(heap_alloc_old _ _ H3.out.lt).trans H3.out.z, heap_alloc_new _ _, H3.out.lt, by simp, H3.out.b.alloc H3.out.b.size _⟩
        change Code.wp _ _ _ _ (w3.alloc (.cells (rrow neg NU ⟨#[1]⟩) 26))
        generalize w3.alloc (.cells (rrow neg NU ⟨#[1]⟩) 26) = Y at *
        obtain ⟨pb, hpb⟩ : ∃ pb, w3.heap.size = pb := ⟨_, rfl⟩
        rw [hpb] at h4 ⊢
        clear hpb H3 H2 HW HK HP
        have H4 := Lib.hid h4
        clear h4
        go_wp2_with fail
        refine (HP2.out _).mono ?_
        rintro e w4 ⟨rfl, b4⟩
        have H4b := Lib.hid (H4.out.next b4); clear b4
        have c2 : w4.cell? ⟨pb, 2, none⟩ = some (.string ⟨#[1]⟩) := cell_of_row _ _ 2 _ _ _ H4b.out.r
        have fz : w4.frozen? ⟨pb, 2, none⟩ = false := frozen_of_row _ _ 2 _ _ H4b.out.r
        go_upto_region 9 with fail
        have H6 := Lib.hid (H4b.out.set ⟨#[]⟩)
        change Code.wp _ _ _ _ (w4.setCell ⟨pb, 2, none⟩ (.string ⟨#[]⟩))
        generalize w4.setCell ⟨pb, 2, none⟩ (.string ⟨#[]⟩) = X at *
        clear c2 fz H4 H4b HP2
        go_wp2_with (refine wpList_store_row rfl 26 (.tmp 2) (.tmp 53) rfl w.heap.size zrow rfl rfl 26 zrow H6.out.z info26.out rfl zone ?_)
        refine bodyPost_ret (results_row_tmp rfl _ _ w.heap.size _ zrow _ _ rfl (setRow_heap _ _ _ _ _ _ H6.out.z) Tryz.underlying26 rfl infoz.out) rfl ?_
        exact ⟨by rw [HX.out]; rfl, Below.setRow' H6.out.b (Nat.le_refl _) _⟩
  · have P1 := Lib.hid fun W => pv_no C1 o1 W l1
    have hfin := Lib.hid (show parp neg fnd C1 C2 = none by unfold parp; rw [if_neg o1])
    clear o1 l1 l2
    generalize (⟨C1.toArray⟩ : ByteArray) = B1 at *
    generalize (⟨C2.toArray⟩ : ByteArray) = B2 at *
    go_enter Tryz.func42, Tryz.ntmps42
    go_upto_region 1 with fail
    change Code.wp _ _ _ _ (w.alloc (.cells zrow 26))
    rw [HW.out.1]
    go_wp2_with fail
    refine (HK.out.1 _).mono ?_
    rintro e w' ⟨rfl, rfl⟩
    go_wp2_with fail
    refine (HK.out.2 _ HW.out.2.b).mono ?_
    rintro e w2 ⟨rfl, b2⟩
    have H2 := Lib.hid (HW.out.2.next b2); clear b2
    go_wp2_with fail
    refine (P1.out _).mono ?_
    rintro e w3 ⟨rfl, b3⟩
    have H3 := Lib.hid (H2.out.next b3); clear b3
    go_wp2_with (refine wpList_store_row rfl 26 (.tmp 2) (.tmp 29) rfl w.heap.size zrow rfl rfl 26 zrow H3.out.z info26.out rfl zone ?_)
    refine bodyPost_ret (results_row_tmp rfl _ _ w.heap.size _ zrow _ _ rfl (setRow_heap _ _ _ _ _ _ H3.out.z) Tryz.underlying26 rfl infoz.out) rfl ?_
    exact ⟨by rw [hfin.out]; rfl, Below.setRow' H3.out.b (Nat.le_refl _) _⟩
theorem cut_len (l sep : List UInt8) : (Lib.cut l sep).1.length ≤ l.length ∧ (Lib.cut l sep).2.1.length ≤ l.length := by
  unfold Lib.cut
  split
  · exact ⟨List.length_take_le' _ _, by rw [List.length_drop]; omega⟩
  · exact ⟨Nat.le_refl _, Nat.zero_le _⟩
theorem prest_len (s : ByteArray) : (prest s).length ≤ s.size := by
  unfold prest Lib.trimPrefix
  rw [show s.size = s.data.toList.length from (Array.length_toList (xs := s.data)).symm]
  split
  · rw [List.length_drop]; omega
  · exact Nat.le_refl _
theorem qParse (w : World) (s : ByteArray) (hs : s.size ≤ 1000) (hT : Tp w) :
    Calls Tryz.prog 42 #[.string s] w fun e w' => e = .returned (ParqV (parq s)) ∧ Below w.heap.size w w' := by
  have hp := prest_len s
  have hc := cut_len (prest s) [47]
  refine parse_core w s ⟨(prest s).toArray⟩ _ _ _ _ (by omega) (by omega) hT (fun W => Tryz.strings_CutPrefix s ⟨#[45]⟩ W) (fun W h => ?_)
  obtain ⟨m, hm⟩ := (hT.belowB h (Nat.le_refl _)).m
  exact (Tryz.strings_Cut ⟨(prest s).toArray⟩ ⟨#[47]⟩ m W (by show (prest s).toArray.size < _; simp; omega) hm).mono fun e w' ⟨h1, n, h2⟩ => ⟨h1, by rw [h2]; exact below_drewN W n⟩
end Go.Proofs.YteccbedmpjeamaaGreatDoor
namespace Go.Proofs.YteccbedmpjeamaaGreatDoor
open Go.RowKit NM QM
/-- the text of a number -/
def txh (a : Rat) : ByteArray := if a.num < 0 then ⟨#[45]⟩ ++ dtext a.num.natAbs else dtext a.num.natAbs
def txq (a : Rat) : ByteArray := if a.den = 1 then txh a else txh a ++ (⟨#[47]⟩ ++ dtext a.den)
theorem dtext_sz (n N : Nat) (h : n < 256^N) : (dtext n).size ≤ 3 * N + 1 := by
  have e : (dtext n).size = (Lib.decDigits n).length := List.size_toArray
  rw [e]
  refine dec_len (3 * N + 1) n (by omega) ?_
  have h2 : 256^N ≤ (10^3)^N := Nat.pow_le_pow_left (by decide) _
  rw [← Nat.pow_mul] at h2
  rw [Nat.pow_succ]
  have h3 : 0 < 10^(3 * N) := Nat.pow_pos (by decide)
  omega
theorem text_q (w : World) (n N : Nat) (h : n < 256^N) (hN : N ≤ 100000) (hT : Tp w) :
    Calls Tryz.prog 59 #[.string (NB n)] w fun e w' => e = .returned (.string (dtext n)) ∧ Below w.heap.size w w' := by
  have := Text_all w (NB n) (Nat.le_trans (NB_size h) hN) hT.pg hT.p
  rwa [sv_NB] at this
set_option maxRecDepth 100000 in
set_option maxHeartbeats 4000000 in
theorem qText (w : World) (g : Bool) (A B : ByteArray) (N : Nat) (hA : A.size ≤ N) (hB : B.size ≤ N) (hN1 : 1 ≤ N) (hN : N ≤ 1000) (hT : Tp w) :
    Calls Tryz.prog 28 #[RW g A B] w fun e w' => e = .returned (.string (txq (rvq g A B))) ∧ Below w.heap.size w w' := by
  have VV := fun W (h : Below w.heap.size w W) => valid_any W g A B N hA hB (by omega) (hT.b.belowB h (Nat.le_refl _))
  have sm := SmQ_rvq g A B N hA hB hN1
  generalize rvq g A B = a at *
  have T1 := fun W (h : Below w.heap.size w W) => text_q W a.num.natAbs N sm.1 (by omega) (hT.belowB h (Nat.le_refl _))
  have T2 := fun W (h : Below w.heap.size w W) => text_q W a.den N sm.2 (by omega) (hT.belowB h (Nat.le_refl _))
  have z1 := dtext_sz a.num.natAbs N sm.1
  have z2 := dtext_sz a.den N sm.2
  have hs := r1_start w (rrow g A B)
  obtain ⟨W, hW⟩ : ∃ W, w.alloc (.cells (rrow g A B) 26) = W := ⟨_, rfl⟩
  rw [hW] at hs
  have htx : ∀ k n : Bool, decide (a.num < 0) = k → decide (a.den = 1) = n → txq a = (if n then (if k then ⟨#[45]⟩ ++ dtext a.num.natAbs else dtext a.num.natAbs) else (if k then ⟨#[45]⟩ ++ dtext a.num.natAbs else dtext a.num.natAbs) ++ (⟨#[47]⟩ ++ dtext a.den)) := by
    rintro k n rfl rfl
    unfold txq txh
    by_cases h1 : a.den = 1 <;> by_cases h2 : a.num < 0 <;> simp [h1, h2]
  obtain ⟨k, hk⟩ : ∃ k, decide (a.num < 0) = k := ⟨_, rfl⟩
  obtain ⟨n, hn⟩ : ∃ n, decide (a.den = 1) = n := ⟨_, rfl⟩
  rw [htx k n hk hn]
  clear htx
  generalize dtext a.num.natAbs = TN at *
  generalize dtext a.den = TD at *
  have hden : n = true → NB a.den = ⟨#[1]⟩ := fun h => by rw [h] at hn; rw [of_decide_eq_true hn, NB_one]
  have hden2 : n = false → ((NB a.den).toList == [1]) = false := fun h => by
    rw [h] at hn
    exact str_ne (B := ⟨#[1]⟩) rfl (fun e => of_decide_eq_false hn (NB_inj (e.trans NB_one.symm)))
  generalize hE : NB a.den = DE at *
  have HV := Lib.hid (And.intro VV (And.intro T1 (And.intro T2 (And.intro hW (And.intro hs hE)))))
  have c0 : W.cell? ⟨w.heap.size, 0, none⟩ = some (.bool g) := cell_of_row _ _ 0 _ _ _ hs.r
  have c1 : W.cell? ⟨w.heap.size, 1, none⟩ = some (.string A) := cell_of_row _ _ 1 _ _ _ hs.r
  have c2 : W.cell? ⟨w.heap.size, 2, none⟩ = some (.string B) := cell_of_row _ _ 2 _ _ _ hs.r
  have HK := Lib.hid hk
  clear VV T1 T2 hW hs sm hk hn hT hE
  unfold RW
  go_enter Tryz.func28, Tryz.ntmps28
  go_upto_region 1 with fail
  change Code.wp _ _ _ _ (w.alloc (.cells (rrow g A B) 26))
  rw [HV.out.2.2.2.1]
  go_wp2_with fail
  refine (HV.out.1 _ HV.out.2.2.2.2.1.b).mono ?_
  rintro e w1 ⟨rfl, b1⟩
  have H1 := Lib.hid (HV.out.2.2.2.2.1.next b1); clear b1 c0 c1 c2
  unfold QV
  go_upto_region 2 with (refine wpList_store_row rfl 26 (.tmp 1) (.tmp 5) rfl w.heap.size (qcells a) rfl rfl 26 (rrow g A B) H1.out.r info26.out rfl (qone _) ?_)
  have h2 : R1 w (qcells a) (w1.setRow w.heap.size (qcells a)) := ⟨setRow_heap _ _ _ _ _ _ H1.out.r, by rw [show (w1.setRow w.heap.size (qcells a)).heap.size = w1.heap.size by simp]; exact H1.out.lt, Below.setRow' H1.out.b (Nat.le_refl _) _⟩
  generalize w1.setRow w.heap.size (qcells a) = Y at *
  have H2 := Lib.hid h2
  clear h2 H1
  have c1 : Y.cell? ⟨w.heap.size, 1, none⟩ = some (.string (NB a.num.natAbs)) := cell_of_row _ _ 1 _ _ _ H2.out.r
  go_wp2_with fail
  refine (HV.out.2.1 _ H2.out.b).mono ?_
  rintro e w3 ⟨rfl, b3⟩
  have H3 := Lib.hid (H2.out.next b3); clear b3 c1
  have c0 : w3.cell? ⟨w.heap.size, 0, none⟩ = some (.bool k) := by rw [← HK.out]; exact cell_of_row _ _ 0 _ _ _ H3.out.r
  have c2 : w3.cell? ⟨w.heap.size, 2, none⟩ = some (.string DE) := by rw [← HV.out.2.2.2.2.2]; exact cell_of_row _ _ 2 _ _ _ H3.out.r
  have HT2 := Lib.hid HV.out.2.2.1
  have s1 : (9223372036854775807 < 1 + TN.size) = False := by simp; omega
  have s2 : (9223372036854775807 < 1 + TD.size) = False := by simp; omega
  have s3 : (9223372036854775807 < TN.size + (1 + TD.size)) = False := by simp; omega
  have s4 : (9223372036854775807 < 1 + TN.size + (1 + TD.size)) = False := by simp; omega
  cases n with
  | true =>
    obtain rfl := hden rfl
    cases k
    · go_wp2
      go_ret
      exact ⟨rfl, H3.out.b⟩
    · go_wp2
      go_ret
      exact ⟨rfl, H3.out.b⟩
  | false =>
    have hne := hden2 rfl
    cases k
    · go_wp2_with fail
      refine (HT2.out _ H3.out.b).mono ?_
      rintro e w4 ⟨rfl, b4⟩
      have H4 := Lib.hid (H3.out.next b4); clear b4
      go_wp2
      go_ret
      exact ⟨rfl, H4.out.b⟩
    · go_wp2_with fail
      refine (HT2.out _ H3.out.b).mono ?_
      rintro e w4 ⟨rfl, b4⟩
      have H4 := Lib.hid (H3.out.next b4); clear b4
      go_wp2
      go_ret
      exact ⟨rfl, H4.out.b⟩
end Go.Proofs.YteccbedmpjeamaaGreatDoor
namespace Go.Proofs.YteccbedmpjeamaaGreatDoor
open Go.RowKit NM QM
/-- n strings lie in block p -/
def SC (w : World) (p n : Nat) (F : Nat → ByteArray) : Prop := ∀ j, j < n → w.cell? ⟨p, j, none⟩ = some (.string (F j))
theorem SC.below {B p n : Nat} {F : Nat → ByteArray} {u w : World} (h : SC u p n F) (hb : Below B u w) (hB : p < B) : SC w p n F := fun j hj => (hb.cell (p := ⟨p, j, none⟩) hB).trans (h j hj)
theorem SR.sc {w : World} {p n : Nat} {F : Nat → ByteArray} (h : SR w p n F) : SC w p n F := fun j hj => (h j hj).1
def SameQ (b : Bool) (w : World) (e : Ending) (w' : World) : Prop := e = .returned (.bool b) ∧ Below w.heap.size w w'
def eqAll (n : Nat) (F G : Nat → ByteArray) : Bool := (List.range n).all fun i => decide (F i = G i)
theorem eqAll_true {n : Nat} {F G : Nat → ByteArray} (h : ∀ i, i < n → F i = G i) : eqAll n F G = true := by
  unfold eqAll; rw [List.all_eq_true]; intro i hi; rw [List.mem_range] at hi; simp [h i hi]
theorem eqAll_false {n k : Nat} {F G : Nat → ByteArray} (hk : k < n) (h : F k ≠ G k) : eqAll n F G = false := by
  unfold eqAll; rw [List.all_eq_false]; exact ⟨k, List.mem_range.2 hk, by simp [h]⟩
set_option maxRecDepth 100000 in
set_option maxHeartbeats 4000000 in
theorem same_any (w : World) (p q n ca cb : Nat) (F G : Nat → ByteArray) (hp : SC w p n F) (hq : SC w q n G) (hpl : p < w.heap.size) (hql : q < w.heap.size) (hn : n ≤ 1000000) (ha : n ≤ ca) (hb : n ≤ cb) :
    Calls Tryz.prog 41 #[.slice (some ⟨p, 0, none⟩) n ca, .slice (some ⟨q, 0, none⟩) n cb] w (SameQ (eqAll n F G) w) := by
  have HR := Lib.hid (And.intro hp (And.intro hq (And.intro hpl hql)))
  clear hp hq hpl hql
  go_enter Tryz.func41, Tryz.ntmps41
  go_wp2
  go_loopw [5] (fun i wr => ∃ k : Nat, k ≤ n ∧ i = .int .i64 k ∧ Hid (∀ j, j < k → F j = G j) ∧ Hid (Below w.heap.size w wr)) (fun i _ => n - (intOf i).toNat)
  case atStart => exact ⟨0, Nat.zero_le _, rfl, Lib.hid (fun j hj => by omega), Lib.hid (Below.refl _ _)⟩
  case round =>
    obtain ⟨k, hk, rfl, hE, hB⟩ := hrel
    by_cases hlt : k < n
    · have c0 : wr.cell? ⟨p, k, none⟩ = some (.string (F k)) := HR.out.1.below hB.out HR.out.2.2.1 k hlt
      have c1 : wr.cell? ⟨q, k, none⟩ = some (.string (G k)) := HR.out.2.1.below hB.out HR.out.2.2.2 k hlt
      have HE := Lib.hid (And.intro hE.out hB.out)
      clear hE hB
      obtain ⟨x, hx⟩ : ∃ x, F k = x := ⟨_, rfl⟩
      obtain ⟨y, hy⟩ : ∃ y, G k = y := ⟨_, rfl⟩
      rw [hx] at c0
      rw [hy] at c1
      have HX := Lib.hid (And.intro hx hy)
      clear hx hy
      by_cases hxy : x = y
      · subst hxy
        have hkk : (F k = G k) := by rw [HX.out.1, HX.out.2]
        have HK := Lib.hid hkk
        clear hkk
        go_wp2
        go_region
        all_goals go_wp2
        all_goals go_roundw
        case rel =>
          refine ⟨k + 1, by omega, by go_num, Lib.hid (fun j hj => ?_), Lib.hid (HE.out.2.drew)⟩
          by_cases e : j = k
          · subst e; exact HK.out
          · exact HE.out.1 j (by omega)
        case measure => (simp [intOf]; omega)
      · have hne : (x.toList == y.toList) = false := by
          rw [beq_eq_false_iff_ne]; intro h; exact hxy (toList_inj h)
        have hno := Lib.hid (eqAll_false (F := F) (G := G) hlt (by rw [HX.out.1, HX.out.2]; exact hxy))
        clear hxy
        go_wp2
        go_region
        all_goals go_wp2
        all_goals go_ret
        all_goals exact ⟨by rw [hno.out]; rfl, HE.out.2.drew⟩
    · obtain rfl : k = n := by omega
      have hyes := Lib.hid (eqAll_true (F := F) (G := G) hE.out)
      go_wp2
      go_ret
      exact ⟨by rw [hyes.out]; rfl, hB.out⟩
end Go.Proofs.YteccbedmpjeamaaGreatDoor
namespace Go.Proofs.YteccbedmpjeamaaGreatDoor
open Go.RowKit NM QM
/-- blocks that hold numbers; what lay before; the tables -/
structure KB (w : World) (fs : List (Nat × Array Value)) (W : World) : Prop where
  r : ∀ x ∈ fs, x.1 < W.heap.size ∧ W.heap[x.1]? = some (.cells x.2 26 (0, 0))
  b : Below w.heap.size w W
  t : Tp W
theorem KB.next {w u v : World} {fs : List (Nat × Array Value)} (h : KB w fs u) (k : Below u.heap.size u v) : KB w fs v :=
  ⟨fun x hx => ⟨Nat.lt_of_lt_of_le (h.r x hx).1 k.size, (k.block _ (h.r x hx).1).trans (h.r x hx).2⟩, h.b.trans (k.mono h.b.size), h.t.below k⟩
theorem KB.drew {w u : World} {fs : List (Nat × Array Value)} (h : KB w fs u) : KB w fs u.drew := ⟨h.r, h.b.drew, h.t.below (Below.refl u.heap.size u).drew⟩
theorem KB.push {w u : World} {fs : List (Nat × Array Value)} (h : KB w fs u) (cs : Array Value) : KB w ((u.heap.size, cs) :: fs) (u.alloc (.cells cs 26)) := by
  have h2 := h.next ((Below.refl u.heap.size u).alloc (Nat.le_refl _) (.cells cs 26))
  refine ⟨fun x hx => ?_, h2.b, h2.t⟩
  rcases List.mem_cons.1 hx with rfl | hx
  · exact ⟨by simp, heap_alloc_new _ _⟩
  · exact h2.r x hx
theorem KB.row {w u : World} {fs : List (Nat × Array Value)} (h : KB w fs u) {p : Nat} {cs : Array Value} (hm : (p, cs) ∈ fs) : u.heap[p]? = some (.cells cs 26 (0, 0)) := (h.r _ hm).2
theorem q_szA {N : Nat} {a : Rat} (h : SmQ N a) : (NB a.num.natAbs).size ≤ N := NB_size h.1
theorem q_szB {N : Nat} {a : Rat} (h : SmQ N a) : (NB a.den).size ≤ N := NB_size h.2
theorem aAdd (w : World) (a b : Rat) (N : Nat) (ha : SmQ N a) (hb : SmQ N b) (h1 : 1 ≤ N) (hN : N ≤ 1000000) (hT : Tp w) :
    Calls Tryz.prog 14 #[.agg (qcells a), .agg (qcells b)] w fun e w' => e = .returned (.agg (qcells (a + b))) ∧ Below w.heap.size w w' := by
  have h := qAdd w (decide (a.num < 0)) (decide (b.num < 0)) _ _ _ _ N (q_szA ha) (q_szB ha) (q_szA hb) (q_szB hb) h1 hN hT.b
  rwa [rvq_QV, rvq_QV] at h
theorem aMul (w : World) (a b : Rat) (N : Nat) (ha : SmQ N a) (hb : SmQ N b) (h1 : 1 ≤ N) (hN : N ≤ 1000000) (hT : Tp w) :
    Calls Tryz.prog 18 #[.agg (qcells a), .agg (qcells b)] w fun e w' => e = .returned (.agg (qcells (a * b))) ∧ Below w.heap.size w w' := by
  have h := qMul w (decide (a.num < 0)) (decide (b.num < 0)) _ _ _ _ N (q_szA ha) (q_szB ha) (q_szA hb) (q_szB hb) h1 hN hT.b
  rwa [rvq_QV, rvq_QV] at h
theorem aSub (w : World) (a b : Rat) (N : Nat) (ha : SmQ N a) (hb : SmQ N b) (h1 : 1 ≤ N) (hN : N ≤ 1000000) (hT : Tp w) :
    Calls Tryz.prog 16 #[.agg (qcells a), .agg (qcells b)] w fun e w' => e = .returned (.agg (qcells (a - b))) ∧ Below w.heap.size w w' := by
  have h := qSub w (decide (a.num < 0)) (decide (b.num < 0)) _ _ _ _ N (q_szA ha) (q_szB ha) (q_szA hb) (q_szB hb) h1 hN hT.b
  rwa [rvq_QV, rvq_QV] at h
theorem aNeg (w : World) (a : Rat) (N : Nat) (ha : SmQ N a) (hN : N ≤ 1000000) (hT : Tp w) :
    Calls Tryz.prog 24 #[.agg (qcells a)] w fun e w' => e = .returned (.agg (qcells (-a))) ∧ Below w.heap.size w w' := by
  have h := qNeg w (decide (a.num < 0)) _ _ N (q_szA ha) (q_szB ha) hN hT.b
  rwa [rvq_QV] at h
theorem aQuo0 (w : World) (a b : Rat) (N : Nat) (hb : SmQ N b) (hN : N ≤ 1000000) (hT : Tp w) (h0 : b = 0) :
    Calls Tryz.prog 12 #[.agg (qcells a), .agg (qcells b)] w fun e w' => e = .returned (.tuple #[.agg zrow, .bool false]) ∧ Below w.heap.size w w' :=
  qQuo0 w (decide (a.num < 0)) (decide (b.num < 0)) _ _ _ _ N (q_szA hb) (q_szB hb) hN hT.b (by rw [rvq_QV, h0])
theorem aQuo1 (w : World) (a b : Rat) (N : Nat) (ha : SmQ N a) (hb : SmQ N b) (h1 : 1 ≤ N) (hN : N ≤ 1000000) (hT : Tp w) (h0 : b ≠ 0) :
    Calls Tryz.prog 12 #[.agg (qcells a), .agg (qcells b)] w fun e w' => e = .returned (.tuple #[.agg (qcells (a / b)), .bool true]) ∧ Below w.heap.size w w' := by
  have h := qQuo1 w (decide (a.num < 0)) (decide (b.num < 0)) _ _ _ _ N (q_szA ha) (q_szB ha) (q_szA hb) (q_szB hb) h1 hN hT.b (by rw [rvq_QV]; exact h0)
  rwa [rvq_QV, rvq_QV] at h
theorem arQuo1 (w : World) (a b : Rat) (N : Nat) (ha : SmQ N a) (hb : SmQ N b) (h1 : 1 ≤ N) (hN : N ≤ 1000000) (hT : Tp w) (h0 : b ≠ 0) :
    Calls Tryz.prog 13 #[.agg (qcells a), .agg (qcells b)] w fun e w' => e = .returned (.tuple #[.agg (qcells (a / b)), .bool true]) ∧ Below w.heap.size w w' := by
  have h := rQuo1 w (decide (a.num < 0)) (decide (b.num < 0)) _ _ _ _ N (q_szA ha) (q_szB ha) (q_szA hb) (q_szB hb) h1 hN hT.b (by rw [rvq_QV]; exact h0)
  rwa [rvq_QV, rvq_QV] at h
theorem aText (w : World) (a : Rat) (N : Nat) (ha : SmQ N a) (h1 : 1 ≤ N) (hN : N ≤ 1000) (hT : Tp w) :
    Calls Tryz.prog 28 #[.agg (qcells a)] w fun e w' => e = .returned (.string (txq a)) ∧ Below w.heap.size w w' := by
  have h := qText w (decide (a.num < 0)) _ _ N (q_szA ha) (q_szB ha) h1 hN hT
  rwa [rvq_QV] at h
theorem int_small (n : Int) (h : -1000 ≤ n ∧ n ≤ 1000) : SmQ 8 (n : Rat) := by
  have q8 : (256 : Nat)^8 = 18446744073709551616 := by decide
  exact ⟨by rw [Rat.num_intCast]; omega, by rw [Rat.den_intCast]; omega⟩
theorem aEq (w : World) (a b : Rat) (h : a = b) : (binOp .eql 26 (.agg (qcells a)) (.agg (qcells b))).run Tryz.prog w = .ok (.bool true) w := by
  have := eq_q w a b
  rwa [decide_eq_true h] at this
set_option maxRecDepth 100000 in
set_option maxHeartbeats 4000000 in
theorem frac_q (w : World) (n d : Int) (q : Rat) (hn : -1000 ≤ n ∧ n ≤ 1000) (hd : 1 ≤ d ∧ d ≤ 1000) (hq : (n : Rat) / (d : Rat) = q) (hT : Tp w) :
    Calls Tryz.prog 44 #[.int .i64 n, .int .i64 d] w fun e w' => e = .returned (.agg (qcells q)) ∧ Below w.heap.size w w' := by
  have O1 := fun W => rOf_q W n (by omega) (by omega)
  have O2 := fun W => rOf_q W d (by omega) (by omega)
  have Q1 := fun W (h : Below w.heap.size w W) => arQuo1 W (n : Rat) (d : Rat) 8 (int_small n hn) (int_small d (by omega)) (by decide) (by decide) (hT.belowB h (Nat.le_refl _)) (fun e => by
    have h1 := congrArg Rat.num e
    rw [Rat.num_intCast] at h1
    have h2 : (0 : Rat).num = 0 := rfl
    omega)
  rw [hq] at Q1
  unfold QV at O1 O2
  generalize qcells (n : Rat) = cn at *
  generalize qcells (d : Rat) = cd at *
  have hs := z1_start w
  obtain ⟨W, hW⟩ : ∃ W, w.alloc (.cells zrow 26) = W := ⟨_, rfl⟩
  rw [hW] at hs
  have HW := Lib.hid (And.intro hW hs)
  have HO := Lib.hid (And.intro O1 (And.intro O2 Q1))
  clear O1 O2 Q1 hW hs hq hT hn hd
  go_enter Tryz.func44, Tryz.ntmps44
  go_upto_region 1 with fail
  change Code.wp _ _ _ _ (w.alloc (.cells zrow 26))
  rw [HW.out.1]
  go_wp2_with fail
  refine (HO.out.1 _).mono ?_
  rintro e w1 ⟨rfl, b1⟩
  have H1 := Lib.hid (HW.out.2.next b1); clear b1
  go_wp2_with fail
  refine (HO.out.2.1 _).mono ?_
  rintro e w2 ⟨rfl, b2⟩
  have H2 := Lib.hid (H1.out.next b2); clear b2
  go_wp2_with fail
  refine (HO.out.2.2 _ H2.out.b).mono ?_
  rintro e w3 ⟨rfl, b3⟩
  have H3 := Lib.hid (H2.out.next b3); clear b3
  go_upto_region 2 with (refine wpList_store_row rfl 26 (.tmp 5) (.tmp 13) rfl w3.heap.size (qcells q) rfl rfl 26 zrow (heap_alloc_new _ _) info26.out rfl (qone _) ?_)
  change Code.wp _ _ _ _ ((w3.alloc (.cells zrow 26)).setRow w3.heap.size (qcells q))
  rw [World.setRow_alloc_new w3 zrow (qcells q) 26]
  have x1 := heap_alloc_new w3 (.cells (qcells q) 26)
  have H4 := Lib.hid (H3.out.next ((Below.refl w3.heap.size w3).alloc (Nat.le_refl _) (.cells (qcells q) 26)))
  generalize w3.alloc (.cells (qcells q) 26) = Y at *
  have c0 : Y.cell? ⟨w3.heap.size, 0, none⟩ = some (.bool (decide (q.num < 0))) := cell_of_row _ _ 0 _ _ _ x1
  have c1 : Y.cell? ⟨w3.heap.size, 1, none⟩ = some (.string (NB q.num.natAbs)) := cell_of_row _ _ 1 _ _ _ x1
  have c2 : Y.cell? ⟨w3.heap.size, 2, none⟩ = some (.string (NB q.den)) := cell_of_row _ _ 2 _ _ _ x1
  clear x1
  go_wp2_with (refine wpList_store_row rfl 26 (.tmp 4) (.tmp 15) rfl w.heap.size (qcells q) rfl rfl 26 zrow H4.out.z info26.out rfl (qone _) ?_)
  refine bodyPost_ret (results_cell_row rfl _ _ w.heap.size _ (qcells q) _ _ rfl (setRow_heap _ _ _ _ _ _ H4.out.z) Tryz.underlying26 rfl info26.out) rfl ?_
  exact ⟨rfl, Below.setRow' H4.out.b (Nat.le_refl _) _⟩
end Go.Proofs.YteccbedmpjeamaaGreatDoor
