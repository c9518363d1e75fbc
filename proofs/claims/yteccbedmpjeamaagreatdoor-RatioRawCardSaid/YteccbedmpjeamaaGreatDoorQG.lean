/-
  The walk of the reference's Sum.
  The walk of the reference's Text.
  The walk of the reference's Make.
-/
import Derived.Test.YteccbedmpjeamaaGreatDoorQRefS
import Derived.Test.YteccbedmpjeamaaGreatDoorQE
import Derived.Deep.RegionWith
import Derived.Test.YteccbedmpjeamaaGreatDoorQF
import Derived.Test.YteccbedmpjeamaaGreatDoorRefText
import Derived.Test.YteccbedmpjeamaaGreatDoorRefCmp
namespace Go.Proofs.YteccbedmpjeamaaGreatDoor
open Go.RowKit NM QM
/-- the blocks of the sum: the result's and the sum so far -/
structure RS (w : World) (p : Nat) (s : Rat) (W : World) : Prop where
  z : W.heap[w.heap.size]? = some (.cells zrow 26 (0, 0))
  a : W.heap[p]? = some (.cells (qcells s) 26 (0, 0))
  hp : w.heap.size < p
  lt : p < W.heap.size
  b : Below w.heap.size w W
theorem RS.next {w u v : World} {p : Nat} {s : Rat} (h : RS w p s u) (k : Below u.heap.size u v) : RS w p s v :=
  ⟨(k.block _ (Nat.lt_trans h.hp h.lt)).trans h.z, (k.block _ h.lt).trans h.a, h.hp, Nat.lt_of_lt_of_le h.lt k.size, h.b.trans (k.mono h.b.size)⟩
theorem RS.put {w u : World} {p : Nat} {s : Rat} (h : RS w p s u) (t : Rat) :
    RS w p t (((u.setCell ⟨p, 0, none⟩ (.bool (decide (t.num < 0)))).setCell ⟨p, 1, none⟩ (.string (NB t.num.natAbs))).setCell ⟨p, 2, none⟩ (.string (NB t.den))) := by
  have hp := h.hp
  have e1 : (u.setCell ⟨p, 0, none⟩ (.bool (decide (t.num < 0)))).heap[p]? = some (.cells ((qcells s).setIfInBounds 0 (.bool (decide (t.num < 0)))) 26 (0, 0)) := heap_setCell_same u p 0 _ _ _ h.a
  have e2 : ((u.setCell ⟨p, 0, none⟩ (.bool (decide (t.num < 0)))).setCell ⟨p, 1, none⟩ (.string (NB t.num.natAbs))).heap[p]? = some (.cells (((qcells s).setIfInBounds 0 (.bool (decide (t.num < 0)))).setIfInBounds 1 (.string (NB t.num.natAbs))) 26 (0, 0)) := heap_setCell_same _ p 1 _ _ _ e1
  have e3 : (((u.setCell ⟨p, 0, none⟩ (.bool (decide (t.num < 0)))).setCell ⟨p, 1, none⟩ (.string (NB t.num.natAbs))).setCell ⟨p, 2, none⟩ (.string (NB t.den))).heap[p]? = some (.cells ((((qcells s).setIfInBounds 0 (.bool (decide (t.num < 0)))).setIfInBounds 1 (.string (NB t.num.natAbs))).setIfInBounds 2 (.string (NB t.den))) 26 (0, 0)) := heap_setCell_same _ p 2 _ _ _ e2
  refine ⟨?_, ?_, hp, ?_, ((h.b.setCell (p := ⟨p, 0, none⟩) (Nat.le_of_lt hp) _).setCell (p := ⟨p, 1, none⟩) (Nat.le_of_lt hp) _).setCell (p := ⟨p, 2, none⟩) (Nat.le_of_lt hp) _⟩
  · rw [heap_setCell_other _ _ _ _ (show w.heap.size ≠ p from Nat.ne_of_lt hp), heap_setCell_other _ _ _ _ (show w.heap.size ≠ p from Nat.ne_of_lt hp), heap_setCell_other _ _ _ _ (show w.heap.size ≠ p from Nat.ne_of_lt hp)]; exact h.z
  · rw [e3]; rfl
  · exact (Array.getElem?_eq_some_iff.1 e3).1
theorem RS.drew {w u : World} {p : Nat} {s : Rat} (h : RS w p s u) : RS w p s u.drew := ⟨h.z, h.a, h.hp, h.lt, h.b.drew⟩
set_option maxRecDepth 100000 in
set_option maxHeartbeats 4000000 in
theorem rSum (w : World) (b cap : Nat) (l : List T3) (N : Nat) (hR : RL w b l) (hb : b < w.heap.size) (hs : SzL N l) (hN1 : 1 ≤ N) (hN : N + l.length * (N + 1) ≤ 100000) (hn : l.length ≤ cap) (hl : l.length ≤ 1000000) (hT : Tb w) :
    Calls Tryz.prog 31 #[.slice (some ⟨b, 0, none⟩) l.length cap] w fun e w' => e = .returned (QV (sumq l)) ∧ Below w.heap.size w w' := by
  have HR := Lib.hid (And.intro hR (And.intro hb (And.intro hs (And.intro hT (And.intro hN1 hN)))))
  clear hR hb hs hT hN1 hN
  have h0 := z1_start w
  obtain ⟨W, hW⟩ : ∃ W, w.alloc (.cells zrow 26) = W := ⟨_, rfl⟩
  rw [hW] at h0
  have HW := Lib.hid (And.intro hW h0)
  clear hW h0
  have OO := Lib.hid (show ∀ W, Calls Tryz.prog 37 #[.int .i64 0] W fun e w' => e = .returned (.agg (qcells 0)) ∧ Below W.heap.size W w' from fun W => rOf_q W 0 (by decide) (by decide))
  go_enter Tryz.func31, Tryz.ntmps31
  go_upto_region 1 with fail
  change Code.wp _ _ _ _ (w.alloc (.cells zrow 26))
  rw [HW.out.1]
  go_wp2_with fail
  refine (OO.out _).mono ?_
  rintro e u ⟨rfl, bu⟩
  have H1 := Lib.hid (HW.out.2.next bu); clear bu
  go_upto_region 2 with (refine wpList_store_row rfl 26 (.tmp 3) (.tmp 5) rfl u.heap.size (qcells 0) rfl rfl 26 zrow (heap_alloc_new _ _) info26.out rfl (qone _) ?_)
  try change Code.wp _ _ _ _ ((u.alloc (.cells zrow 26)).setRow u.heap.size (qcells 0))
  rw [World.setRow_alloc_new u zrow (qcells 0) 26]
  have bx : Below u.heap.size u (u.alloc (.cells (qcells 0) 26)) := (Below.refl u.heap.size u).alloc (Nat.le_refl _) _
  have hx := H1.out.next bx
  have ha : (u.alloc (.cells (qcells 0) 26)).heap[u.heap.size]? = some (.cells (qcells 0) 26 (0, 0)) := heap_alloc_new _ _
  have hF0 : RS w u.heap.size 0 (u.alloc (.cells (qcells 0) 26)) := ⟨hx.z, ha, H1.out.lt, (Array.getElem?_eq_some_iff.1 ha).1, hx.b⟩
  clear hx ha bx H1 OO HW
  generalize u.alloc (.cells (qcells 0) 26) = v at *
  obtain ⟨p, hp⟩ : ∃ p, u.heap.size = p := ⟨_, rfl⟩
  rw [hp] at hF0 ⊢
  clear hp
  have HF0 := Lib.hid hF0; clear hF0
  obtain ⟨z0, hz0⟩ : ∃ z, qcells 0 = z := ⟨_, rfl⟩
  rw [hz0]
  clear hz0
  go_wp2_with fail
  go_loopw [4] (fun i wr => ∃ k : Nat, k ≤ l.length ∧ i = .int .i64 k ∧ Hid (RS w p (sumq (l.take k)) wr)) (fun i _ => l.length - (intOf i).toNat)
  case atStart => exact ⟨0, Nat.zero_le _, rfl, Lib.hid (by rw [List.take_zero]; exact HF0.out)⟩
  case round =>
    clear HF0
    obtain ⟨k, hk, rfl, hF⟩ := hrel
    by_cases hlt : k < l.length
    · obtain ⟨c0, c1, c2⟩ := (show wr.drew.cell? ⟨b, k * 3, none⟩ = some (.bool l[k].1) ∧ wr.drew.cell? ⟨b, k * 3 + 1, none⟩ = some (.string l[k].2.1) ∧ wr.drew.cell? ⟨b, k * 3 + 2, none⟩ = some (.string l[k].2.2) from (HR.out.1.below hF.out.b HR.out.2.1) k hlt)
      have hm := HR.out.2.2.1 l[k] (List.getElem_mem hlt)
      have htk : l.take (k + 1) = l.take k ++ [l[k]] := by rw [List.take_succ_eq_append_getElem hlt]
      obtain ⟨t, ht⟩ : ∃ t, l[k] = t := ⟨_, rfl⟩
      rw [ht] at c0 c1 c2 hm htk
      obtain ⟨g, A, B⟩ := t
      have hsm := sumq_small N l HR.out.2.2.1 HR.out.2.2.2.2.1 k hk
      have hsum := sumq_snoc (l.take k) (g, A, B)
      rw [← htk] at hsum
      obtain ⟨s, hs'⟩ : ∃ s, sumq (l.take k) = s := ⟨_, rfl⟩
      rw [hs'] at hF hsm hsum
      have EE := fun W (h : Below w.heap.size w W) => rAdd W (decide (s.num < 0)) g (NB s.num.natAbs) (NB s.den) A B (N + k * (N + 1)) (NB_size hsm.1) (NB_size hsm.2) (Nat.le_trans hm.1 (by omega)) (Nat.le_trans hm.2 (by omega)) (by have := HR.out.2.2.2.2.1; omega) (by have := Nat.mul_le_mul_right (N + 1) hk; have := HR.out.2.2.2.2.2; omega) (HR.out.2.2.2.1.belowB h (Nat.le_refl _))
      simp only [rvq_QV] at EE
      have HE := Lib.hid (And.intro EE hsum)
      clear EE hsum hsm hs' htk hm ht
      simp only at c0 c1 c2
      have c3 : wr.drew.cell? ⟨p, 0, none⟩ = some (.bool (decide (s.num < 0))) := cell_of_row _ _ 0 _ _ _ hF.out.a
      have c4 : wr.drew.cell? ⟨p, 1, none⟩ = some (.string (NB s.num.natAbs)) := cell_of_row _ _ 1 _ _ _ hF.out.a
      have c5 : wr.drew.cell? ⟨p, 2, none⟩ = some (.string (NB s.den)) := cell_of_row _ _ 2 _ _ _ hF.out.a
      go_upto_region 5 with fail
      go_region_with (first
        | (go_at_call 15; refine (HE.out.1 _ hF.out.b.drew).mono ?_; rintro e w2 ⟨rfl, b2⟩; have H2 := hF.out.drew.next b2; have d0 : w2.cell? ⟨p, 0, none⟩ = some (.bool (decide (s.num < 0))) := cell_of_row _ _ 0 _ _ _ H2.a; have d1 : w2.cell? ⟨p, 1, none⟩ = some (.string (NB s.num.natAbs)) := cell_of_row _ _ 1 _ _ _ H2.a; have d2 : w2.cell? ⟨p, 2, none⟩ = some (.string (NB s.den)) := cell_of_row _ _ 2 _ _ _ H2.a; have f0 : w2.frozen? ⟨p, 0, none⟩ = false := frozen_of_row w2 p 0 _ _ H2.a; have f1 : w2.frozen? ⟨p, 1, none⟩ = false := frozen_of_row w2 p 1 _ _ H2.a; have f2 : w2.frozen? ⟨p, 2, none⟩ = false := frozen_of_row w2 p 2 _ _ H2.a; dsimp only [QV, qcells]))
      all_goals
        have HX := Lib.hid (H2.put (s + rvq g A B))
        change Exit.inBlock _ _ _ _ (((w2.setCell ⟨p, 0, none⟩ (.bool (decide ((s + rvq g A B).num < 0)))).setCell ⟨p, 1, none⟩ (.string (NB (s + rvq g A B).num.natAbs))).setCell ⟨p, 2, none⟩ (.string (NB (s + rvq g A B).den)))
        generalize ((w2.setCell ⟨p, 0, none⟩ (.bool (decide ((s + rvq g A B).num < 0)))).setCell ⟨p, 1, none⟩ (.string (NB (s + rvq g A B).num.natAbs))).setCell ⟨p, 2, none⟩ (.string (NB (s + rvq g A B).den)) = Y at *
        clear c0 c1 c2 c3 c4 c5 d0 d1 d2 f0 f1 f2 H2 b2
        go_wp2
        go_roundw
        case rel => exact ⟨k + 1, by omega, by go_num, Lib.hid (by rw [HE.out.2]; exact HX.out)⟩
        case measure => (simp [intOf]; omega)
    · obtain rfl : k = l.length := by omega
      rw [List.take_length] at hF
      go_wp2_with (first | (refine wpList_load_row rfl 26 (.tmp 3) rfl p rfl 26 (qcells (sumq l)) (0, 0) _ hF.out.a Tryz.underlying26 rfl info26.out ?_) | (refine wpList_store_row rfl 26 (.tmp 2) (.tmp 18) rfl w.heap.size (qcells (sumq l)) rfl rfl 26 zrow hF.out.z info26.out rfl (qone _) ?_))
      refine bodyPost_ret (results_cell_row rfl _ _ w.heap.size _ (qcells (sumq l)) _ _ rfl (setRow_heap _ _ _ _ _ _ hF.out.z) Tryz.underlying26 rfl info26.out) rfl ?_
      exact ⟨rfl, Below.setRow' hF.out.b (Nat.le_refl _) _⟩
end Go.Proofs.YteccbedmpjeamaaGreatDoor
namespace Go.Proofs.YteccbedmpjeamaaGreatDoor
open Go.RowKit NM QM
theorem cat_assoc (a b c : ByteArray) : a ++ (b ++ c) = a ++ b ++ c := ByteArray.append_assoc.symm
set_option maxRecDepth 100000 in
set_option maxHeartbeats 4000000 in
theorem rText (w : World) (g : Bool) (A B : ByteArray) (N : Nat) (hA : A.size ≤ N) (hB : B.size ≤ N) (hN1 : 1 ≤ N) (hN : N ≤ 1000) :
    Calls Tryz.prog 29 #[RW g A B] w fun e w' => e = .returned (.string (txq (rvq g A B))) ∧ Below w.heap.size w w' := by
  have VV := fun W => value_q W g A B N hA hB (by omega)
  have sm := SmQ_rvq g A B N hA hB hN1
  generalize rvq g A B = a at *
  have T1 := fun W => RefText_any W (NB a.num.natAbs) (by have := NB_size sm.1; omega)
  have T2 := fun W => RefText_any W (NB a.den) (by have := NB_size sm.2; omega)
  have C1 := fun W => RefCmp_any W (NB a.den) ⟨#[1]⟩ (by have := NB_size sm.2; omega) (by decide)
  rw [sv_NB] at T1 T2 C1
  rw [sv_one] at C1
  have z1 := dtext_sz a.num.natAbs N sm.1
  have z2 := dtext_sz a.den N sm.2
  have hs := r1_start w (rrow g A B)
  obtain ⟨W, hW⟩ : ∃ W, w.alloc (.cells (rrow g A B) 26) = W := ⟨_, rfl⟩
  rw [hW] at hs
  have htx : ∀ k n : Bool, decide (a.num < 0) = k → decide (a.den = 1) = n → txq a = (if n then (if k then ⟨#[45]⟩ ++ dtext a.num.natAbs else dtext a.num.natAbs) else (if k then ⟨#[45]⟩ ++ dtext a.num.natAbs else dtext a.num.natAbs) ++ ⟨#[47]⟩ ++ dtext a.den) := by
    rintro k n rfl rfl
    unfold txq txh
    by_cases h1 : a.den = 1 <;> by_cases h2 : a.num < 0 <;> simp [h1, h2, cat_assoc]
  obtain ⟨k, hk⟩ : ∃ k, decide (a.num < 0) = k := ⟨_, rfl⟩
  obtain ⟨n, hn⟩ : ∃ n, decide (a.den = 1) = n := ⟨_, rfl⟩
  rw [htx k n hk hn]
  clear htx
  have hcz : (cmpv a.den 1 != 0) = !n := by
    rw [← hn]
    by_cases h1 : a.den = 1
    · rw [h1]; rfl
    · rw [decide_eq_false h1]
      unfold cmpv
      by_cases h2 : a.den < 1
      · exact absurd (show a.den = 0 by omega) a.den_nz
      · simp [show ¬ a.den < 1 by omega, show 1 < a.den by omega]
  generalize cmpv a.den 1 = cz at *
  generalize dtext a.num.natAbs = TN at *
  generalize dtext a.den = TD at *
  generalize hE : NB a.den = DE at *
  unfold QV at VV
  have HV := Lib.hid (And.intro VV (And.intro T1 (And.intro T2 (And.intro hW (And.intro hs hE)))))
  have HC := Lib.hid C1
  have c0 : W.cell? ⟨w.heap.size, 0, none⟩ = some (.bool g) := cell_of_row _ _ 0 _ _ _ hs.r
  have c1 : W.cell? ⟨w.heap.size, 1, none⟩ = some (.string A) := cell_of_row _ _ 1 _ _ _ hs.r
  have c2 : W.cell? ⟨w.heap.size, 2, none⟩ = some (.string B) := cell_of_row _ _ 2 _ _ _ hs.r
  have HK := Lib.hid hk
  clear VV T1 T2 C1 hW hs sm hk hn hE
  unfold RW
  go_enter Tryz.func29, Tryz.ntmps29
  go_upto_region 1 with fail
  change Code.wp _ _ _ _ (w.alloc (.cells (rrow g A B) 26))
  rw [HV.out.2.2.2.1]
  go_wp2_with fail
  refine (HV.out.1 _).mono ?_
  rintro e w1 ⟨rfl, b1⟩
  have H1 := Lib.hid (HV.out.2.2.2.2.1.next b1); clear b1 c0 c1 c2
  go_upto_region 2 with (refine wpList_store_row rfl 26 (.tmp 1) (.tmp 5) rfl w.heap.size (qcells a) rfl rfl 26 (rrow g A B) H1.out.r info26.out rfl (qone _) ?_)
  have h2 : R1 w (qcells a) (w1.setRow w.heap.size (qcells a)) := ⟨setRow_heap _ _ _ _ _ _ H1.out.r, by rw [show (w1.setRow w.heap.size (qcells a)).heap.size = w1.heap.size by simp]; exact H1.out.lt, Below.setRow' H1.out.b (Nat.le_refl _) _⟩
  generalize w1.setRow w.heap.size (qcells a) = Y at *
  have H2 := Lib.hid h2
  clear h2 H1
  have c1 : Y.cell? ⟨w.heap.size, 1, none⟩ = some (.string (NB a.num.natAbs)) := cell_of_row _ _ 1 _ _ _ H2.out.r
  go_wp2_with fail
  refine (HV.out.2.1 _).mono ?_
  rintro e w3 ⟨rfl, b3⟩
  have H3 := Lib.hid (H2.out.next b3); clear b3 c1
  have c0 : w3.cell? ⟨w.heap.size, 0, none⟩ = some (.bool k) := by rw [← HK.out]; exact cell_of_row _ _ 0 _ _ _ H3.out.r
  have HT2 := Lib.hid HV.out.2.2.1
  have HDE := Lib.hid HV.out.2.2.2.2.2
  have s1 : (9223372036854775807 < 1 + TN.size) = False := by simp; omega
  have s2 : (9223372036854775807 < TN.size + 1) = False := by simp; omega
  have s3 : (9223372036854775807 < TN.size + 1 + TD.size) = False := by simp; omega
  have s4 : (9223372036854775807 < 1 + TN.size + 1) = False := by simp; omega
  have s5 : (9223372036854775807 < 1 + TN.size + 1 + TD.size) = False := by simp; omega
  clear HV z1 z2
  have cc2 : ∀ u, R1 w (qcells a) u → u.cell? ⟨w.heap.size, 2, none⟩ = some (.string DE) := fun u h => by rw [← HDE.out]; exact cell_of_row _ _ 2 _ _ _ h.r
  have C2 := Lib.hid cc2; clear cc2 HDE
  cases k
  all_goals
    go_upto_region 5 with fail
    clear c0
    have c2 := C2.out _ H3.out
    have c2d := C2.out _ H3.out.drew
    go_region_held3 (fun w' => R1 w (qcells a) w' ∧ w'.cell? ⟨w.heap.size, 2, none⟩ = some (.string DE))
      (first | assumption | exact ⟨H3.out.drew, c2d⟩ | exact ⟨H3.out, c2⟩ | exact ⟨R1.next (And.left (by assumption)) b, C2.out _ (R1.next (And.left (by assumption)) b)⟩)
      (first
        | (go_at_call 34; refine (rone_q _).mono ?_; rintro e w' ⟨rfl, b⟩)
        | (go_at_call 52; refine (HC.out _).mono ?_; rintro e w' ⟨rfl, rfl⟩; have b := Below.refl w'.heap.size w'))
    all_goals
      have hR : R1 w (qcells a) w' := And.left (by assumption)
      have H5 := Lib.hid hR; clear hR
      cases n
      · go_wp2_with fail
        refine (HT2.out _).mono ?_
        rintro e w4 ⟨rfl, b4⟩
        have H4 := Lib.hid (H5.out.next b4); clear b4
        go_wp2
        go_ret
        exact ⟨rfl, H4.out.b⟩
      · go_wp2
        go_ret
        exact ⟨rfl, H5.out.b⟩
end Go.Proofs.YteccbedmpjeamaaGreatDoor
namespace Go.Proofs.YteccbedmpjeamaaGreatDoor
open Go.RowKit NM QM
set_option maxRecDepth 100000 in
set_option maxHeartbeats 2000000 in
theorem rmake_no (w : World) (g : Bool) (A B : ByteArray) (h : fitq A B = false) :
    Calls Tryz.prog 33 #[.bool g, .string A, .string B] w fun e w' => e = .returned (.tuple #[.agg zrow, .bool false]) ∧ Below w.heap.size w w' := by
  have RA := fun W => RefRight_any W A
  have RB := fun W => RefRight_any W B
  have h0 := z1_start w
  obtain ⟨W, hW⟩ : ∃ W, w.alloc (.cells zrow 26) = W := ⟨_, rfl⟩
  rw [hW] at h0
  have HW := Lib.hid hW; clear hW
  have hz := h0.z
  have HB := Lib.hid h0.b
  clear h0
  by_cases hA : rgt A = true
  · rw [hA] at RA
    by_cases hB : rgt B = true
    · rw [hB] at RB
      have hb : B = ⟨#[]⟩ := by
        unfold fitq at h
        rw [hA, hB] at h
        have h2 : sv B = 0 := by simpa using h
        rw [rgt_NB hB, h2, NB_zero]
      subst hb
      have HR := Lib.hid (And.intro RA RB)
      clear RA RB hA hB h
      go_enter Tryz.func33, Tryz.ntmps33
      go_upto_region 1 with fail
      change Code.wp _ _ _ _ (w.alloc (.cells zrow 26))
      rw [HW.out]
      go_wp2_with fail
      refine (HR.out.1 _).mono ?_
      rintro e w' ⟨rfl, rfl⟩
      go_wp2_with fail
      refine (HR.out.2 _).mono ?_
      rintro e w' ⟨rfl, rfl⟩
      go_wp2_with (refine wpList_store_row rfl 26 (.tmp 6) (.tmp 24) rfl w.heap.size zrow rfl rfl 26 _ hz infoz.out rfl zone ?_)
      refine bodyPost_ret (results_row_tmp rfl _ _ w.heap.size _ zrow _ _ rfl (setRow_heap _ _ _ _ _ _ hz) Tryz.underlying26 rfl infoz.out) rfl ?_
      exact ⟨rfl, Below.setRow' HB.out (Nat.le_refl _) _⟩
    · rw [Bool.not_eq_true] at hB
      rw [hB] at RB
      have HR := Lib.hid (And.intro RA RB)
      clear RA RB hA hB h
      go_enter Tryz.func33, Tryz.ntmps33
      go_upto_region 1 with fail
      change Code.wp _ _ _ _ (w.alloc (.cells zrow 26))
      rw [HW.out]
      go_wp2_with fail
      refine (HR.out.1 _).mono ?_
      rintro e w' ⟨rfl, rfl⟩
      go_wp2_with fail
      refine (HR.out.2 _).mono ?_
      rintro e w' ⟨rfl, rfl⟩
      go_wp2_with (refine wpList_store_row rfl 26 (.tmp 6) (.tmp 24) rfl w.heap.size zrow rfl rfl 26 _ hz infoz.out rfl zone ?_)
      refine bodyPost_ret (results_row_tmp rfl _ _ w.heap.size _ zrow _ _ rfl (setRow_heap _ _ _ _ _ _ hz) Tryz.underlying26 rfl infoz.out) rfl ?_
      exact ⟨rfl, Below.setRow' HB.out (Nat.le_refl _) _⟩
  · rw [Bool.not_eq_true] at hA
    rw [hA] at RA
    generalize rgt B = rb at *
    have HR := Lib.hid (And.intro RA RB)
    clear RA RB hA h
    go_enter Tryz.func33, Tryz.ntmps33
    go_upto_region 1 with fail
    change Code.wp _ _ _ _ (w.alloc (.cells zrow 26))
    rw [HW.out]
    go_wp2_with fail
    refine (HR.out.1 _).mono ?_
    rintro e w' ⟨rfl, rfl⟩
    go_wp2_with fail
    refine (HR.out.2 _).mono ?_
    rintro e w' ⟨rfl, rfl⟩
    go_wp2_with (refine wpList_store_row rfl 26 (.tmp 6) (.tmp 24) rfl w.heap.size zrow rfl rfl 26 _ hz infoz.out rfl zone ?_)
    refine bodyPost_ret (results_row_tmp rfl _ _ w.heap.size _ zrow _ _ rfl (setRow_heap _ _ _ _ _ _ hz) Tryz.underlying26 rfl infoz.out) rfl ?_
    exact ⟨rfl, Below.setRow' HB.out (Nat.le_refl _) _⟩
set_option maxRecDepth 100000 in
set_option maxHeartbeats 2000000 in
theorem rmake_yes (w : World) (g : Bool) (n d N : Nat) (hn : n < 256^N) (hd : d < 256^N) (h0 : d ≠ 0) (hN : N ≤ 1000000) :
    Calls Tryz.prog 33 #[.bool g, .string (NB n), .string (NB d)] w fun e w' => e = .returned (.tuple #[QV (mk g n d), .bool true]) ∧ Below w.heap.size w w' := by
  have RA := fun W => RefRight_any W (NB n)
  have RB := fun W => RefRight_any W (NB d)
  rw [NB_rgt] at RA RB
  have LW := fun W => lowest_q W g n d N hn hd h0 (by omega)
  have hne : ((NB d).toList == []) = false := str_ne (B := ⟨#[]⟩) rfl (fun h => h0 (NB_inj (h.trans NB_zero.symm)))
  have hs := z1_start w
  obtain ⟨W, hW⟩ : ∃ W, w.alloc (.cells zrow 26) = W := ⟨_, rfl⟩
  rw [hW] at hs
  have HW := Lib.hid hW; clear hW
  generalize mk g n d = q at *
  generalize NB n = A at *
  generalize NB d = B at *
  have HR := Lib.hid (And.intro RA (And.intro RB LW))
  have HS := Lib.hid hs
  clear RA RB LW hn hd h0 hs
  go_enter Tryz.func33, Tryz.ntmps33
  go_upto_region 1 with fail
  change Code.wp _ _ _ _ (w.alloc (.cells zrow 26))
  rw [HW.out]
  go_wp2_with fail
  refine (HR.out.1 _).mono ?_
  rintro e w' ⟨rfl, rfl⟩
  go_wp2_with fail
  refine (HR.out.2.1 _).mono ?_
  rintro e w' ⟨rfl, rfl⟩
  go_wp2_with fail
  refine (HR.out.2.2 _).mono ?_
  rintro e w1 ⟨rfl, b1⟩
  have H1 := Lib.hid (HS.out.next b1); clear b1
  have hz := H1.out.z
  unfold QV
  go_wp2_with (refine wpList_store_row rfl 26 (.tmp 6) (.tmp 28) rfl w.heap.size (qcells q) rfl rfl 26 _ hz info26.out rfl (qone _) ?_)
  refine bodyPost_ret (results_row_tmp rfl _ _ w.heap.size _ (qcells q) _ _ rfl (setRow_heap _ _ _ _ _ _ hz) Tryz.underlying26 rfl info26.out) rfl ?_
  exact ⟨rfl, Below.setRow' H1.out.b (Nat.le_refl _) _⟩
end Go.Proofs.YteccbedmpjeamaaGreatDoor
