/-
  The walk of the reference's Right: when keys are right.
  The walk of the reference's Verify.
-/
import Derived.Test.YtbfplapjjeeceaaGreatDoorBVfy
import Derived.Test.YtbfplapjjeeceaaGreatDoorWRefPts
import Derived.Test.YtbfplapjjeeceaaGreatDoorERefV
import Derived.Test.YtbfplapjjeeceaaGreatDoorBEval
import Derived.Test.YtbfplapjjeeceaaGreatDoorDRefA
namespace Go.Proofs.YtbfplapjjeeceaaGreatDoor.B9
open Go.RowKit GM SH G4 E6 D7P
open W8 hiding i64 jn pX pY
theorem rgt_few {C : List Int} {L : List (List Int)} (h : many L < 1) : ¬ rgt C L := fun r => by have := r.2.1; omega
theorem rgt_more {C : List Int} {L : List (List Int)} (h : 60 < many L) : ¬ rgt C L := fun r => by have := r.2.2.1; omega
open Classical in
set_option maxRecDepth 100000 in
set_option maxHeartbeats 4000000 in
theorem refRight_any (w : World) (p q : Option Addr) (n c m e : Nat) (C : List Int) (L : List (List Int)) (hC : SLi w (.slice p n c) C) (hL : LLi w (.slice q m e) L) (hm9 : m ≤ 1000000000) (hML : many L ≤ 1000000) :
    Calls Tryz.prog 47 #[.agg #[.slice p n c, .slice q m e]] w fun e w' => e = .returned (.bool (decide (rgt C L))) ∧ Below w.heap.size w w' := by
  obtain ⟨W, hW⟩ : ∃ W, w.alloc (.cells #[.slice p n c, .slice q m e] 41) = W := ⟨_, rfl⟩
  have K0 := (CK.start w).cells #[.slice p n c, .slice q m e] 41 _ rfl
  rw [hW] at K0
  have hnC : n = C.length := by obtain ⟨_, _, x1, _⟩ := hC.h; injection x1
  obtain ⟨hmL, hrow⟩ := lli_row hL
  have hn9 : n ≤ 1000000000 := by rw [hnC]; exact hC.n
  have hcc : ∀ k x, C[k]? = some x → ∃ b o, p = some ⟨b, o, none⟩ ∧ w.cell? ⟨b, o + k, none⟩ = some (.int .i64 x) := by
    obtain ⟨p', c', x1, x2⟩ := hC.h
    injection x1 with a1 a2 a3
    subst a1
    exact x2
  have HC := Lib.hid (And.intro hC (And.intro hmL (And.intro hrow (And.intro (K0.sub (M := [(⟨w.heap.size, 0, none⟩, .slice p n c)]) (Y := []) (by simp) (by simp)) (And.intro hnC (And.intro hcc (And.intro hML (K0.sub (M := [(⟨w.heap.size, 1, none⟩, .slice q m e)]) (Y := []) (by simp) (by simp)))))))))
  clear hC hmL hrow hL K0 hnC hcc hML
  have HT : ∀ k, k ≤ m → many (L.take k) ≤ 1000000 := fun k _ => Nat.le_trans (many_le L k) HC.out.2.2.2.2.2.2.1
  have HT2 := Lib.hid HT
  clear HT
  go_enter Tryz.func47, Tryz.ntmps47
  go_upto_region 1 with fail
  clear hW
  go_wp2_with fail
  go_loopw [3, 4] (fun a i wr => ∃ k A : Nat, k ≤ m ∧ a = .int .i64 (A : Int) ∧ i = .int .i64 (k : Int) ∧ wr = W ∧ Hid (A = many (L.take k) ∧ pfx L k)) (fun _ i _ => m - (match i with | .int _ i => i.toNat | _ => 0))
  case atStart => exact ⟨0, 0, Nat.zero_le _, rfl, rfl, rfl, Lib.hid ⟨by simp [many], fun i l hi => absurd hi (by omega)⟩⟩
  case round =>
    obtain ⟨k, A, hk, rfl, rfl, rfl, HQ⟩ := hrel
    have hA := HT2.out k hk
    rw [← HQ.out.1] at hA
    by_cases hlt : k < m
    · obtain ⟨l, hl⟩ : ∃ l, L[k]? = some l := ⟨L[k]'(by rw [← HC.out.2.1]; exact hlt), List.getElem?_eq_getElem _⟩
      obtain ⟨b, o, lp, lc, hq, hcu, hlx, hlr, hln⟩ := HC.out.2.2.1 k l hl
      subst hq
      have cu := (HC.out.2.2.2.1.b.cell (p := ⟨b, o + k, none⟩) (World.block_lt_of_cell? _ _ hcu)).trans hcu
      have c1 := HC.out.2.2.2.2.2.2.2.get ⟨w.heap.size, 1, none⟩ (.slice (some ⟨b, o, none⟩) m e) (by simp)
      have HL := Lib.hid (And.intro hl (And.intro hlx hlr))
      have hA2 := HT2.out (k+1) hlt
      rw [many_take L k l hl, ← HQ.out.1] at hA2
      obtain ⟨N, hN⟩ : ∃ N, l.length = N := ⟨_, rfl⟩
      rw [hN] at cu hln hA2
      have HN := Lib.hid hN
      clear hl hlx hlr hcu hN
      by_cases h0 : N = 0
      · subst h0
        have HR := Lib.hid (decide_eq_false (rgt_empty (C := C) (L := L) (k := k) (by rw [HL.out.1, List.length_eq_zero_iff.1 HN.out])))
        go_wp2
        go_ret
        exact ⟨by rw [HR.out]; rfl, HC.out.2.2.2.1.b⟩
      · have hN0 : ((N : Int) == 0) = false := by rw [beq_eq_false_iff_ne]; omega
        have CU := Lib.hid (And.intro cu c1)
        go_wp2_with fail
        clear cu hN0 c1
        go_loopw [3, 5] (fun a j wx => ∃ jj : Nat, jj ≤ N ∧ a = .int .i64 ((A : Int) + (jj : Int)) ∧ j = .int .i64 (jj : Int) ∧ wx = wr ∧ Hid (pfr L k l jj)) (fun _ j _ => N - (match j with | .int _ i => i.toNat | _ => 0))
        case atStart => exact ⟨0, Nat.zero_le _, by go_num, rfl, rfl, Lib.hid (fun i x hi => absurd hi (by omega))⟩
        case round =>
          obtain ⟨j, hj, rfl, rfl, rfl, HP⟩ := hrel
          have cu := CU.out.1
          have c1 := CU.out.2
          by_cases hjl : j < N
          · obtain ⟨x, hx⟩ : ∃ x, l[j]? = some x := ⟨l[j]'(by rw [HN.out]; exact hjl), List.getElem?_eq_getElem _⟩
            obtain ⟨b2, o2, hlp, hcx⟩ := HL.out.2.1 j x hx
            subst hlp
            have cx := (HC.out.2.2.2.1.b.cell (p := ⟨b2, o2 + j, none⟩) (World.block_lt_of_cell? _ _ hcx)).trans hcx
            have ix := HL.out.2.2 x (List.mem_of_getElem? hx)
            have HX := Lib.hid hx
            clear hx hcx
            by_cases hxe : x = (A : Int) + (j : Int) + 1
            · have HP2 := Lib.hid (pfr_next HP.out HX.out (by rw [← HQ.out.1]; exact hxe))
              subst hxe
              clear HP HX
              go_wp2
              exact ⟨⟨j + 1, by omega, by go_num, by go_num, by first | rfl | trivial, HP2⟩, by simp; omega⟩
            · have HR := Lib.hid (decide_eq_false (rgt_wrong (C := C) HL.out.1 HX.out (by rw [← HQ.out.1]; exact hxe)))
              have hxb : (x == (A : Int) + (j : Int) + 1) = false := by rw [beq_eq_false_iff_ne]; exact hxe
              go_wp2
              go_ret
              exact ⟨by rw [HR.out]; rfl, HC.out.2.2.2.1.b⟩
          · obtain rfl : j = N := by omega
            have HT := Lib.hid (show A + j = many (L.take (k+1)) ∧ pfx L (k+1) from ⟨by rw [many_take L k l HL.out.1, HN.out, HQ.out.1], pfx_row HQ.out.2 HL.out.1 (fun e => by rw [e] at HN; have := HN.out; simp at this; omega) (fun i x hx => HP.out i x (by rw [← HN.out]; exact (List.getElem?_eq_some_iff.1 hx).1) hx)⟩)
            clear HP HL HN HQ
            go_wp2
            go_roundw
            case rel => exact ⟨k + 1, A + j, by omega, by go_num, by go_num, by first | rfl | trivial, HT⟩
            case measure => (simp; try omega)
    · obtain rfl : k = m := by omega
      have hE : L.take k = L := List.take_of_length_le (by rw [HC.out.2.1]; exact Nat.le_refl _)
      rw [hE] at HQ
      have HPT := Lib.hid (show ptk L from pfx_all (by rw [← HC.out.2.1]; exact HQ.out.2))
      clear hE HT2
      have c1 := HC.out.2.2.2.2.2.2.2.get ⟨w.heap.size, 1, none⟩ (.slice q k e) (by simp)
      have ND : Hid (∀ W, Calls Tryz.prog 42 #[.int .i64 (A : Int)] W fun e w' => e = .returned (.int .i64 (ned (A : Int))) ∧ Below W.heap.size W w') := Lib.hid fun W => (refNeed_any W (A : Int) (ned (A : Int)) rfl ⟨by omega, by omega⟩ (by omega)).mono fun _ _ h => ⟨h.1, by rw [h.2]; exact Below.refl _ _⟩
      obtain ⟨nd, hnd⟩ : ∃ nd, ned (A : Int) = nd := ⟨_, rfl⟩
      rw [hnd] at ND
      have HF := Lib.hid hnd; clear hnd
      go_upto_region 13 with fail
      clear c1
      refine wp_region_held_drew (S := CK w [(⟨w.heap.size, 0, none⟩, .slice p n c)] []) (by kernel_rfl) HC.out.2.2.2.1.drew (fun hS => ?_)
      by_cases hA0 : A = 0
      · subst hA0
        have HR := Lib.hid (decide_eq_false (rgt_few (C := C) (L := L) (by have := HQ.out.1; omega)))
        refine wpAnyH_take (i := 0) (v := ?vra0) rfl (by kernel_rfl) (by kernel_rfl) (by kernel_rfl) (fun _ _ _ h => h) (Or.inl ⟨by rfl, ?yra0⟩) hS ?rra0
        case yra0 => (intro w hS; go_simp; try with_reducible rfl)
        go_simp
        refine wpAnyH_take (i := 1) (v := .bool true) rfl (by kernel_rfl) (by kernel_rfl) (by kernel_rfl) (fun _ _ _ h => h) (Or.inl ⟨by rfl, ?yra1⟩) hS ?rra1
        case yra1 => (intro w hS; go_simp; try with_reducible rfl)
        go_simp
        refine wpAnyH_take (i := 2) (v := ?vra2) rfl (by kernel_rfl) (by kernel_rfl) (by kernel_rfl) (fun _ _ _ h => h) (Or.inl ⟨by rfl, ?yra2⟩) hS ?rra2
        case yra2 => (intro w hS; go_simp; try with_reducible rfl)
        go_simp
        refine wpAnyH_take (i := 3) (v := undef) rfl (by kernel_rfl) (by kernel_rfl) (by kernel_rfl) (fun _ _ _ h => h) (Or.inr ⟨by rfl, rfl⟩) hS ?rra3
        go_simp
        refine wpAnyH_take (i := 4) (v := undef) rfl (by kernel_rfl) (by kernel_rfl) (by kernel_rfl) (fun _ _ _ h => h) (Or.inr ⟨by rfl, rfl⟩) hS ?rra4
        go_simp
        refine wpAnyH_take (i := 5) (v := ?vra5) rfl (by kernel_rfl) (by kernel_rfl) (by kernel_rfl) (fun _ _ _ h => h) (Or.inl ⟨by rfl, ?yra5⟩) hS ?rra5
        case yra5 => (intro w hS; go_simp; try with_reducible rfl)
        go_simp
        refine wpAnyH_take (i := 6) (v := ?vra6) rfl (by kernel_rfl) (by kernel_rfl) (by kernel_rfl) (fun _ _ _ h => h) (Or.inl ⟨by rfl, ?yra6⟩) hS ?rra6
        case yra6 => (intro w hS; go_simp; try with_reducible rfl)
        go_simp
        refine wpAnyH_take (i := 7) (v := undef) rfl (by kernel_rfl) (by kernel_rfl) (by kernel_rfl) (fun _ _ _ h => h) (Or.inr ⟨by rfl, rfl⟩) hS ?rra7
        refine wpAnyH_take (i := 10) (v := undef) rfl (by kernel_rfl) (by kernel_rfl) (by kernel_rfl) (fun _ _ _ h => h) (Or.inr ⟨by rfl, rfl⟩) hS ?rra10
        go_simp
        refine wpAnyH_take (i := 8) (v := undef) rfl (by kernel_rfl) (by kernel_rfl) (by kernel_rfl) (fun _ _ _ h => h) (Or.inr ⟨by rfl, rfl⟩) hS ?rra8
        refine wpAnyH_take (i := 11) (v := undef) rfl (by kernel_rfl) (by kernel_rfl) (by kernel_rfl) (fun _ _ _ h => h) (Or.inr ⟨by rfl, rfl⟩) hS ?rra11
        go_simp
        refine wpAnyH_take (i := 9) (v := undef) rfl (by kernel_rfl) (by kernel_rfl) (by kernel_rfl) (fun _ _ _ h => h) (Or.inr ⟨by rfl, rfl⟩) hS ?rra9
        go_simp
        refine wpAnyH_take (i := 12) (v := undef) rfl (by kernel_rfl) (by kernel_rfl) (by kernel_rfl) (fun _ _ _ h => h) (Or.inr ⟨by rfl, rfl⟩) hS ?rra12
        go_simp
        refine wpAnyH_take (i := 13) (v := ?vra13) rfl (by kernel_rfl) (by kernel_rfl) (by kernel_rfl) (fun _ _ _ h => h) (Or.inl ⟨by rfl, ?yra13⟩) hS ?rra13
        case yra13 => (intro w hS; go_simp; try with_reducible rfl)
        refine wpAnyH_done (by kernel_rfl) ?_ _
        go_wp2
        go_ret
        exact ⟨by rw [HR.out]; rfl, hS.b⟩
      · have hA1 : (0 : Int) < (A : Int) := by omega
        have hA2 : ((A : Int) < 1) = False := eq_false (by omega)
        by_cases h60 : 60 < A
        · have HR := Lib.hid (decide_eq_false (rgt_more (C := C) (L := L) (by have := HQ.out.1; omega)))
          have h61 : (60 : Int) < (A : Int) := by omega
          refine wpAnyH_take (i := 0) (v := ?vrb0) rfl (by kernel_rfl) (by kernel_rfl) (by kernel_rfl) (fun _ _ _ h => h) (Or.inl ⟨by rfl, ?yrb0⟩) hS ?rrb0
          case yrb0 => (intro w hS; go_simp; try with_reducible rfl)
          go_simp
          refine wpAnyH_take (i := 1) (v := .bool false) rfl (by kernel_rfl) (by kernel_rfl) (by kernel_rfl) (fun _ _ _ h => h) (Or.inl ⟨by rfl, ?yrb1⟩) hS ?rrb1
          case yrb1 => (intro w hS; go_simp; try with_reducible rfl)
          go_simp
          refine wpAnyH_take (i := 2) (v := ?vrb2) rfl (by kernel_rfl) (by kernel_rfl) (by kernel_rfl) (fun _ _ _ h => h) (Or.inl ⟨by rfl, ?yrb2⟩) hS ?rrb2
          case yrb2 => (intro w hS; go_simp; try with_reducible rfl)
          go_simp
          refine wpAnyH_take (i := 3) (v := ?vrb3) rfl (by kernel_rfl) (by kernel_rfl) (by kernel_rfl) (fun _ _ _ h => h) (Or.inl ⟨by rfl, ?yrb3⟩) hS ?rrb3
          case yrb3 => (intro w hS; go_simp; try with_reducible rfl)
          go_simp
          refine wpAnyH_take (i := 4) (v := .bool true) rfl (by kernel_rfl) (by kernel_rfl) (by kernel_rfl) (fun _ _ _ h => h) (Or.inl ⟨by rfl, ?yrb4⟩) hS ?rrb4
          case yrb4 => (intro w hS; go_simp; try with_reducible rfl)
          go_simp
          refine wpAnyH_take (i := 5) (v := ?vrb5) rfl (by kernel_rfl) (by kernel_rfl) (by kernel_rfl) (fun _ _ _ h => h) (Or.inl ⟨by rfl, ?yrb5⟩) hS ?rrb5
          case yrb5 => (intro w hS; go_simp; try with_reducible rfl)
          go_simp
          refine wpAnyH_take (i := 6) (v := ?vrb6) rfl (by kernel_rfl) (by kernel_rfl) (by kernel_rfl) (fun _ _ _ h => h) (Or.inl ⟨by rfl, ?yrb6⟩) hS ?rrb6
          case yrb6 => (intro w hS; go_simp; try with_reducible rfl)
          go_simp
          refine wpAnyH_take (i := 7) (v := undef) rfl (by kernel_rfl) (by kernel_rfl) (by kernel_rfl) (fun _ _ _ h => h) (Or.inr ⟨by rfl, rfl⟩) hS ?rrb7
          refine wpAnyH_take (i := 10) (v := undef) rfl (by kernel_rfl) (by kernel_rfl) (by kernel_rfl) (fun _ _ _ h => h) (Or.inr ⟨by rfl, rfl⟩) hS ?rrb10
          go_simp
          refine wpAnyH_take (i := 8) (v := undef) rfl (by kernel_rfl) (by kernel_rfl) (by kernel_rfl) (fun _ _ _ h => h) (Or.inr ⟨by rfl, rfl⟩) hS ?rrb8
          refine wpAnyH_take (i := 11) (v := undef) rfl (by kernel_rfl) (by kernel_rfl) (by kernel_rfl) (fun _ _ _ h => h) (Or.inr ⟨by rfl, rfl⟩) hS ?rrb11
          go_simp
          refine wpAnyH_take (i := 9) (v := undef) rfl (by kernel_rfl) (by kernel_rfl) (by kernel_rfl) (fun _ _ _ h => h) (Or.inr ⟨by rfl, rfl⟩) hS ?rrb9
          go_simp
          refine wpAnyH_take (i := 12) (v := undef) rfl (by kernel_rfl) (by kernel_rfl) (by kernel_rfl) (fun _ _ _ h => h) (Or.inr ⟨by rfl, rfl⟩) hS ?rrb12
          go_simp
          refine wpAnyH_take (i := 13) (v := ?vrb13) rfl (by kernel_rfl) (by kernel_rfl) (by kernel_rfl) (fun _ _ _ h => h) (Or.inl ⟨by rfl, ?yrb13⟩) hS ?rrb13
          case yrb13 => (intro w hS; go_simp; try with_reducible rfl)
          refine wpAnyH_done (by kernel_rfl) ?_ _
          go_wp2
          go_ret
          exact ⟨by rw [HR.out]; rfl, hS.b⟩
        · have h61 : ((60 : Int) < (A : Int)) = False := eq_false (by omega)
          by_cases hd : (n : Int) = nd
          · subst hd
            refine wpAnyH_take (i := 0) (v := ?vrd0) rfl (by kernel_rfl) (by kernel_rfl) (by kernel_rfl) (fun _ _ _ h => h) (Or.inl ⟨by rfl, ?yrd0⟩) hS ?rrd0
            case yrd0 => (intro w hS; go_simp; try with_reducible rfl)
            go_simp
            refine wpAnyH_take (i := 1) (v := .bool false) rfl (by kernel_rfl) (by kernel_rfl) (by kernel_rfl) (fun _ _ _ h => h) (Or.inl ⟨by rfl, ?yrd1⟩) hS ?rrd1
            case yrd1 => (intro w hS; go_simp; try with_reducible rfl)
            go_simp
            refine wpAnyH_take (i := 2) (v := ?vrd2) rfl (by kernel_rfl) (by kernel_rfl) (by kernel_rfl) (fun _ _ _ h => h) (Or.inl ⟨by rfl, ?yrd2⟩) hS ?rrd2
            case yrd2 => (intro w hS; go_simp; try with_reducible rfl)
            go_simp
            refine wpAnyH_take (i := 3) (v := ?vrd3) rfl (by kernel_rfl) (by kernel_rfl) (by kernel_rfl) (fun _ _ _ h => h) (Or.inl ⟨by rfl, ?yrd3⟩) hS ?rrd3
            case yrd3 => (intro w hS; go_simp; try with_reducible rfl)
            go_simp
            refine wpAnyH_take (i := 4) (v := .bool false) rfl (by kernel_rfl) (by kernel_rfl) (by kernel_rfl) (fun _ _ _ h => h) (Or.inl ⟨by rfl, ?yrd4⟩) hS ?rrd4
            case yrd4 => (intro w hS; go_simp; try with_reducible rfl)
            go_simp
            refine wpAnyH_take (i := 5) (v := ?vrd5) rfl (by kernel_rfl) (by kernel_rfl) (by kernel_rfl) (fun _ _ _ h => h) (Or.inl ⟨by rfl, ?yrd5⟩) hS ?rrd5
            case yrd5 => (intro w hS; go_simp; try with_reducible rfl)
            go_simp
            refine wpAnyH_take (i := 6) (v := ?vrd6) rfl (by kernel_rfl) (by kernel_rfl) (by kernel_rfl) (fun _ _ _ h => h) (Or.inl ⟨by rfl, ?yrd6⟩) hS ?rrd6
            case yrd6 => (intro w hS; go_simp; try with_reducible rfl)
            go_simp
            refine wpAnyH_take (i := 7) (v := ?vrd7) rfl (by kernel_rfl) (by kernel_rfl) (by kernel_rfl) (fun _ _ _ h => h) (Or.inl ⟨by rfl, ?yrd7⟩) hS ?rrd7
            case yrd7 => (intro w hS; go_simp; try with_reducible rfl)
            refine wpAnyH_take (i := 10) (v := ?vrd10) rfl (by kernel_rfl) (by kernel_rfl) (by kernel_rfl) (fun _ _ _ h => h) (Or.inl ⟨by rfl, ?yrd10⟩) hS ?rrd10
            case yrd10 => (intro w hS; go_simp; try with_reducible rfl)
            go_simp
            refine wpAnyH_take (i := 8) (v := .slice p n c) rfl (by kernel_rfl) (by kernel_rfl) (by kernel_rfl) (fun _ _ _ h => h) (Or.inl ⟨by rfl, ?yrd8⟩) hS ?rrd8
            case yrd8 => (intro w' hS; have cf := hS.get ⟨w.heap.size, 0, none⟩ (.slice p n c) (by simp); go_simp; try with_reducible rfl)
            go_simp
            refine wpAnyH_take (i := 9) (v := ?vrd9) rfl (by kernel_rfl) (by kernel_rfl) (by kernel_rfl) (fun _ _ _ h => h) (Or.inl ⟨by rfl, ?yrd9⟩) hS ?rrd9
            case yrd9 => (intro w hS; go_simp; try with_reducible rfl)
            go_simp
            refine wpAnyH_ready (rs := [11]) (by kernel_rfl) (by simp) ?_
            refine AllReadyH.cons (o := { dst := some 55, op := .call { callee := .value (.func 42), args := #[.tmp 54], argTypes := #[3] }, type := 3, pos := "ref.go:161", after := #[⟨10, .data⟩, ⟨6, .chain⟩, ⟨6, .guard⟩], guard := some (6, false) }) rfl (fun K hK => ?_) AllReadyH.nil
            go_simp
            go_at_call 42
            refine (ND.out _).mono ?_
            rintro e w' ⟨rfl, b⟩
            have hS2 := hS.next b
            clear b hS
            try go_simp
            refine hK.out _ _ hS2 (fun hS => ?_)
            clear hK K hS2
            refine wpAnyH_take (i := 12) (v := .bool false) rfl (by kernel_rfl) (by kernel_rfl) (by kernel_rfl) (fun _ _ _ h => h) (Or.inl ⟨by rfl, ?yrd12⟩) hS ?rrd12
            case yrd12 => (intro w hS; go_simp; try with_reducible rfl)
            go_simp
            refine wpAnyH_take (i := 13) (v := ?vrd13) rfl (by kernel_rfl) (by kernel_rfl) (by kernel_rfl) (fun _ _ _ h => h) (Or.inl ⟨by rfl, ?yrd13⟩) hS ?rrd13
            case yrd13 => (intro w hS; go_simp; try with_reducible rfl)
            refine wpAnyH_done (by kernel_rfl) ?_ _
            have HS := Lib.hid hS
            clear hS ND hA
            generalize World.drew wr = W9 at *
            have hCF := Lib.hid (show ptk L ∧ 1 ≤ many L ∧ many L ≤ 60 ∧ (C.length : Int) = ned (many L : Nat) from ⟨HPT.out, by have := HQ.out.1; omega, by have := HQ.out.1; omega, by rw [← HQ.out.1, HF.out, HC.out.2.2.2.2.1]⟩)
            have c0 := HS.out.get ⟨w.heap.size, 0, none⟩ (.slice p n c) (by simp)
            have hnC := Lib.hid HC.out.2.2.2.2.1
            go_wp2_with fail
            clear c0
            go_loopw [6] (fun i wr => ∃ k : Nat, k ≤ n ∧ i = .int .i64 (k : Int) ∧ Hid ((C.take k).all mem = true ∧ CK w [(⟨w.heap.size, 0, none⟩, .slice p n c)] [] wr)) (fun i _ => n - (match i with | .int _ i => i.toNat | _ => 0))
            case atStart => exact ⟨0, Nat.zero_le _, rfl, Lib.hid ⟨by simp, HS.out⟩⟩
            case round =>
              obtain ⟨j, hj, rfl, HY⟩ := hrel
              have c0 := HY.out.2.get ⟨w.heap.size, 0, none⟩ (.slice p n c) (by simp)
              by_cases hjl : j < n
              · obtain ⟨x, hx⟩ : ∃ x, C[j]? = some x := ⟨C[j]'(by rw [← hnC.out]; exact hjl), List.getElem?_eq_getElem _⟩
                obtain ⟨b, o, hp, hcx⟩ := HC.out.2.2.2.2.2.1 j x hx
                subst hp
                have cx := (HY.out.2.b.cell (p := ⟨b, o + j, none⟩) (World.block_lt_of_cell? _ _ hcx)).trans hcx
                have ix := HC.out.1.r x (List.mem_of_getElem? hx)
                cases hm : mem x with
                | true =>
                  have S := Lib.hid fun W => refMember_k W x true hm ix
                  have HY1 := Lib.hid (all_yes mem C j x hx HY.out.1 hm)
                  clear hx hcx hm
                  go_wp2_with fail
                  refine (S.out _).mono ?_
                  rintro e w1 ⟨rfl, b1⟩
                  have b1 := b1.symm
                  subst b1
                  have HB := Lib.hid (And.intro HY1.out HY.out.2); clear cx c0 HY
                  go_wp2
                  exact ⟨⟨j + 1, by omega, by go_num, HB⟩, by simp; omega⟩
                | false =>
                  have S := Lib.hid fun W => refMember_k W x false hm ix
                  have HE := Lib.hid (all_no mem C j x hx hm)
                  have HR := Lib.hid (decide_eq_false (show ¬ rgt C L from fun r => by have := r.2.2.2.2; rw [HE.out] at this; exact Bool.false_ne_true this))
                  clear hx hcx hm
                  go_wp2_with fail
                  refine (S.out _).mono ?_
                  rintro e w1 ⟨rfl, b1⟩
                  have b1 := b1.symm
                  subst b1
                  clear cx c0
                  go_wp2
                  go_ret
                  exact ⟨by rw [HR.out]; rfl, HY.out.2.b⟩
              · obtain rfl : j = n := by omega
                have HE := Lib.hid (show C.all mem = true by have := HY.out.1; rwa [List.take_of_length_le (by rw [← hnC.out]; exact Nat.le_refl _)] at this)
                have HR := Lib.hid (decide_eq_true (show rgt C L from ⟨hCF.out.1, hCF.out.2.1, hCF.out.2.2.1, hCF.out.2.2.2, HE.out⟩))
                go_wp2
                go_ret
                exact ⟨by rw [HR.out]; rfl, HY.out.2.b⟩
          · have hdb : ((n : Int) == nd) = false := by rw [beq_eq_false_iff_ne]; exact hd
            have HR := Lib.hid (decide_eq_false (show ¬ rgt C L from fun r => hd (by have := r.2.2.2.1; rw [← HQ.out.1, HF.out, ← HC.out.2.2.2.2.1] at this; exact this)))
            refine wpAnyH_take (i := 0) (v := ?vrc0) rfl (by kernel_rfl) (by kernel_rfl) (by kernel_rfl) (fun _ _ _ h => h) (Or.inl ⟨by rfl, ?yrc0⟩) hS ?rrc0
            case yrc0 => (intro w hS; go_simp; try with_reducible rfl)
            go_simp
            refine wpAnyH_take (i := 1) (v := .bool false) rfl (by kernel_rfl) (by kernel_rfl) (by kernel_rfl) (fun _ _ _ h => h) (Or.inl ⟨by rfl, ?yrc1⟩) hS ?rrc1
            case yrc1 => (intro w hS; go_simp; try with_reducible rfl)
            go_simp
            refine wpAnyH_take (i := 2) (v := ?vrc2) rfl (by kernel_rfl) (by kernel_rfl) (by kernel_rfl) (fun _ _ _ h => h) (Or.inl ⟨by rfl, ?yrc2⟩) hS ?rrc2
            case yrc2 => (intro w hS; go_simp; try with_reducible rfl)
            go_simp
            refine wpAnyH_take (i := 3) (v := ?vrc3) rfl (by kernel_rfl) (by kernel_rfl) (by kernel_rfl) (fun _ _ _ h => h) (Or.inl ⟨by rfl, ?yrc3⟩) hS ?rrc3
            case yrc3 => (intro w hS; go_simp; try with_reducible rfl)
            go_simp
            refine wpAnyH_take (i := 4) (v := .bool false) rfl (by kernel_rfl) (by kernel_rfl) (by kernel_rfl) (fun _ _ _ h => h) (Or.inl ⟨by rfl, ?yrc4⟩) hS ?rrc4
            case yrc4 => (intro w hS; go_simp; try with_reducible rfl)
            go_simp
            refine wpAnyH_take (i := 5) (v := ?vrc5) rfl (by kernel_rfl) (by kernel_rfl) (by kernel_rfl) (fun _ _ _ h => h) (Or.inl ⟨by rfl, ?yrc5⟩) hS ?rrc5
            case yrc5 => (intro w hS; go_simp; try with_reducible rfl)
            go_simp
            refine wpAnyH_take (i := 6) (v := ?vrc6) rfl (by kernel_rfl) (by kernel_rfl) (by kernel_rfl) (fun _ _ _ h => h) (Or.inl ⟨by rfl, ?yrc6⟩) hS ?rrc6
            case yrc6 => (intro w hS; go_simp; try with_reducible rfl)
            go_simp
            refine wpAnyH_take (i := 7) (v := ?vrc7) rfl (by kernel_rfl) (by kernel_rfl) (by kernel_rfl) (fun _ _ _ h => h) (Or.inl ⟨by rfl, ?yrc7⟩) hS ?rrc7
            case yrc7 => (intro w hS; go_simp; try with_reducible rfl)
            refine wpAnyH_take (i := 10) (v := ?vrc10) rfl (by kernel_rfl) (by kernel_rfl) (by kernel_rfl) (fun _ _ _ h => h) (Or.inl ⟨by rfl, ?yrc10⟩) hS ?rrc10
            case yrc10 => (intro w hS; go_simp; try with_reducible rfl)
            go_simp
            refine wpAnyH_take (i := 8) (v := .slice p n c) rfl (by kernel_rfl) (by kernel_rfl) (by kernel_rfl) (fun _ _ _ h => h) (Or.inl ⟨by rfl, ?yrc8⟩) hS ?rrc8
            case yrc8 => (intro w' hS; have cf := hS.get ⟨w.heap.size, 0, none⟩ (.slice p n c) (by simp); go_simp; try with_reducible rfl)
            go_simp
            refine wpAnyH_take (i := 9) (v := ?vrc9) rfl (by kernel_rfl) (by kernel_rfl) (by kernel_rfl) (fun _ _ _ h => h) (Or.inl ⟨by rfl, ?yrc9⟩) hS ?rrc9
            case yrc9 => (intro w hS; go_simp; try with_reducible rfl)
            go_simp
            refine wpAnyH_ready (rs := [11]) (by kernel_rfl) (by simp) ?_
            refine AllReadyH.cons (o := { dst := some 55, op := .call { callee := .value (.func 42), args := #[.tmp 54], argTypes := #[3] }, type := 3, pos := "ref.go:161", after := #[⟨10, .data⟩, ⟨6, .chain⟩, ⟨6, .guard⟩], guard := some (6, false) }) rfl (fun K hK => ?_) AllReadyH.nil
            go_simp
            go_at_call 42
            refine (ND.out _).mono ?_
            rintro e w' ⟨rfl, b⟩
            have hS2 := hS.next b
            clear b hS
            try go_simp
            refine hK.out _ _ hS2 (fun hS => ?_)
            clear hK K hS2
            refine wpAnyH_take (i := 12) (v := .bool true) rfl (by kernel_rfl) (by kernel_rfl) (by kernel_rfl) (fun _ _ _ h => h) (Or.inl ⟨by rfl, ?yrc12⟩) hS ?rrc12
            case yrc12 => (intro w hS; go_simp; try with_reducible rfl)
            go_simp
            refine wpAnyH_take (i := 13) (v := ?vrc13) rfl (by kernel_rfl) (by kernel_rfl) (by kernel_rfl) (fun _ _ _ h => h) (Or.inl ⟨by rfl, ?yrc13⟩) hS ?rrc13
            case yrc13 => (intro w hS; go_simp; try with_reducible rfl)
            refine wpAnyH_done (by kernel_rfl) ?_ _
            go_wp2
            go_ret
            exact ⟨by rw [HR.out]; rfl, hS.b⟩
end Go.Proofs.YtbfplapjjeeceaaGreatDoor.B9
namespace Go.Proofs.YtbfplapjjeeceaaGreatDoor.B9
open Go.RowKit GM SH G4 E6 D7P
open W8 hiding i64 jn pX pY
set_option maxRecDepth 100000 in
set_option maxHeartbeats 4000000 in
theorem rver_core (w : World) (p q : Option Addr) (n k m e : Nat) (r x v c z N a b : Int) (rt ok res : Bool) (h : res = (rt && (decide (1 ≤ x) && decide (x ≤ N) && ok)))
    (RI : Hid (∀ W, Below w.heap.size w W → Calls Tryz.prog 47 #[.agg #[.slice p n k, .slice q m e]] W fun e w' => e = .returned (.bool rt) ∧ Below W.heap.size W w'))
    (TO : Hid (∀ W, Below w.heap.size w W → Calls Tryz.prog 48 #[.agg #[.slice p n k, .slice q m e]] W fun e w' => e = .returned (.int .i64 N) ∧ Below W.heap.size W w'))
    (AT : Hid (∀ W, Below w.heap.size w W → Calls Tryz.prog 25 #[.slice p n k, .int .i64 x] W fun e w' => e = .returned (.int .i64 a) ∧ Below W.heap.size W w'))
    (BA : Hid (∀ W, Below w.heap.size w W → Calls Tryz.prog 13 #[.int .i64 r] W fun e w' => e = .returned (.int .i64 b) ∧ Below W.heap.size W w'))
    (VF : Hid (∀ W, Below w.heap.size w W → Calls Tryz.prog 49 #[.int .i64 4, .int .i64 a, .int .i64 b, .int .i64 v, .agg #[.int .i64 c, .int .i64 z]] W fun e w' => e = .returned (.bool ok) ∧ Below W.heap.size W w')) :
    Calls Tryz.prog 19 #[.agg #[.slice p n k, .slice q m e], .int .i64 r, .agg #[.int .i64 x, .int .i64 v, .int .i64 c, .int .i64 z]] w fun e w' => e = .returned (.bool res) ∧ Below w.heap.size w w' := by
  obtain ⟨W, hW⟩ : ∃ W, (w.alloc (.cells #[.slice p n k, .slice q m e] 41)).alloc (.cells #[.int .i64 x, .int .i64 v, .int .i64 c, .int .i64 z] 30) = W := ⟨_, rfl⟩
  have K0 : CK w [(⟨w.heap.size, 0, none⟩, .slice p n k), (⟨w.heap.size, 1, none⟩, .slice q m e), (⟨w.heap.size + 1, 0, none⟩, .int .i64 x), (⟨w.heap.size + 1, 1, none⟩, .int .i64 v), (⟨w.heap.size + 1, 2, none⟩, .int .i64 c), (⟨w.heap.size + 1, 3, none⟩, .int .i64 z)] [] W := by
    have := ((CK.start w).cells #[.slice p n k, .slice q m e] 41 _ rfl).cells #[.int .i64 x, .int .i64 v, .int .i64 c, .int .i64 z] 30 _ rfl
    rw [hW, World.size_alloc] at this
    exact this.sub (by simp) (by simp)
  have HR := Lib.hid h
  clear h
  go_enter Tryz.func19, Tryz.ntmps19
  go_upto_region 1 with fail
  clear hW
  have HK := Lib.hid K0; clear K0
  have c0 := HK.out.get ⟨w.heap.size, 0, none⟩ (.slice p n k) (by simp)
  have c1 := HK.out.get ⟨w.heap.size, 1, none⟩ (.slice q m e) (by simp)
  go_wp2_with fail
  refine (RI.out _ HK.out.b).mono ?_
  rintro e1 w1 ⟨rfl, b1⟩
  replace HK := Lib.hid (HK.out.next b1)
  clear b1 c0 c1 RI
  go_upto_region 2 with fail
  refine wp_region_held_drew (S := CK w [(⟨w.heap.size, 0, none⟩, .slice p n k), (⟨w.heap.size, 1, none⟩, .slice q m e), (⟨w.heap.size + 1, 0, none⟩, .int .i64 x), (⟨w.heap.size + 1, 1, none⟩, .int .i64 v), (⟨w.heap.size + 1, 2, none⟩, .int .i64 c), (⟨w.heap.size + 1, 3, none⟩, .int .i64 z)] []) (by kernel_rfl) HK.out.drew (fun hS => ?_)
  clear HK
  generalize World.drew w1 = w2 at *
  cases rt with
  | false =>
    obtain rfl : res = false := by rw [HR.out]; rfl
    clear HR
    refine wpAnyH_take (i := 0) (v := ?vra0) rfl (by kernel_rfl) (by kernel_rfl) (by kernel_rfl) (fun _ _ _ h => h) (Or.inl ⟨by rfl, ?yra0⟩) hS ?rra0
    case yra0 => (intro w hS; go_simp; try with_reducible rfl)
    go_simp
    refine wpAnyH_take (i := 1) (v := ?vra1) rfl (by kernel_rfl) (by kernel_rfl) (by kernel_rfl) (fun _ _ _ h => h) (Or.inl ⟨by rfl, ?yra1⟩) hS ?rra1
    case yra1 => (intro w hS; go_simp; try with_reducible rfl)
    go_simp
    refine wpAnyH_take (i := 2) (v := ?vra2) rfl (by kernel_rfl) (by kernel_rfl) (by kernel_rfl) (fun _ _ _ h => h) (Or.inl ⟨by rfl, ?yra2⟩) hS ?rra2
    case yra2 => (intro w hS; go_simp; try with_reducible rfl)
    go_simp
    refine wpAnyH_take (i := 3) (v := undef) rfl (by kernel_rfl) (by kernel_rfl) (by kernel_rfl) (fun _ _ _ h => h) (Or.inr ⟨by rfl, rfl⟩) hS ?rra3
    go_simp
    refine wpAnyH_take (i := 4) (v := undef) rfl (by kernel_rfl) (by kernel_rfl) (by kernel_rfl) (fun _ _ _ h => h) (Or.inr ⟨by rfl, rfl⟩) hS ?rra4
    go_simp
    refine wpAnyH_take (i := 5) (v := undef) rfl (by kernel_rfl) (by kernel_rfl) (by kernel_rfl) (fun _ _ _ h => h) (Or.inr ⟨by rfl, rfl⟩) hS ?rra5
    go_simp
    refine wpAnyH_take (i := 6) (v := ?vra6) rfl (by kernel_rfl) (by kernel_rfl) (by kernel_rfl) (fun _ _ _ h => h) (Or.inl ⟨by rfl, ?yra6⟩) hS ?rra6
    case yra6 => (intro w hS; go_simp; try with_reducible rfl)
    go_simp
    refine wpAnyH_take (i := 7) (v := ?vra7) rfl (by kernel_rfl) (by kernel_rfl) (by kernel_rfl) (fun _ _ _ h => h) (Or.inl ⟨by rfl, ?yra7⟩) hS ?rra7
    case yra7 => (intro w hS; go_simp; try with_reducible rfl)
    go_simp
    refine wpAnyH_take (i := 8) (v := undef) rfl (by kernel_rfl) (by kernel_rfl) (by kernel_rfl) (fun _ _ _ h => h) (Or.inr ⟨by rfl, rfl⟩) hS ?rra8
    refine wpAnyH_take (i := 10) (v := undef) rfl (by kernel_rfl) (by kernel_rfl) (by kernel_rfl) (fun _ _ _ h => h) (Or.inr ⟨by rfl, rfl⟩) hS ?rra10
    go_simp
    refine wpAnyH_take (i := 9) (v := undef) rfl (by kernel_rfl) (by kernel_rfl) (by kernel_rfl) (fun _ _ _ h => h) (Or.inr ⟨by rfl, rfl⟩) hS ?rra9
    refine wpAnyH_take (i := 11) (v := undef) rfl (by kernel_rfl) (by kernel_rfl) (by kernel_rfl) (fun _ _ _ h => h) (Or.inr ⟨by rfl, rfl⟩) hS ?rra11
    go_simp
    refine wpAnyH_take (i := 12) (v := undef) rfl (by kernel_rfl) (by kernel_rfl) (by kernel_rfl) (fun _ _ _ h => h) (Or.inr ⟨by rfl, rfl⟩) hS ?rra12
    go_simp
    refine wpAnyH_take (i := 13) (v := ?vra13) rfl (by kernel_rfl) (by kernel_rfl) (by kernel_rfl) (fun _ _ _ h => h) (Or.inl ⟨by rfl, ?yra13⟩) hS ?rra13
    case yra13 => (intro w hS; go_simp; try with_reducible rfl)
    refine wpAnyH_done (by kernel_rfl) ?_ _
    go_wp2
    go_ret
    exact ⟨rfl, hS.b⟩
  | true =>
    by_cases h1 : x < 1
    · obtain rfl : res = false := by rw [HR.out, decide_eq_false (show ¬ (1 ≤ x) by omega)]; rfl
      clear HR
      refine wpAnyH_take (i := 0) (v := ?vrb0) rfl (by kernel_rfl) (by kernel_rfl) (by kernel_rfl) (fun _ _ _ h => h) (Or.inl ⟨by rfl, ?yrb0⟩) hS ?rrb0
      case yrb0 => (intro w hS; go_simp; try with_reducible rfl)
      go_simp
      refine wpAnyH_take (i := 1) (v := ?vrb1) rfl (by kernel_rfl) (by kernel_rfl) (by kernel_rfl) (fun _ _ _ h => h) (Or.inl ⟨by rfl, ?yrb1⟩) hS ?rrb1
      case yrb1 => (intro w hS; go_simp; try with_reducible rfl)
      go_simp
      refine wpAnyH_take (i := 2) (v := ?vrb2) rfl (by kernel_rfl) (by kernel_rfl) (by kernel_rfl) (fun _ _ _ h => h) (Or.inl ⟨by rfl, ?yrb2⟩) hS ?rrb2
      case yrb2 => (intro w hS; go_simp; try with_reducible rfl)
      go_simp
      refine wpAnyH_take (i := 3) (v := ?vrb3) rfl (by kernel_rfl) (by kernel_rfl) (by kernel_rfl) (fun _ _ _ h => h) (Or.inl ⟨by rfl, ?yrb3⟩) hS ?rrb3
      case yrb3 => (intro w hS; go_simp; try with_reducible rfl)
      go_simp
      refine wpAnyH_take (i := 4) (v := .int .i64 x) rfl (by kernel_rfl) (by kernel_rfl) (by kernel_rfl) (fun _ _ _ h => h) (Or.inl ⟨by rfl, ?yrb4⟩) hS ?rrb4
      case yrb4 => (intro w' hS; have cf := hS.get ⟨w.heap.size + 1, 0, none⟩ (.int .i64 x) (by simp); go_simp; try with_reducible rfl)
      go_simp
      refine wpAnyH_take (i := 5) (v := .bool true) rfl (by kernel_rfl) (by kernel_rfl) (by kernel_rfl) (fun _ _ _ h => h) (Or.inl ⟨by rfl, ?yrb5⟩) hS ?rrb5
      case yrb5 => (intro w hS; go_simp; try with_reducible rfl)
      go_simp
      refine wpAnyH_take (i := 6) (v := ?vrb6) rfl (by kernel_rfl) (by kernel_rfl) (by kernel_rfl) (fun _ _ _ h => h) (Or.inl ⟨by rfl, ?yrb6⟩) hS ?rrb6
      case yrb6 => (intro w hS; go_simp; try with_reducible rfl)
      go_simp
      refine wpAnyH_take (i := 7) (v := ?vrb7) rfl (by kernel_rfl) (by kernel_rfl) (by kernel_rfl) (fun _ _ _ h => h) (Or.inl ⟨by rfl, ?yrb7⟩) hS ?rrb7
      case yrb7 => (intro w hS; go_simp; try with_reducible rfl)
      go_simp
      refine wpAnyH_take (i := 8) (v := undef) rfl (by kernel_rfl) (by kernel_rfl) (by kernel_rfl) (fun _ _ _ h => h) (Or.inr ⟨by rfl, rfl⟩) hS ?rrb8
      refine wpAnyH_take (i := 10) (v := undef) rfl (by kernel_rfl) (by kernel_rfl) (by kernel_rfl) (fun _ _ _ h => h) (Or.inr ⟨by rfl, rfl⟩) hS ?rrb10
      go_simp
      refine wpAnyH_take (i := 9) (v := undef) rfl (by kernel_rfl) (by kernel_rfl) (by kernel_rfl) (fun _ _ _ h => h) (Or.inr ⟨by rfl, rfl⟩) hS ?rrb9
      refine wpAnyH_take (i := 11) (v := undef) rfl (by kernel_rfl) (by kernel_rfl) (by kernel_rfl) (fun _ _ _ h => h) (Or.inr ⟨by rfl, rfl⟩) hS ?rrb11
      go_simp
      refine wpAnyH_take (i := 12) (v := undef) rfl (by kernel_rfl) (by kernel_rfl) (by kernel_rfl) (fun _ _ _ h => h) (Or.inr ⟨by rfl, rfl⟩) hS ?rrb12
      go_simp
      refine wpAnyH_take (i := 13) (v := ?vrb13) rfl (by kernel_rfl) (by kernel_rfl) (by kernel_rfl) (fun _ _ _ h => h) (Or.inl ⟨by rfl, ?yrb13⟩) hS ?rrb13
      case yrb13 => (intro w hS; go_simp; try with_reducible rfl)
      refine wpAnyH_done (by kernel_rfl) ?_ _
      go_wp2
      go_ret
      exact ⟨rfl, hS.b⟩
    · by_cases h2 : N < x
      · obtain rfl : res = false := by rw [HR.out, decide_eq_false (show ¬ (x ≤ N) by omega), Bool.and_false]; rfl
        clear HR
        refine wpAnyH_take (i := 0) (v := ?vrc0) rfl (by kernel_rfl) (by kernel_rfl) (by kernel_rfl) (fun _ _ _ h => h) (Or.inl ⟨by rfl, ?yrc0⟩) hS ?rrc0
        case yrc0 => (intro w hS; go_simp; try with_reducible rfl)
        go_simp
        refine wpAnyH_take (i := 1) (v := ?vrc1) rfl (by kernel_rfl) (by kernel_rfl) (by kernel_rfl) (fun _ _ _ h => h) (Or.inl ⟨by rfl, ?yrc1⟩) hS ?rrc1
        case yrc1 => (intro w hS; go_simp; try with_reducible rfl)
        go_simp
        refine wpAnyH_take (i := 2) (v := ?vrc2) rfl (by kernel_rfl) (by kernel_rfl) (by kernel_rfl) (fun _ _ _ h => h) (Or.inl ⟨by rfl, ?yrc2⟩) hS ?rrc2
        case yrc2 => (intro w hS; go_simp; try with_reducible rfl)
        go_simp
        refine wpAnyH_take (i := 3) (v := ?vrc3) rfl (by kernel_rfl) (by kernel_rfl) (by kernel_rfl) (fun _ _ _ h => h) (Or.inl ⟨by rfl, ?yrc3⟩) hS ?rrc3
        case yrc3 => (intro w hS; go_simp; try with_reducible rfl)
        go_simp
        refine wpAnyH_take (i := 4) (v := .int .i64 x) rfl (by kernel_rfl) (by kernel_rfl) (by kernel_rfl) (fun _ _ _ h => h) (Or.inl ⟨by rfl, ?yrc4⟩) hS ?rrc4
        case yrc4 => (intro w' hS; have cf := hS.get ⟨w.heap.size + 1, 0, none⟩ (.int .i64 x) (by simp); go_simp; try with_reducible rfl)
        go_simp
        refine wpAnyH_take (i := 5) (v := .bool false) rfl (by kernel_rfl) (by kernel_rfl) (by kernel_rfl) (fun _ _ _ h => h) (Or.inl ⟨by rfl, ?yrc5⟩) hS ?rrc5
        case yrc5 => (intro w hS; go_simp; try with_reducible rfl)
        go_simp
        refine wpAnyH_take (i := 6) (v := ?vrc6) rfl (by kernel_rfl) (by kernel_rfl) (by kernel_rfl) (fun _ _ _ h => h) (Or.inl ⟨by rfl, ?yrc6⟩) hS ?rrc6
        case yrc6 => (intro w hS; go_simp; try with_reducible rfl)
        go_simp
        refine wpAnyH_take (i := 7) (v := ?vrc7) rfl (by kernel_rfl) (by kernel_rfl) (by kernel_rfl) (fun _ _ _ h => h) (Or.inl ⟨by rfl, ?yrc7⟩) hS ?rrc7
        case yrc7 => (intro w hS; go_simp; try with_reducible rfl)
        go_simp
        refine wpAnyH_take (i := 8) (v := ?vrc8) rfl (by kernel_rfl) (by kernel_rfl) (by kernel_rfl) (fun _ _ _ h => h) (Or.inl ⟨by rfl, ?yrc8⟩) hS ?rrc8
        case yrc8 => (intro w hS; go_simp; try with_reducible rfl)
        refine wpAnyH_take (i := 10) (v := .agg #[.slice p n k, .slice q m e]) rfl (by kernel_rfl) (by kernel_rfl) (by kernel_rfl) (fun _ _ _ h => h) (Or.inl ⟨by rfl, ?yrc10⟩) hS ?rrc10
        case yrc10 => (intro w' hS; have cf := hS.get ⟨w.heap.size, 0, none⟩ (.slice p n k) (by simp); have cg1 := hS.get ⟨w.heap.size, 1, none⟩ (.slice q m e) (by simp); go_simp; try with_reducible rfl)
        go_simp
        refine wpAnyH_take (i := 9) (v := .int .i64 x) rfl (by kernel_rfl) (by kernel_rfl) (by kernel_rfl) (fun _ _ _ h => h) (Or.inl ⟨by rfl, ?yrc9⟩) hS ?rrc9
        case yrc9 => (intro w' hS; have cf := hS.get ⟨w.heap.size + 1, 0, none⟩ (.int .i64 x) (by simp); go_simp; try with_reducible rfl)
        go_simp
        refine wpAnyH_ready (rs := [11]) (by kernel_rfl) (by simp) ?_
        refine AllReadyH.cons (o := { dst := some 21, op := .call { callee := .value (.func 48), args := #[.tmp 20], argTypes := #[41] }, type := 3, pos := "ref.go:42", after := #[⟨10, .data⟩, ⟨7, .chain⟩, ⟨7, .guard⟩], guard := some (7, false) }) rfl (fun K hK => ?_) AllReadyH.nil
        go_simp
        go_at_call 48
        refine (TO.out _ hS.b).mono ?_
        rintro e w' ⟨rfl, b⟩
        have hS2 := hS.next b
        clear b hS
        try go_simp
        refine hK.out _ _ hS2 (fun hS => ?_)
        clear hK K hS2
        refine wpAnyH_take (i := 12) (v := .bool true) rfl (by kernel_rfl) (by kernel_rfl) (by kernel_rfl) (fun _ _ _ h => h) (Or.inl ⟨by rfl, ?yrc12⟩) hS ?rrc12
        case yrc12 => (intro w hS; go_simp; try with_reducible rfl)
        go_simp
        refine wpAnyH_take (i := 13) (v := ?vrc13) rfl (by kernel_rfl) (by kernel_rfl) (by kernel_rfl) (fun _ _ _ h => h) (Or.inl ⟨by rfl, ?yrc13⟩) hS ?rrc13
        case yrc13 => (intro w hS; go_simp; try with_reducible rfl)
        refine wpAnyH_done (by kernel_rfl) ?_ _
        go_wp2
        go_ret
        exact ⟨rfl, hS.b⟩
      · obtain rfl : res = ok := by rw [HR.out, decide_eq_true (show 1 ≤ x by omega), decide_eq_true (show x ≤ N by omega)]; rfl
        clear HR
        refine wpAnyH_take (i := 0) (v := ?vrd0) rfl (by kernel_rfl) (by kernel_rfl) (by kernel_rfl) (fun _ _ _ h => h) (Or.inl ⟨by rfl, ?yrd0⟩) hS ?rrd0
        case yrd0 => (intro w hS; go_simp; try with_reducible rfl)
        go_simp
        refine wpAnyH_take (i := 1) (v := ?vrd1) rfl (by kernel_rfl) (by kernel_rfl) (by kernel_rfl) (fun _ _ _ h => h) (Or.inl ⟨by rfl, ?yrd1⟩) hS ?rrd1
        case yrd1 => (intro w hS; go_simp; try with_reducible rfl)
        go_simp
        refine wpAnyH_take (i := 2) (v := ?vrd2) rfl (by kernel_rfl) (by kernel_rfl) (by kernel_rfl) (fun _ _ _ h => h) (Or.inl ⟨by rfl, ?yrd2⟩) hS ?rrd2
        case yrd2 => (intro w hS; go_simp; try with_reducible rfl)
        go_simp
        refine wpAnyH_take (i := 3) (v := ?vrd3) rfl (by kernel_rfl) (by kernel_rfl) (by kernel_rfl) (fun _ _ _ h => h) (Or.inl ⟨by rfl, ?yrd3⟩) hS ?rrd3
        case yrd3 => (intro w hS; go_simp; try with_reducible rfl)
        go_simp
        refine wpAnyH_take (i := 4) (v := .int .i64 x) rfl (by kernel_rfl) (by kernel_rfl) (by kernel_rfl) (fun _ _ _ h => h) (Or.inl ⟨by rfl, ?yrd4⟩) hS ?rrd4
        case yrd4 => (intro w' hS; have cf := hS.get ⟨w.heap.size + 1, 0, none⟩ (.int .i64 x) (by simp); go_simp; try with_reducible rfl)
        go_simp
        refine wpAnyH_take (i := 5) (v := .bool false) rfl (by kernel_rfl) (by kernel_rfl) (by kernel_rfl) (fun _ _ _ h => h) (Or.inl ⟨by rfl, ?yrd5⟩) hS ?rrd5
        case yrd5 => (intro w hS; go_simp; try with_reducible rfl)
        go_simp
        refine wpAnyH_take (i := 6) (v := ?vrd6) rfl (by kernel_rfl) (by kernel_rfl) (by kernel_rfl) (fun _ _ _ h => h) (Or.inl ⟨by rfl, ?yrd6⟩) hS ?rrd6
        case yrd6 => (intro w hS; go_simp; try with_reducible rfl)
        go_simp
        refine wpAnyH_take (i := 7) (v := ?vrd7) rfl (by kernel_rfl) (by kernel_rfl) (by kernel_rfl) (fun _ _ _ h => h) (Or.inl ⟨by rfl, ?yrd7⟩) hS ?rrd7
        case yrd7 => (intro w hS; go_simp; try with_reducible rfl)
        go_simp
        refine wpAnyH_take (i := 8) (v := ?vrd8) rfl (by kernel_rfl) (by kernel_rfl) (by kernel_rfl) (fun _ _ _ h => h) (Or.inl ⟨by rfl, ?yrd8⟩) hS ?rrd8
        case yrd8 => (intro w hS; go_simp; try with_reducible rfl)
        refine wpAnyH_take (i := 10) (v := .agg #[.slice p n k, .slice q m e]) rfl (by kernel_rfl) (by kernel_rfl) (by kernel_rfl) (fun _ _ _ h => h) (Or.inl ⟨by rfl, ?yrd10⟩) hS ?rrd10
        case yrd10 => (intro w' hS; have cf := hS.get ⟨w.heap.size, 0, none⟩ (.slice p n k) (by simp); have cg1 := hS.get ⟨w.heap.size, 1, none⟩ (.slice q m e) (by simp); go_simp; try with_reducible rfl)
        go_simp
        refine wpAnyH_take (i := 9) (v := .int .i64 x) rfl (by kernel_rfl) (by kernel_rfl) (by kernel_rfl) (fun _ _ _ h => h) (Or.inl ⟨by rfl, ?yrd9⟩) hS ?rrd9
        case yrd9 => (intro w' hS; have cf := hS.get ⟨w.heap.size + 1, 0, none⟩ (.int .i64 x) (by simp); go_simp; try with_reducible rfl)
        go_simp
        refine wpAnyH_ready (rs := [11]) (by kernel_rfl) (by simp) ?_
        refine AllReadyH.cons (o := { dst := some 21, op := .call { callee := .value (.func 48), args := #[.tmp 20], argTypes := #[41] }, type := 3, pos := "ref.go:42", after := #[⟨10, .data⟩, ⟨7, .chain⟩, ⟨7, .guard⟩], guard := some (7, false) }) rfl (fun K hK => ?_) AllReadyH.nil
        go_simp
        go_at_call 48
        refine (TO.out _ hS.b).mono ?_
        rintro e w' ⟨rfl, b⟩
        have hS2 := hS.next b
        clear b hS
        try go_simp
        refine hK.out _ _ hS2 (fun hS => ?_)
        clear hK K hS2
        refine wpAnyH_take (i := 12) (v := .bool false) rfl (by kernel_rfl) (by kernel_rfl) (by kernel_rfl) (fun _ _ _ h => h) (Or.inl ⟨by rfl, ?yrd12⟩) hS ?rrd12
        case yrd12 => (intro w hS; go_simp; try with_reducible rfl)
        go_simp
        refine wpAnyH_take (i := 13) (v := ?vrd13) rfl (by kernel_rfl) (by kernel_rfl) (by kernel_rfl) (fun _ _ _ h => h) (Or.inl ⟨by rfl, ?yrd13⟩) hS ?rrd13
        case yrd13 => (intro w hS; go_simp; try with_reducible rfl)
        refine wpAnyH_done (by kernel_rfl) ?_ _
        have HK := Lib.hid hS
        clear hS h1 h2 TO
        go_upto_region 4 with fail
        refine wp_region_held_drew (S := CK w [(⟨w.heap.size, 0, none⟩, .slice p n k), (⟨w.heap.size, 1, none⟩, .slice q m e), (⟨w.heap.size + 1, 0, none⟩, .int .i64 x), (⟨w.heap.size + 1, 1, none⟩, .int .i64 v), (⟨w.heap.size + 1, 2, none⟩, .int .i64 c), (⟨w.heap.size + 1, 3, none⟩, .int .i64 z)] []) (by kernel_rfl) HK.out.drew (fun hS => ?_)
        clear HK
        refine wpAnyH_take (i := 0) (v := ?vre0) rfl (by kernel_rfl) (by kernel_rfl) (by kernel_rfl) (fun _ _ _ h => h) (Or.inl ⟨by rfl, ?yre0⟩) hS ?rre0
        case yre0 => (intro w hS; go_simp; try with_reducible rfl)
        refine wpAnyH_take (i := 2) (v := ?vre2) rfl (by kernel_rfl) (by kernel_rfl) (by kernel_rfl) (fun _ _ _ h => h) (Or.inl ⟨by rfl, ?yre2⟩) hS ?rre2
        case yre2 => (intro w hS; go_simp; try with_reducible rfl)
        refine wpAnyH_take (i := 5) (v := ?vre5) rfl (by kernel_rfl) (by kernel_rfl) (by kernel_rfl) (fun _ _ _ h => h) (Or.inl ⟨by rfl, ?yre5⟩) hS ?rre5
        case yre5 => (intro w hS; go_simp; try with_reducible rfl)
        refine wpAnyH_take (i := 7) (v := ?vre7) rfl (by kernel_rfl) (by kernel_rfl) (by kernel_rfl) (fun _ _ _ h => h) (Or.inl ⟨by rfl, ?yre7⟩) hS ?rre7
        case yre7 => (intro w hS; go_simp; try with_reducible rfl)
        refine wpAnyH_take (i := 9) (v := ?vre9) rfl (by kernel_rfl) (by kernel_rfl) (by kernel_rfl) (fun _ _ _ h => h) (Or.inl ⟨by rfl, ?yre9⟩) hS ?rre9
        case yre9 => (intro w hS; go_simp; try with_reducible rfl)
        go_simp
        refine wpAnyH_take (i := 1) (v := .slice p n k) rfl (by kernel_rfl) (by kernel_rfl) (by kernel_rfl) (fun _ _ _ h => h) (Or.inl ⟨by rfl, ?yre1⟩) hS ?rre1
        case yre1 => (intro w' hS; have cf := hS.get ⟨w.heap.size, 0, none⟩ (.slice p n k) (by simp); go_simp; try with_reducible rfl)
        refine wpAnyH_take (i := 3) (v := .int .i64 x) rfl (by kernel_rfl) (by kernel_rfl) (by kernel_rfl) (fun _ _ _ h => h) (Or.inl ⟨by rfl, ?yre3⟩) hS ?rre3
        case yre3 => (intro w' hS; have cf := hS.get ⟨w.heap.size + 1, 0, none⟩ (.int .i64 x) (by simp); go_simp; try with_reducible rfl)
        refine wpAnyH_take (i := 8) (v := .int .i64 v) rfl (by kernel_rfl) (by kernel_rfl) (by kernel_rfl) (fun _ _ _ h => h) (Or.inl ⟨by rfl, ?yre8⟩) hS ?rre8
        case yre8 => (intro w' hS; have cf := hS.get ⟨w.heap.size + 1, 1, none⟩ (.int .i64 v) (by simp); go_simp; try with_reducible rfl)
        refine wpAnyH_take (i := 10) (v := .agg #[.int .i64 c, .int .i64 z]) rfl (by kernel_rfl) (by kernel_rfl) (by kernel_rfl) (fun _ _ _ h => h) (Or.inl ⟨by rfl, ?yre10⟩) hS ?rre10
        case yre10 => (intro w' hS; have cf := hS.get ⟨w.heap.size + 1, 2, none⟩ (.int .i64 c) (by simp); have cg1 := hS.get ⟨w.heap.size + 1, 3, none⟩ (.int .i64 z) (by simp); go_simp; try with_reducible rfl)
        go_simp
        refine wpAnyH_ready (rs := [4]) (by kernel_rfl) (by simp) ?_
        refine AllReadyH.cons (o := { dst := some 28, op := .call { callee := .value (.func 25), args := #[.tmp 25, .tmp 27], argTypes := #[34, 3] }, type := 3, pos := "ref.go:45", after := #[⟨1, .data⟩, ⟨3, .data⟩], guard := none }) rfl (fun K hK => ?_) AllReadyH.nil
        go_simp
        go_at_call 25
        refine (AT.out _ hS.b).mono ?_
        rintro e w' ⟨rfl, b⟩
        have hS2 := hS.next b
        clear b hS
        try go_simp
        refine hK.out _ _ hS2 (fun hS => ?_)
        clear hK K hS2
        refine wpAnyH_ready (rs := [6]) (by kernel_rfl) (by simp) ?_
        refine AllReadyH.cons (o := { dst := some 30, op := .call { callee := .value (.func 13), args := #[.tmp 29], argTypes := #[3] }, type := 3, pos := "ref.go:45", after := #[⟨5, .data⟩, ⟨4, .chain⟩], guard := none }) rfl (fun K hK => ?_) AllReadyH.nil
        go_simp
        go_at_call 13
        refine (BA.out _ hS.b).mono ?_
        rintro e w' ⟨rfl, b⟩
        have hS2 := hS.next b
        clear b hS
        try go_simp
        refine hK.out _ _ hS2 (fun hS => ?_)
        clear hK K hS2
        refine wpAnyH_ready (rs := [11]) (by kernel_rfl) (by simp) ?_
        refine AllReadyH.cons (o := { dst := some 35, op := .call { callee := .value (.func 49), args := #[.const (.int .i64 4), .tmp 28, .tmp 30, .tmp 32, .tmp 34], argTypes := #[3, 3, 3, 3, 28] }, type := 4, pos := "ref.go:45", after := #[⟨4, .data⟩, ⟨6, .data⟩, ⟨8, .data⟩, ⟨10, .data⟩, ⟨6, .chain⟩], guard := none }) rfl (fun K hK => ?_) AllReadyH.nil
        go_simp
        go_at_call 49
        refine (VF.out _ hS.b).mono ?_
        rintro e w' ⟨rfl, b⟩
        have hS2 := hS.next b
        clear b hS
        try go_simp
        refine hK.out _ _ hS2 (fun hS => ?_)
        clear hK K hS2
        refine wpAnyH_take (i := 12) (v := ?vre12) rfl (by kernel_rfl) (by kernel_rfl) (by kernel_rfl) (fun _ _ _ h => h) (Or.inl ⟨by rfl, ?yre12⟩) hS ?rre12
        case yre12 => (intro w hS; go_simp; try with_reducible rfl)
        refine wpAnyH_done (by kernel_rfl) ?_ _
        go_wp2
        go_ret
        exact ⟨rfl, hS.b⟩
/-- the reference accepts what the program accepts -/
theorem refVerify9 (w : World) (p q : Option Addr) (n k m e : Nat) (R : Int) (C : List Int) (L : List (List Int)) (s : Pa) (r : Bool) (hr : ver C L R s = r) (h : KY w p q n k m e C L) (hM : many L ≤ 1000000) (hR : i64 R) (hs : pi64 s) (hT : TS w) :
    Calls Tryz.prog 19 #[.agg #[.slice p n k, .slice q m e], .int .i64 R, pav s] w fun e w' => e = .returned (.bool r) ∧ Below w.heap.size w w' := by
  obtain ⟨x, v, c, z⟩ := s
  refine rver_core w p q n k m e R x v c z (many L : Nat) (D7.av C x) (bs R) _ (vf 4 (D7.av C x) (bs R) v c z) r (by rw [← hr]; rfl)
    (Lib.hid fun W b => refRight_any W p q n k m e C L (h.next b).c (h.next b).l h.m9 hM) (Lib.hid fun W b => total9 W p q n k m e L (h.next b).l (by omega) h.m9)
    (Lib.hid fun W b => D7.refAt_any W _ C x (slD (h.c.next b)) h.c.r hs.1 h.c.n) (Lib.hid fun W b => refBase_any W R _ rfl hR (hT.below b))
    (Lib.hid fun W b => refVerify_any W 4 (D7.av C x) (bs R) v c z ⟨by decide, by decide⟩ (D7.av_i64 C x) ⟨by have := bs_rng R; omega, by have := bs_rng R; omega⟩ hs.2.1 hs.2.2.2)
end Go.Proofs.YtbfplapjjeeceaaGreatDoor.B9
