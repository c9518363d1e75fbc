/-
  The walk of weight.Right: when keys are right.
-/
import Derived.Test.YtbfplapjjeeceaaGreatDoorBList
import Derived.Test.YtbfplapjjeeceaaGreatDoorBEval
import Derived.Test.YtbfplapjjeeceaaGreatDoorWPointsB
namespace Go.Proofs.YtbfplapjjeeceaaGreatDoor.B9
open Go.RowKit GM SH G4 E6 D7P
open W8 hiding i64 jn
theorem stranger_any (w : World) (a : Int) (r : Bool) (h : (!mem a) = r) (hn : i64 a) :
    Calls Tryz.prog 84 #[.int .i64 a] w fun e w' => e = .returned (.bool r) ∧ Below w.heap.size w w' := by
  have M := Lib.hid fun W => Member_any W a hn.1 hn.2
  have HM := Lib.hid h; clear h
  generalize mem a = b at *
  go_enter Tryz.func84, Tryz.ntmps84
  go_wp2_with fail
  refine (M.out _).mono ?_
  rintro e v ⟨rfl, hb⟩
  have HB := Lib.hid hb; clear hb M
  go_wp2
  go_ret
  exact ⟨by rw [← HM.out]; rfl, HB.out⟩
set_option maxRecDepth 100000 in
theorem index_any (w : World) (v : Value) (C : List Int) (hV : SLi w v C) :
    Calls Tryz.prog 112 #[v, .func (.func 84) #[] #[]] w fun e w' => (∃ i : Int, e = .returned (.int .i64 i) ∧ i64 i ∧ decide (0 ≤ i) = !C.all mem) ∧ Below w.heap.size w w' := by
  obtain ⟨⟨p, c, rfl, hc⟩, hr, hln⟩ := hV
  have HI := Lib.hid (And.intro hc hr); clear hc hr
  obtain ⟨N, hN⟩ : ∃ N, C.length = N := ⟨_, rfl⟩
  rw [hN] at hln ⊢
  have HN := Lib.hid hN; clear hN
  go_enter Tryz.func112, Tryz.ntmps112
  go_wp2_with fail
  go_loopw [8] (fun i wr => ∃ k : Nat, k ≤ N ∧ i = .int .i64 (k : Int) ∧ Hid ((C.take k).all mem = true ∧ Below w.heap.size w wr)) (fun i _ => N - (match i with | .int _ i => i.toNat | _ => 0))
  case atStart => exact ⟨0, Nat.zero_le _, rfl, Lib.hid ⟨by simp, Below.refl _ _⟩⟩
  case round =>
    obtain ⟨k, hk, rfl, HQ⟩ := hrel
    by_cases hlt : k < N
    · obtain ⟨x, hx⟩ : ∃ x, C[k]? = some x := ⟨C[k]'(by rw [HN.out]; exact hlt), List.getElem?_eq_getElem _⟩
      obtain ⟨b, o, hp, hcx⟩ := HI.out.1 k x hx
      subst hp
      have cx := (HQ.out.2.cell (p := ⟨b, o + k, none⟩) (World.block_lt_of_cell? _ _ hcx)).trans hcx
      have ix := HI.out.2 x (List.mem_of_getElem? hx)
      cases hm : mem x with
      | true =>
        have S := Lib.hid fun W => stranger_any W x false (by rw [hm]; rfl) ix
        have HY := Lib.hid (all_yes mem C k x hx HQ.out.1 hm)
        clear hx hcx hm
        go_wp2_with fail
        refine (S.out _).mono ?_
        rintro e w1 ⟨rfl, b1⟩
        have HB := Lib.hid (And.intro HY.out (HQ.out.2.trans (b1.mono HQ.out.2.size))); clear b1 cx HQ
        go_wp2
        exact ⟨⟨k + 1, by omega, by go_num, HB⟩, by simp; omega⟩
      | false =>
        have S := Lib.hid fun W => stranger_any W x true (by rw [hm]; rfl) ix
        have HE := Lib.hid (all_no mem C k x hx hm)
        clear hx hcx hm
        go_wp2_with fail
        refine (S.out _).mono ?_
        rintro e w1 ⟨rfl, b1⟩
        have HB := Lib.hid (HQ.out.2.trans (b1.mono HQ.out.2.size)); clear b1 cx HQ
        go_wp2
        go_ret
        exact ⟨⟨_, rfl, ⟨by omega, by omega⟩, by rw [HE.out]; simp⟩, HB.out⟩
    · obtain rfl : k = N := by omega
      have HE := Lib.hid (show C.all mem = true by have := HQ.out.1; rwa [List.take_of_length_le (by rw [HN.out]; exact Nat.le_refl _)] at this)
      go_wp2
      go_ret
      exact ⟨⟨-1, rfl, by decide, by rw [HE.out]; rfl⟩, HQ.out.2⟩
theorem contains_any (w : World) (v : Value) (C : List Int) (hV : SLi w v C) (r : Bool) (hr : (!C.all mem) = r) :
    Calls Tryz.prog 83 #[v, .func (.func 84) #[] #[]] w fun e w' => e = .returned (.bool r) ∧ Below w.heap.size w w' := by
  have I := Lib.hid (index_any w v C hV)
  rw [hr] at I
  clear hr hV
  go_enter Tryz.func83, Tryz.ntmps83
  go_wp2_with fail
  refine I.out.mono ?_
  rintro e w1 ⟨⟨i, rfl, hi, hd⟩, b1⟩
  have HB := Lib.hid (And.intro b1 hd); clear b1 hd I
  go_wp2
  go_ret
  exact ⟨by rw [← HB.out.2]; rfl, HB.out.1⟩
/-- keys are right -/
def rgt (C : List Int) (L : List (List Int)) : Prop := ptk L ∧ 1 ≤ many L ∧ many L ≤ 60 ∧ (C.length : Int) = ned (many L : Nat) ∧ C.all mem = true
/-- the first k rows are as they must be -/
def pfx (L : List (List Int)) (k : Nat) : Prop := ∀ i l, i < k → L[i]? = some l → l ≠ [] ∧ ∀ j x, l[j]? = some x → x = ((many (L.take i) + j + 1 : Nat) : Int)
theorem pfx_all {L : List (List Int)} (h : pfx L L.length) : ptk L :=
  ⟨fun k l hl => (h k l (List.getElem?_eq_some_iff.1 hl).1 hl).1, fun k l j x hl hx => (h k l (List.getElem?_eq_some_iff.1 hl).1 hl).2 j x hx⟩
theorem rgt_empty {C : List Int} {L : List (List Int)} {k : Nat} (h : L[k]? = some []) : ¬ rgt C L := fun r => r.1.1 k [] h rfl
theorem rgt_wrong {C : List Int} {L : List (List Int)} {k j : Nat} {l : List Int} {x : Int} (h : L[k]? = some l) (hx : l[j]? = some x) (hn : x ≠ (many (L.take k) : Int) + (j : Int) + 1) : ¬ rgt C L := fun r => hn (by rw [r.1.2 k l j x h hx]; omega)
theorem rgt_great {C : List Int} {L : List (List Int)} {k j : Nat} {l : List Int} {x : Int} (h : L[k]? = some l) (hx : l[j]? = some x) (hn : 60 < (many (L.take k) : Int) + (j : Int) + 1) : ¬ rgt C L := fun r => by
  have h1 := many_take L k l h
  have h2 := many_le L (k+1)
  have h3 := (List.getElem?_eq_some_iff.1 hx).1
  have h4 := r.2.2.1
  omega
theorem pfx_row {L : List (List Int)} {k : Nat} {l : List Int} (h : pfx L k) (hl : L[k]? = some l) (h0 : l ≠ []) (hx : ∀ j x, l[j]? = some x → x = ((many (L.take k) + j + 1 : Nat) : Int)) : pfx L (k+1) := fun i m hi hm => by
  by_cases e : i = k
  · subst e
    rw [hl] at hm
    injection hm with hm
    subst hm
    exact ⟨h0, hx⟩
  · exact h i m (by omega) hm
/-- the first j points of row k are as they must be -/
def pfr (L : List (List Int)) (k : Nat) (l : List Int) (j : Nat) : Prop := ∀ i x, i < j → l[i]? = some x → x = ((many (L.take k) + i + 1 : Nat) : Int)
theorem pfr_next {L : List (List Int)} {k : Nat} {l : List Int} {j : Nat} {x : Int} (h : pfr L k l j) (hx : l[j]? = some x) (e : x = (many (L.take k) : Int) + (j : Int) + 1) : pfr L k l (j+1) := fun i y hi hy => by
  by_cases e2 : i = j
  · subst e2
    rw [hx] at hy
    injection hy with hy
    subst hy
    omega
  · exact h i y (by omega) hy
theorem lli_row {w : World} {q : Option Addr} {m e : Nat} {L : List (List Int)} (h : LLi w (.slice q m e) L) : m = L.length ∧ ∀ k l, L[k]? = some l → ∃ b o lp lc, q = some ⟨b, o, none⟩ ∧ w.cell? ⟨b, o + k, none⟩ = some (.slice lp l.length lc) ∧ (∀ j x, l[j]? = some x → ∃ b2 o2, lp = some ⟨b2, o2, none⟩ ∧ w.cell? ⟨b2, o2 + j, none⟩ = some (.int .i64 x)) ∧ (∀ x ∈ l, i64 x) ∧ l.length ≤ 1000000000 := by
  obtain ⟨p', c', h1, h2⟩ := h
  injection h1 with a1 a2 a3
  subst a1 a2 a3
  refine ⟨rfl, fun k l hl => ?_⟩
  obtain ⟨b, o, u, hp, hc, hS⟩ := h2 k l hl
  obtain ⟨⟨lp, lc, e, hl2⟩, hr, hn⟩ := hS
  subst e
  exact ⟨b, o, lp, lc, hp, hc, hl2, hr, hn⟩
open Classical in
set_option maxRecDepth 100000 in
set_option maxHeartbeats 4000000 in
theorem Right_any (w : World) (p q : Option Addr) (n c m e : Nat) (C : List Int) (L : List (List Int)) (hC : SLi w (.slice p n c) C) (hL : LLi w (.slice q m e) L) (hm9 : m ≤ 1000000000) :
    Calls Tryz.prog 45 #[.agg #[.slice p n c, .slice q m e]] w fun e w' => e = .returned (.bool (decide (rgt C L))) ∧ Below w.heap.size w w' := by
  obtain ⟨W, hW⟩ : ∃ W, w.alloc (.cells #[.slice p n c, .slice q m e] 41) = W := ⟨_, rfl⟩
  have K0 := (CK.start w).cells #[.slice p n c, .slice q m e] 41 _ rfl
  rw [hW] at K0
  have c1 := K0.get ⟨w.heap.size, 1, none⟩ (.slice q m e) (by simp)
  have hnC : n = C.length := by obtain ⟨_, _, x1, _⟩ := hC.h; injection x1
  obtain ⟨hmL, hrow⟩ := lli_row hL
  have hn9 : n ≤ 1000000000 := by rw [hnC]; exact hC.n
  have HC := Lib.hid (And.intro hC (And.intro hmL (And.intro hrow (And.intro (K0.sub (M := [(⟨w.heap.size, 0, none⟩, .slice p n c)]) (Y := []) (by simp) (by simp)) hnC)))); clear hC hmL hrow hL K0 hnC
  go_enter Tryz.func45, Tryz.ntmps45
  go_upto_region 1 with fail
  clear hW
  go_wp2_with fail
  clear c1
  go_loopw [3, 11] (fun a i wr => ∃ k A : Nat, k ≤ m ∧ A ≤ 60 ∧ a = .int .i64 (A : Int) ∧ i = .int .i64 (k : Int) ∧ wr = W ∧ Hid (A = many (L.take k) ∧ pfx L k)) (fun _ i _ => m - (match i with | .int _ i => i.toNat | _ => 0))
  case atStart => exact ⟨0, 0, Nat.zero_le _, by omega, rfl, rfl, rfl, Lib.hid ⟨by simp [many], fun i l hi => absurd hi (by omega)⟩⟩
  case round =>
    obtain ⟨k, A, hk, hA, rfl, rfl, rfl, HQ⟩ := hrel
    by_cases hlt : k < m
    · obtain ⟨l, hl⟩ : ∃ l, L[k]? = some l := ⟨L[k]'(by rw [← HC.out.2.1]; exact hlt), List.getElem?_eq_getElem _⟩
      obtain ⟨b, o, lp, lc, hq, hcu, hlx, hlr, hln⟩ := HC.out.2.2.1 k l hl
      subst hq
      have cu := (HC.out.2.2.2.1.b.cell (p := ⟨b, o + k, none⟩) (World.block_lt_of_cell? _ _ hcu)).trans hcu
      have HL := Lib.hid (And.intro hl (And.intro hlx hlr))
      obtain ⟨N, hN⟩ : ∃ N, l.length = N := ⟨_, rfl⟩
      rw [hN] at cu hln
      have HN := Lib.hid hN
      clear hl hlx hlr hcu hN
      by_cases h0 : N = 0
      · subst h0
        have HR := Lib.hid (decide_eq_false (rgt_empty (C := C) (L := L) (k := k) (by rw [HL.out.1, List.length_eq_zero_iff.1 HN.out])))
        go_wp2
        go_ret
        exact ⟨by rw [HR.out]; rfl, HC.out.2.2.2.1.b⟩
      · have hN0 : ((N : Int) == 0) = false := by rw [beq_eq_false_iff_ne]; omega
        go_wp2_with fail
        clear cu hN0
        go_loopw [3, 20] (fun a j wx => ∃ jj : Nat, jj ≤ N ∧ A + jj ≤ 60 ∧ a = .int .i64 ((A : Int) + (jj : Int)) ∧ j = .int .i64 (jj : Int) ∧ wx = wr ∧ Hid (pfr L k l jj)) (fun _ j _ => N - (match j with | .int _ i => i.toNat | _ => 0))
        case atStart => exact ⟨0, Nat.zero_le _, by omega, by go_num, rfl, rfl, Lib.hid (fun i x hi => absurd hi (by omega))⟩
        case round =>
          obtain ⟨j, hj, hAj, rfl, rfl, rfl, HP⟩ := hrel
          by_cases hjl : j < N
          · obtain ⟨x, hx⟩ : ∃ x, l[j]? = some x := ⟨l[j]'(by rw [HN.out]; exact hjl), List.getElem?_eq_getElem _⟩
            obtain ⟨b2, o2, hlp, hcx⟩ := HL.out.2.1 j x hx
            subst hlp
            have cx := (HC.out.2.2.2.1.b.cell (p := ⟨b2, o2 + j, none⟩) (World.block_lt_of_cell? _ _ hcx)).trans hcx
            have ix := HL.out.2.2 x (List.mem_of_getElem? hx)
            have HX := Lib.hid hx
            clear hx hcx
            by_cases hxe : x = (A : Int) + (j : Int) + 1
            · by_cases hg : 60 < (A : Int) + (j : Int) + 1
              · have HR := Lib.hid (decide_eq_false (rgt_great (C := C) HL.out.1 HX.out (by rw [← HQ.out.1]; exact hg)))
                subst hxe
                go_wp2
                go_ret
                exact ⟨by rw [HR.out]; rfl, HC.out.2.2.2.1.b⟩
              · have HP2 := Lib.hid (pfr_next HP.out HX.out (by rw [← HQ.out.1]; exact hxe))
                subst hxe
                clear HP HX
                go_wp2
                exact ⟨⟨j + 1, by omega, by omega, by go_num, by go_num, by first | rfl | trivial, HP2⟩, by simp; omega⟩
            · have HR := Lib.hid (decide_eq_false (rgt_wrong (C := C) HL.out.1 HX.out (by rw [← HQ.out.1]; exact hxe)))
              have hxb : (x == (A : Int) + (j : Int) + 1) = false := by rw [beq_eq_false_iff_ne]; exact hxe
              go_wp2
              go_ret
              exact ⟨by rw [HR.out]; rfl, HC.out.2.2.2.1.b⟩
          · obtain rfl : j = N := by omega
            have HT := Lib.hid (show A + j = many (L.take (k+1)) ∧ pfx L (k+1) from ⟨by rw [many_take L k l HL.out.1, HN.out, HQ.out.1], pfx_row HQ.out.2 HL.out.1 (fun e => by rw [e] at HN; have := HN.out; simp at this; omega) (fun i x hx => HP.out i x (by rw [← HN.out]; exact (List.getElem?_eq_some_iff.1 hx).1) hx)⟩)
            clear HP HL HN HQ
            go_wp2
            go_roundw
            case rel => exact ⟨k + 1, A + j, by omega, by omega, by go_num, by go_num, by first | rfl | trivial, HT⟩
            case measure => (simp; try omega)
    · obtain rfl : k = m := by omega
      have hE : L.take k = L := List.take_of_length_le (by rw [HC.out.2.1]; exact Nat.le_refl _)
      rw [hE] at HQ
      have HPT := Lib.hid (show ptk L from pfx_all (by rw [← HC.out.2.1]; exact HQ.out.2))
      clear hE
      have ND : Hid (∀ W, Calls Tryz.prog 82 #[.int .i64 (A : Int)] W fun e w' => e = .returned (.int .i64 (ned (A : Int))) ∧ Below W.heap.size W w') := Lib.hid fun W => (Need_any W (A : Int) (ned (A : Int)) rfl ⟨by omega, by omega⟩).mono fun _ _ h => ⟨h.1, by rw [h.2]; exact Below.refl _ _⟩
      have CF : Hid (∀ W, Below w.heap.size w W → Calls Tryz.prog 83 #[.slice p n c, .func (.func 84) #[] #[]] W fun e w' => e = .returned (.bool (!C.all mem)) ∧ Below W.heap.size W w') := Lib.hid fun W b => contains_any W (.slice p n c) C (HC.out.1.next b) (!C.all mem) rfl
      obtain ⟨am, ham⟩ : ∃ am, C.all mem = am := ⟨_, rfl⟩
      rw [ham] at CF
      obtain ⟨nd, hnd⟩ : ∃ nd, ned (A : Int) = nd := ⟨_, rfl⟩
      rw [hnd] at ND
      have HF := Lib.hid (And.intro ham hnd); clear ham hnd
      go_upto_region 15 with fail
      refine wp_region_held_drew (S := CK w [(⟨w.heap.size, 0, none⟩, .slice p n c)] []) (by kernel_rfl) HC.out.2.2.2.1.drew (fun hS => ?_)
      by_cases hA0 : A = 0
      · subst hA0
        have HR := Lib.hid (decide_eq_false (show ¬ rgt C L from fun r => by have := r.2.1; have := HQ.out.1; omega))
        refine wpAnyH_take (i := 0) (v := ?vra0) rfl (by kernel_rfl) (by kernel_rfl) (by kernel_rfl) (fun _ _ _ h => h) (Or.inl ⟨by rfl, ?yra0⟩) hS ?rra0
        case yra0 => (intro w hS; go_simp; try with_reducible rfl)
        go_simp
        refine wpAnyH_take (i := 1) (v := .bool false) rfl (by kernel_rfl) (by kernel_rfl) (by kernel_rfl) (fun _ _ _ h => h) (Or.inl ⟨by rfl, ?yra1⟩) hS ?rra1
        case yra1 => (intro w hS; go_simp; try with_reducible rfl)
        go_simp
        refine wpAnyH_take (i := 2) (v := ?vra2) rfl (by kernel_rfl) (by kernel_rfl) (by kernel_rfl) (fun _ _ _ h => h) (Or.inl ⟨by rfl, ?yra2⟩) hS ?rra2
        case yra2 => (intro w hS; go_simp; try with_reducible rfl)
        go_simp
        refine wpAnyH_take (i := 3) (v := undef) rfl (by kernel_rfl) (by kernel_rfl) (by kernel_rfl) (fun _ _ _ h => h) (Or.inr ⟨by rfl, rfl⟩) hS ?rra3
        refine wpAnyH_take (i := 6) (v := undef) rfl (by kernel_rfl) (by kernel_rfl) (by kernel_rfl) (fun _ _ _ h => h) (Or.inr ⟨by rfl, rfl⟩) hS ?rra6
        go_simp
        refine wpAnyH_take (i := 4) (v := undef) rfl (by kernel_rfl) (by kernel_rfl) (by kernel_rfl) (fun _ _ _ h => h) (Or.inr ⟨by rfl, rfl⟩) hS ?rra4
        refine wpAnyH_take (i := 7) (v := undef) rfl (by kernel_rfl) (by kernel_rfl) (by kernel_rfl) (fun _ _ _ h => h) (Or.inr ⟨by rfl, rfl⟩) hS ?rra7
        go_simp
        refine wpAnyH_take (i := 5) (v := undef) rfl (by kernel_rfl) (by kernel_rfl) (by kernel_rfl) (fun _ _ _ h => h) (Or.inr ⟨by rfl, rfl⟩) hS ?rra5
        go_simp
        refine wpAnyH_take (i := 8) (v := undef) rfl (by kernel_rfl) (by kernel_rfl) (by kernel_rfl) (fun _ _ _ h => h) (Or.inr ⟨by rfl, rfl⟩) hS ?rra8
        go_simp
        refine wpAnyH_take (i := 9) (v := ?vra9) rfl (by kernel_rfl) (by kernel_rfl) (by kernel_rfl) (fun _ _ _ h => h) (Or.inl ⟨by rfl, ?yra9⟩) hS ?rra9
        case yra9 => (intro w hS; go_simp; try with_reducible rfl)
        go_simp
        refine wpAnyH_take (i := 10) (v := ?vra10) rfl (by kernel_rfl) (by kernel_rfl) (by kernel_rfl) (fun _ _ _ h => h) (Or.inl ⟨by rfl, ?yra10⟩) hS ?rra10
        case yra10 => (intro w hS; go_simp; try with_reducible rfl)
        go_simp
        refine wpAnyH_take (i := 11) (v := undef) rfl (by kernel_rfl) (by kernel_rfl) (by kernel_rfl) (fun _ _ _ h => h) (Or.inr ⟨by rfl, rfl⟩) hS ?rra11
        go_simp
        refine wpAnyH_take (i := 12) (v := undef) rfl (by kernel_rfl) (by kernel_rfl) (by kernel_rfl) (fun _ _ _ h => h) (Or.inr ⟨by rfl, rfl⟩) hS ?rra12
        go_simp
        refine wpAnyH_take (i := 13) (v := undef) rfl (by kernel_rfl) (by kernel_rfl) (by kernel_rfl) (fun _ _ _ h => h) (Or.inr ⟨by rfl, rfl⟩) hS ?rra13
        go_simp
        refine wpAnyH_take (i := 14) (v := undef) rfl (by kernel_rfl) (by kernel_rfl) (by kernel_rfl) (fun _ _ _ h => h) (Or.inr ⟨by rfl, rfl⟩) hS ?rra14
        go_simp
        refine wpAnyH_take (i := 15) (v := ?vra15) rfl (by kernel_rfl) (by kernel_rfl) (by kernel_rfl) (fun _ _ _ h => h) (Or.inl ⟨by rfl, ?yra15⟩) hS ?rra15
        case yra15 => (intro w hS; go_simp; try with_reducible rfl)
        go_simp
        refine wpAnyH_take (i := 16) (v := ?vra16) rfl (by kernel_rfl) (by kernel_rfl) (by kernel_rfl) (fun _ _ _ h => h) (Or.inl ⟨by rfl, ?yra16⟩) hS ?rra16
        case yra16 => (intro w hS; go_simp; try with_reducible rfl)
        refine wpAnyH_done (by kernel_rfl) ?_ _
        go_wp2
        go_ret
        exact ⟨by rw [HR.out]; rfl, hS.b⟩
      · have hA1 : (0 : Int) < (A : Int) := by omega
        have hA2 : 0 < A := by omega
        by_cases hd : (n : Int) = nd
        · subst hd
          have HR := Lib.hid (show decide (rgt C L) = am from by
            rw [← HF.out.1]
            cases h : C.all mem
            · exact decide_eq_false (fun r => by have h9 := r.2.2.2.2; rw [h] at h9; exact Bool.false_ne_true h9)
            · exact decide_eq_true ⟨HPT.out, by have := HQ.out.1; omega, by have := HQ.out.1; omega, by rw [← HQ.out.1, HF.out.2, HC.out.2.2.2.2], h⟩)
          refine wpAnyH_take (i := 0) (v := ?vrc0) rfl (by kernel_rfl) (by kernel_rfl) (by kernel_rfl) (fun _ _ _ h => h) (Or.inl ⟨by rfl, ?yrc0⟩) hS ?rrc0
          case yrc0 => (intro w hS; go_simp; try with_reducible rfl)
          go_simp
          refine wpAnyH_take (i := 1) (v := .bool true) rfl (by kernel_rfl) (by kernel_rfl) (by kernel_rfl) (fun _ _ _ h => h) (Or.inl ⟨by rfl, ?yrc1⟩) hS ?rrc1
          case yrc1 => (intro w hS; go_simp; try with_reducible rfl)
          go_simp
          refine wpAnyH_take (i := 2) (v := ?vrc2) rfl (by kernel_rfl) (by kernel_rfl) (by kernel_rfl) (fun _ _ _ h => h) (Or.inl ⟨by rfl, ?yrc2⟩) hS ?rrc2
          case yrc2 => (intro w hS; go_simp; try with_reducible rfl)
          go_simp
          refine wpAnyH_take (i := 3) (v := ?vrc3) rfl (by kernel_rfl) (by kernel_rfl) (by kernel_rfl) (fun _ _ _ h => h) (Or.inl ⟨by rfl, ?yrc3⟩) hS ?rrc3
          case yrc3 => (intro w hS; go_simp; try with_reducible rfl)
          refine wpAnyH_take (i := 6) (v := ?vrc6) rfl (by kernel_rfl) (by kernel_rfl) (by kernel_rfl) (fun _ _ _ h => h) (Or.inl ⟨by rfl, ?yrc6⟩) hS ?rrc6
          case yrc6 => (intro w hS; go_simp; try with_reducible rfl)
          go_simp
          refine wpAnyH_take (i := 4) (v := .slice p n c) rfl (by kernel_rfl) (by kernel_rfl) (by kernel_rfl) (fun _ _ _ h => h) (Or.inl ⟨by rfl, ?yrc4⟩) hS ?rrc4
          case yrc4 => (intro w' hS; have cf := hS.get ⟨w.heap.size, 0, none⟩ (.slice p n c) (by simp); go_simp; try with_reducible rfl)
          go_simp
          refine wpAnyH_take (i := 5) (v := ?vrc5) rfl (by kernel_rfl) (by kernel_rfl) (by kernel_rfl) (fun _ _ _ h => h) (Or.inl ⟨by rfl, ?yrc5⟩) hS ?rrc5
          case yrc5 => (intro w hS; go_simp; try with_reducible rfl)
          go_simp
          refine wpAnyH_ready (rs := [7]) (by kernel_rfl) (by simp) ?_
          refine AllReadyH.cons (o := { dst := some 42, op := .call { callee := .value (.func 82), args := #[.tmp 41], argTypes := #[3] }, type := 3, pos := "keys.go:26", after := #[⟨6, .data⟩, ⟨2, .chain⟩, ⟨2, .guard⟩], guard := some (2, true) }) rfl (fun K hK => ?_) AllReadyH.nil
          go_simp
          go_at_call 82
          refine (ND.out _).mono ?_
          rintro e w' ⟨rfl, b⟩
          have hS2 := hS.next b
          clear b hS
          try go_simp
          refine hK.out _ _ hS2 (fun hS => ?_)
          clear hK K hS2
          refine wpAnyH_take (i := 8) (v := .bool true) rfl (by kernel_rfl) (by kernel_rfl) (by kernel_rfl) (fun _ _ _ h => h) (Or.inl ⟨by rfl, ?yrc8⟩) hS ?rrc8
          case yrc8 => (intro w hS; go_simp; try with_reducible rfl)
          go_simp
          refine wpAnyH_take (i := 9) (v := ?vrc9) rfl (by kernel_rfl) (by kernel_rfl) (by kernel_rfl) (fun _ _ _ h => h) (Or.inl ⟨by rfl, ?yrc9⟩) hS ?rrc9
          case yrc9 => (intro w hS; go_simp; try with_reducible rfl)
          go_simp
          refine wpAnyH_take (i := 10) (v := ?vrc10) rfl (by kernel_rfl) (by kernel_rfl) (by kernel_rfl) (fun _ _ _ h => h) (Or.inl ⟨by rfl, ?yrc10⟩) hS ?rrc10
          case yrc10 => (intro w hS; go_simp; try with_reducible rfl)
          go_simp
          refine wpAnyH_take (i := 11) (v := ?vrc11) rfl (by kernel_rfl) (by kernel_rfl) (by kernel_rfl) (fun _ _ _ h => h) (Or.inl ⟨by rfl, ?yrc11⟩) hS ?rrc11
          case yrc11 => (intro w hS; go_simp; try with_reducible rfl)
          go_simp
          refine wpAnyH_take (i := 12) (v := .slice p n c) rfl (by kernel_rfl) (by kernel_rfl) (by kernel_rfl) (fun _ _ _ h => h) (Or.inl ⟨by rfl, ?yrc12⟩) hS ?rrc12
          case yrc12 => (intro w' hS; have cf := hS.get ⟨w.heap.size, 0, none⟩ (.slice p n c) (by simp); go_simp; try with_reducible rfl)
          go_simp
          refine wpAnyH_ready (rs := [13]) (by kernel_rfl) (by simp) ?_
          refine AllReadyH.cons (o := { dst := some 48, op := .call { callee := .value (.func 83), args := #[.tmp 47, .func 84], argTypes := #[34, 69] }, type := 4, pos := "keys.go:26", after := #[⟨12, .data⟩, ⟨10, .chain⟩, ⟨10, .guard⟩], guard := some (10, true) }) rfl (fun K hK => ?_) AllReadyH.nil
          go_simp
          go_at_call 83
          refine (CF.out _ hS.b).mono ?_
          rintro e w' ⟨rfl, b⟩
          have hS2 := hS.next b
          clear b hS
          try go_simp
          refine hK.out _ _ hS2 (fun hS => ?_)
          clear hK K hS2
          refine wpAnyH_take (i := 14) (v := ?vrc14) rfl (by kernel_rfl) (by kernel_rfl) (by kernel_rfl) (fun _ _ _ h => h) (Or.inl ⟨by rfl, ?yrc14⟩) hS ?rrc14
          case yrc14 => (intro w hS; go_simp; try with_reducible rfl)
          go_simp
          refine wpAnyH_take (i := 15) (v := ?vrc15) rfl (by kernel_rfl) (by kernel_rfl) (by kernel_rfl) (fun _ _ _ h => h) (Or.inl ⟨by rfl, ?yrc15⟩) hS ?rrc15
          case yrc15 => (intro w hS; go_simp; try with_reducible rfl)
          go_simp
          refine wpAnyH_take (i := 16) (v := ?vrc16) rfl (by kernel_rfl) (by kernel_rfl) (by kernel_rfl) (fun _ _ _ h => h) (Or.inl ⟨by rfl, ?yrc16⟩) hS ?rrc16
          case yrc16 => (intro w hS; go_simp; try with_reducible rfl)
          refine wpAnyH_done (by kernel_rfl) ?_ _
          go_wp2
          go_ret
          exact ⟨by rw [HR.out]; rfl, hS.b⟩
        · have hdb : ((n : Int) == nd) = false := by rw [beq_eq_false_iff_ne]; exact hd
          have HR := Lib.hid (decide_eq_false (show ¬ rgt C L from fun r => hd (by have := r.2.2.2.1; rw [← HQ.out.1, HF.out.2, ← HC.out.2.2.2.2] at this; exact this)))
          refine wpAnyH_take (i := 0) (v := ?vrb0) rfl (by kernel_rfl) (by kernel_rfl) (by kernel_rfl) (fun _ _ _ h => h) (Or.inl ⟨by rfl, ?yrb0⟩) hS ?rrb0
          case yrb0 => (intro w hS; go_simp; try with_reducible rfl)
          go_simp
          refine wpAnyH_take (i := 1) (v := .bool true) rfl (by kernel_rfl) (by kernel_rfl) (by kernel_rfl) (fun _ _ _ h => h) (Or.inl ⟨by rfl, ?yrb1⟩) hS ?rrb1
          case yrb1 => (intro w hS; go_simp; try with_reducible rfl)
          go_simp
          refine wpAnyH_take (i := 2) (v := ?vrb2) rfl (by kernel_rfl) (by kernel_rfl) (by kernel_rfl) (fun _ _ _ h => h) (Or.inl ⟨by rfl, ?yrb2⟩) hS ?rrb2
          case yrb2 => (intro w hS; go_simp; try with_reducible rfl)
          go_simp
          refine wpAnyH_take (i := 3) (v := ?vrb3) rfl (by kernel_rfl) (by kernel_rfl) (by kernel_rfl) (fun _ _ _ h => h) (Or.inl ⟨by rfl, ?yrb3⟩) hS ?rrb3
          case yrb3 => (intro w hS; go_simp; try with_reducible rfl)
          refine wpAnyH_take (i := 6) (v := ?vrb6) rfl (by kernel_rfl) (by kernel_rfl) (by kernel_rfl) (fun _ _ _ h => h) (Or.inl ⟨by rfl, ?yrb6⟩) hS ?rrb6
          case yrb6 => (intro w hS; go_simp; try with_reducible rfl)
          go_simp
          refine wpAnyH_take (i := 4) (v := .slice p n c) rfl (by kernel_rfl) (by kernel_rfl) (by kernel_rfl) (fun _ _ _ h => h) (Or.inl ⟨by rfl, ?yrb4⟩) hS ?rrb4
          case yrb4 => (intro w' hS; have cf := hS.get ⟨w.heap.size, 0, none⟩ (.slice p n c) (by simp); go_simp; try with_reducible rfl)
          go_simp
          refine wpAnyH_take (i := 5) (v := ?vrb5) rfl (by kernel_rfl) (by kernel_rfl) (by kernel_rfl) (fun _ _ _ h => h) (Or.inl ⟨by rfl, ?yrb5⟩) hS ?rrb5
          case yrb5 => (intro w hS; go_simp; try with_reducible rfl)
          go_simp
          refine wpAnyH_ready (rs := [7]) (by kernel_rfl) (by simp) ?_
          refine AllReadyH.cons (o := { dst := some 42, op := .call { callee := .value (.func 82), args := #[.tmp 41], argTypes := #[3] }, type := 3, pos := "keys.go:26", after := #[⟨6, .data⟩, ⟨2, .chain⟩, ⟨2, .guard⟩], guard := some (2, true) }) rfl (fun K hK => ?_) AllReadyH.nil
          go_simp
          go_at_call 82
          refine (ND.out _).mono ?_
          rintro e w' ⟨rfl, b⟩
          have hS2 := hS.next b
          clear b hS
          try go_simp
          refine hK.out _ _ hS2 (fun hS => ?_)
          clear hK K hS2
          refine wpAnyH_take (i := 8) (v := .bool false) rfl (by kernel_rfl) (by kernel_rfl) (by kernel_rfl) (fun _ _ _ h => h) (Or.inl ⟨by rfl, ?yrb8⟩) hS ?rrb8
          case yrb8 => (intro w hS; go_simp; try with_reducible rfl)
          go_simp
          refine wpAnyH_take (i := 9) (v := ?vrb9) rfl (by kernel_rfl) (by kernel_rfl) (by kernel_rfl) (fun _ _ _ h => h) (Or.inl ⟨by rfl, ?yrb9⟩) hS ?rrb9
          case yrb9 => (intro w hS; go_simp; try with_reducible rfl)
          go_simp
          refine wpAnyH_take (i := 10) (v := ?vrb10) rfl (by kernel_rfl) (by kernel_rfl) (by kernel_rfl) (fun _ _ _ h => h) (Or.inl ⟨by rfl, ?yrb10⟩) hS ?rrb10
          case yrb10 => (intro w hS; go_simp; try with_reducible rfl)
          go_simp
          refine wpAnyH_take (i := 11) (v := undef) rfl (by kernel_rfl) (by kernel_rfl) (by kernel_rfl) (fun _ _ _ h => h) (Or.inr ⟨by rfl, rfl⟩) hS ?rrb11
          go_simp
          refine wpAnyH_take (i := 12) (v := undef) rfl (by kernel_rfl) (by kernel_rfl) (by kernel_rfl) (fun _ _ _ h => h) (Or.inr ⟨by rfl, rfl⟩) hS ?rrb12
          go_simp
          refine wpAnyH_take (i := 13) (v := undef) rfl (by kernel_rfl) (by kernel_rfl) (by kernel_rfl) (fun _ _ _ h => h) (Or.inr ⟨by rfl, rfl⟩) hS ?rrb13
          go_simp
          refine wpAnyH_take (i := 14) (v := undef) rfl (by kernel_rfl) (by kernel_rfl) (by kernel_rfl) (fun _ _ _ h => h) (Or.inr ⟨by rfl, rfl⟩) hS ?rrb14
          go_simp
          refine wpAnyH_take (i := 15) (v := ?vrb15) rfl (by kernel_rfl) (by kernel_rfl) (by kernel_rfl) (fun _ _ _ h => h) (Or.inl ⟨by rfl, ?yrb15⟩) hS ?rrb15
          case yrb15 => (intro w hS; go_simp; try with_reducible rfl)
          go_simp
          refine wpAnyH_take (i := 16) (v := ?vrb16) rfl (by kernel_rfl) (by kernel_rfl) (by kernel_rfl) (fun _ _ _ h => h) (Or.inl ⟨by rfl, ?yrb16⟩) hS ?rrb16
          case yrb16 => (intro w hS; go_simp; try with_reducible rfl)
          refine wpAnyH_done (by kernel_rfl) ?_ _
          go_wp2
          go_ret
          exact ⟨by rw [HR.out]; rfl, hS.b⟩
end Go.Proofs.YtbfplapjjeeceaaGreatDoor.B9
