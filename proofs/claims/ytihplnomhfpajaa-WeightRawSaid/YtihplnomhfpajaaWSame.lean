/-
  The law's own helpers: lists of lists compared, members by weights; powers of the reference.
-/
import Derived.Test.YtihplnomhfpajaaWPointsB
import Derived.Test.YtihplnomhfpajaaGRefB
import Derived.Deep.RegionWith
namespace Go.Proofs.Ytihplnomhfpajaa.W8
open Go.RowKit GM G4 D7P Go.Maps
theorem refPow_c (W : World) (a n r : Int) (h : gp a n 2305843009213691579 = r) (ha : i64 a) (hn : i64 n) :
    Calls Try.prog 35 #[.int .i64 a, .int .i64 n, .int .i64 2305843009213691579] W fun e w' => e = .returned (.int .i64 r) ∧ w' = W := by
  subst h; exact refPow_any W a n _ ha.1 ha.2 hn.2 (by decide)
theorem Public_any (w : World) (n r : Int) (h : gp 4 n 2305843009213691579 = r) (hn : i64 n) :
    Calls Try.prog 19 #[.int .i64 n] w fun e w' => e = .returned (.int .i64 r) ∧ w' = w := by
  have P := Lib.hid fun W => refPow_c W 4 n r h (by decide) hn
  clear h
  go_enter Try.func19, Try.ntmps19
  go_wp2_with fail
  refine (P.out _).mono ?_
  rintro e w1 ⟨rfl, rfl⟩
  go_wp2
  go_ret
  exact ⟨rfl, rfl⟩
theorem take_ne {α : Type} {A B : List α} {k : Nat} {x y : α} (hx : A[k]? = some x) (hy : B[k]? = some y) (h : x ≠ y) : A ≠ B := fun e => by
  subst e; rw [hx] at hy; injection hy with e; exact h e
theorem take_eq {α : Type} {A B : List α} {k : Nat} {x : α} (h : A.take k = B.take k) (hx : A[k]? = some x) (hy : B[k]? = some x) : A.take (k+1) = B.take (k+1) := by
  rw [List.take_add_one, List.take_add_one, hx, hy, h]
set_option maxRecDepth 100000 in
set_option maxHeartbeats 2000000 in
theorem Ints_any (w : World) (av bv : Value) (A B : List Int) (hA : SLi w av A) (hB : SLi w bv B) :
    Calls Try.prog 39 #[av, bv] w fun e w' => e = .returned (.bool (decide (A = B))) ∧ Below w.heap.size w w' := by
  obtain ⟨⟨p, c, rfl, hc⟩, hr, hln⟩ := hA
  obtain ⟨⟨q, d, rfl, hd⟩, hs, hln2⟩ := hB
  by_cases hl : A.length = B.length
  · have HI := Lib.hid (And.intro hc hd); clear hc hd hr hs
    obtain ⟨N, hN⟩ : ∃ N, A.length = N := ⟨_, rfl⟩
    rw [hN] at hl hln
    rw [hN, ← hl]
    have HN := Lib.hid (And.intro hN hl); clear hN hl hln2
    go_enter Try.func39, Try.ntmps39
    go_wp2_with fail
    go_loopw [5] (fun i wr => ∃ (k : Nat), k ≤ N ∧ i = .int .i64 (k : Int) ∧ Hid (A.take k = B.take k ∧ Below w.heap.size w wr)) (fun i _ => N - (match i with | .int _ i => i.toNat | _ => 0))
    case atStart => exact ⟨0, Nat.zero_le _, rfl, Lib.hid ⟨by simp, Below.refl _ _⟩⟩
    case round =>
      obtain ⟨k, hk, rfl, ht⟩ := hrel
      by_cases hlt : k < N
      · obtain ⟨x, hx⟩ : ∃ x, A[k]? = some x := ⟨A[k]'(by rw [HN.out.1]; exact hlt), List.getElem?_eq_getElem _⟩
        obtain ⟨y, hy⟩ : ∃ x, B[k]? = some x := ⟨B[k]'(by rw [← HN.out.2]; exact hlt), List.getElem?_eq_getElem _⟩
        obtain ⟨b, o, hp, hcx⟩ := HI.out.1 k x hx
        obtain ⟨b2, o2, hq, hcy⟩ := HI.out.2 k y hy
        subst hp
        subst hq
        have c1 := (ht.out.2.cell (p := ⟨b, o + k, none⟩) (World.block_lt_of_cell? _ _ hcx)).trans hcx
        have c2 := (ht.out.2.cell (p := ⟨b2, o2 + k, none⟩) (World.block_lt_of_cell? _ _ hcy)).trans hcy
        by_cases e : x = y
        · subst e
          have ht2 := Lib.hid (show A.take (k+1) = B.take (k+1) ∧ Below w.heap.size w wr.drew from ⟨take_eq ht.out.1 hx hy, ht.out.2.drew⟩)
          clear hx hy hcx hcy
          go_wp2_with fail
          go_region
          go_wp2
          exact ⟨⟨k + 1, by omega, by go_num, ht2⟩, by simp; omega⟩
        · have E := Lib.hid (show decide (A = B) = false from decide_eq_false (take_ne hx hy e))
          have ht2 := Lib.hid ht.out.2.drew
          clear hx hy hcx hcy
          go_wp2_with fail
          go_region
          go_wp2
          go_ret
          exact ⟨by rw [E.out]; rfl, ht2.out⟩
      · obtain rfl : k = N := by omega
        have E := Lib.hid (show decide (A = B) = true from decide_eq_true (by
          have := ht.out.1
          rwa [List.take_of_length_le (by rw [HN.out.1]; exact Nat.le_refl _), List.take_of_length_le (by rw [← HN.out.2]; exact Nat.le_refl _)] at this))
        go_wp2
        go_ret
        exact ⟨by rw [E.out]; rfl, ht.out.2⟩
  · have E := Lib.hid (show decide (A = B) = false from decide_eq_false (fun e => hl (by rw [e])))
    have hl' : ¬ (A.length : Int) = (B.length : Int) := by omega
    clear hl hc hd
    generalize A.length = n at *
    generalize B.length = n2 at *
    go_enter Try.func39, Try.ntmps39
    go_wp2
    go_ret
    exact ⟨by rw [E.out]; rfl, Below.refl _ _⟩
theorem LLi.at {w : World} {p : Option Addr} {L : List (List Int)} (hc : ∀ (j : Nat) (l : List Int), L[j]? = some l → ∃ b o u, p = some ⟨b, o, none⟩ ∧ w.cell? ⟨b, o + j, none⟩ = some u ∧ SLi w u l) {k : Nat} (h : k < L.length) :
    ∃ l b o u, L[k]? = some l ∧ p = some ⟨b, o, none⟩ ∧ w.cell? ⟨b, o + k, none⟩ = some u ∧ SLi w u l := by
  obtain ⟨l, hl⟩ : ∃ l, L[k]? = some l := ⟨L[k]'h, List.getElem?_eq_getElem _⟩
  obtain ⟨b, o, u, h1, h2, h3⟩ := hc k l hl
  exact ⟨l, b, o, u, hl, h1, h2, h3⟩
set_option maxRecDepth 100000 in
set_option maxHeartbeats 2000000 in
theorem Same_any (w : World) (av bv pv qv : Value) (A B : List Int) (P Q : List (List Int)) (hA : SLi w av A) (hB : SLi w bv B) (hP : LLi w pv P) (hQ : LLi w qv Q) (hln : P.length ≤ 1000000000) :
    Calls Try.prog 22 #[.agg #[av, pv], .agg #[bv, qv]] w fun e w' => e = .returned (.bool (decide (A = B ∧ P = Q))) ∧ Below w.heap.size w w' := by
  obtain ⟨W, hW⟩ : ∃ W, (w.alloc (.cells #[av, pv] 51)).alloc (.cells #[bv, qv] 51) = W := ⟨_, rfl⟩
  have bW : Below w.heap.size w W := by rw [← hW]; exact ((Below.refl _ w).alloc (Nat.le_refl _) _).alloc (by simp) _
  have a0 : W.cell? ⟨w.heap.size, 0, none⟩ = some av := by rw [← hW, World.cell?_alloc_past _ _ _ (by simp), World.cell?_alloc_at _ _ _ _ rfl]; rfl
  have a1 : W.cell? ⟨w.heap.size, 1, none⟩ = some pv := by rw [← hW, World.cell?_alloc_past _ _ _ (by simp), World.cell?_alloc_at _ _ _ _ rfl]; rfl
  have b0 : W.cell? ⟨w.heap.size + 1, 0, none⟩ = some bv := by rw [← hW, World.cell?_alloc_at _ _ _ _ (by simp)]; rfl
  have b1 : W.cell? ⟨w.heap.size + 1, 1, none⟩ = some qv := by rw [← hW, World.cell?_alloc_at _ _ _ _ (by simp)]; rfl
  have I0 := Lib.hid (Ints_any W av bv A B (hA.next bW) (hB.next bW))
  have HPW := hP.next bW
  have HQW := hQ.next bW
  have hWs : w.heap.size ≤ W.heap.size := bW.size
  obtain ⟨p, c, e1, hc⟩ := HPW
  obtain ⟨q, d, e2, hd⟩ := HQW
  subst e1 e2
  have HB0 := Lib.hid bW
  have HW := Lib.hid hW
  clear hP hQ hA hB bW hW
  obtain ⟨N, hN⟩ : ∃ N, P.length = N := ⟨_, rfl⟩
  obtain ⟨M, hM⟩ : ∃ M, Q.length = M := ⟨_, rfl⟩
  rw [hN] at a1 hln HW
  rw [hM] at b1 HW
  rw [hN, hM]
  have HI := Lib.hid (And.intro hc (And.intro hd (And.intro hN hM))); clear hc hd hN hM
  go_enter Try.func22, Try.ntmps22
  go_upto_region 1 with fail
  change Code.wp _ _ _ _ ((w.alloc (.cells #[av, .slice p N c] 51)).alloc (.cells #[bv, .slice q M d] 51))
  rw [HW.out]
  clear HW
  obtain ⟨g0, hg0⟩ : ∃ g, w.heap.size = g := ⟨_, rfl⟩
  rw [hg0] at a0 a1 b0 b1 HB0 hWs ⊢
  have HG := Lib.hid hg0
  clear hg0
  have HC := Lib.hid (And.intro a1 b1)
  go_wp2_with fail
  refine I0.out.mono ?_
  rintro e w1 ⟨rfl, k1⟩
  have a1 := (k1.cell (p := ⟨g0, 1, none⟩) (World.block_lt_of_cell? _ _ HC.out.1)).trans HC.out.1
  have b1 := (k1.cell (p := ⟨g0 + 1, 1, none⟩) (World.block_lt_of_cell? _ _ HC.out.2)).trans HC.out.2
  have HK := Lib.hid k1
  have HB1 := Lib.hid (HB0.out.trans (k1.mono hWs))
  clear k1 a0 b0
  by_cases hAB : A = B
  · rw [decide_eq_true hAB]
    by_cases hNM : N = M
    · subst hNM
      have HAB := Lib.hid hAB
      clear hAB
      go_wp2_with fail
      go_loopw [5] (fun i wr => ∃ (k : Nat), k ≤ N ∧ i = .int .i64 (k : Int) ∧ Hid (P.take k = Q.take k) ∧ Hid (Below W.heap.size W wr)) (fun i _ => N - (match i with | .int _ i => i.toNat | _ => 0))
      case atStart => exact ⟨0, Nat.zero_le _, rfl, Lib.hid (by simp), HK⟩
      case round =>
        clear a1 b1
        obtain ⟨k, hk, rfl, ht, hb⟩ := hrel
        have a1 := (hb.out.cell (p := ⟨g0, 1, none⟩) (World.block_lt_of_cell? _ _ HC.out.1)).trans HC.out.1
        have b1 := (hb.out.cell (p := ⟨g0 + 1, 1, none⟩) (World.block_lt_of_cell? _ _ HC.out.2)).trans HC.out.2
        by_cases hlt : k < N
        · obtain ⟨x, b, o, u, hx, hp, hcx, hsx⟩ := LLi.at HI.out.1 (k := k) (by rw [HI.out.2.2.1]; exact hlt)
          obtain ⟨y, b2, o2, u2, hy, hq, hcy, hsy⟩ := LLi.at HI.out.2.1 (k := k) (by rw [HI.out.2.2.2]; exact hlt)
          subst hp
          subst hq
          have c1 := (hb.out.cell (p := ⟨b, o + k, none⟩) (World.block_lt_of_cell? _ _ hcx)).trans hcx
          have c2 := (hb.out.cell (p := ⟨b2, o2 + k, none⟩) (World.block_lt_of_cell? _ _ hcy)).trans hcy
          have I2 := Lib.hid (Ints_any wr.drew u u2 x y ((hsx.next hb.out).next (Below.refl _ wr).drew) ((hsy.next hb.out).next (Below.refl _ wr).drew))
          by_cases e : x = y
          · subst e
            rw [decide_eq_true rfl] at I2
            have ht2 := Lib.hid (take_eq ht.out hx hy)
            clear hx hy hcx hcy hsx hsy
            go_wp2_with fail
            go_region_with (refine I2.out.mono ?_; rintro e w2 ⟨rfl, k2⟩)
            all_goals
              have hb2 := Lib.hid (hb.out.drew.trans (k2.mono hb.out.size))
              go_wp2
              exact ⟨⟨k + 1, by omega, by go_num, ht2, hb2⟩, by simp; omega⟩
          · have E := Lib.hid (show decide (A = B ∧ P = Q) = false from decide_eq_false (fun h => take_ne hx hy e h.2))
            rw [decide_eq_false e] at I2
            clear hx hy hcx hcy hsx hsy
            go_wp2_with fail
            go_region_with (refine I2.out.mono ?_; rintro e w2 ⟨rfl, k2⟩)
            all_goals
              have hb2 := Lib.hid (HB0.out.trans ((hb.out.drew.trans (k2.mono hb.out.size)).mono hWs))
              go_wp2
              go_ret
              exact ⟨by rw [E.out]; rfl, by rw [HG.out]; exact hb2.out⟩
        · obtain rfl : k = N := by omega
          have E := Lib.hid (show decide (A = B ∧ P = Q) = true from decide_eq_true ⟨HAB.out, by
            have := ht.out
            rwa [List.take_of_length_le (by rw [HI.out.2.2.1]; exact Nat.le_refl _), List.take_of_length_le (by rw [HI.out.2.2.2]; exact Nat.le_refl _)] at this⟩)
          have hb2 := Lib.hid (HB0.out.trans (hb.out.mono hWs))
          go_wp2
          go_ret
          exact ⟨by rw [E.out]; rfl, by rw [HG.out]; exact hb2.out⟩
    · have E := Lib.hid (show decide (A = B ∧ P = Q) = false from decide_eq_false (fun h => hNM (by rw [← HI.out.2.2.1, ← HI.out.2.2.2, h.2])))
      have hl' : ¬ (N : Int) = (M : Int) := by omega
      clear hNM
      go_wp2
      go_ret
      exact ⟨by rw [E.out]; rfl, by rw [HG.out]; exact HB1.out⟩
  · rw [decide_eq_false hAB]
    have E := Lib.hid (show decide (A = B ∧ P = Q) = false from decide_eq_false (fun h => hAB h.1))
    clear hAB
    go_wp2
    go_ret
    exact ⟨by rw [E.out]; rfl, by rw [HG.out]; exact HB1.out⟩
theorem nil_SLi (w : World) : SLi w (.slice none 0 0) [] := ⟨⟨none, 0, rfl, fun j y h => by simp at h⟩, by simp, by simp⟩
theorem lists_any (w : World) (pv qv : Value) (P Q : List (List Int)) (hP : LLi w pv P) (hQ : LLi w qv Q) (hln : P.length ≤ 1000000000) :
    Calls Try.prog 9 #[pv, qv] w fun e w' => e = .returned (.bool (decide (P = Q))) ∧ Below w.heap.size w w' := by
  have S := Lib.hid (Same_any w _ _ pv qv [] [] P Q (nil_SLi w) (nil_SLi w) hP hQ hln)
  have e : decide (([] : List Int) = [] ∧ P = Q) = decide (P = Q) := by by_cases h : P = Q <;> simp [h]
  rw [e] at S
  obtain ⟨p, c, rfl, _⟩ := hP
  obtain ⟨q, d, rfl, _⟩ := hQ
  clear e
  generalize P.length = n at *
  generalize Q.length = m at *
  go_enter Try.func9, Try.ntmps9
  go_wp2_with fail
  refine S.out.mono ?_
  rintro e w1 ⟨rfl, k1⟩
  have HK := Lib.hid k1; clear k1
  go_wp2
  go_ret
  exact ⟨rfl, HK.out⟩
end Go.Proofs.Ytihplnomhfpajaa.W8
