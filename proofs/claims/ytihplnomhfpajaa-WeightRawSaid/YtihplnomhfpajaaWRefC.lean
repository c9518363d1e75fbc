/-
  The walks of the reference's point and Counting.
-/
import Derived.Test.YtihplnomhfpajaaWSanW
import Derived.Deep.CutRange
namespace Go.Proofs.Ytihplnomhfpajaa.W8
open Go.RowKit GM G4 D7P Go.Maps
def ptq (x : Int) : Bool := decide (1 ≤ x) && decide (x < 1152921504606845789)
theorem point_any (w : World) (x : Int) (r : Bool) (h : ptq x = r) : Calls Try.prog 37 #[.int .i64 x] w fun e w' => e = .returned (.bool r) ∧ w' = w := by
  by_cases h0 : 1 ≤ x
  · by_cases h1 : x < 1152921504606845789
    · obtain rfl : r = true := by rw [← h]; simp [ptq, h0, h1]
      clear h
      go_enter Try.func37, Try.ntmps37
      go_wp2
      go_ret
      exact ⟨rfl, rfl⟩
    · obtain rfl : r = false := by rw [← h]; simp [ptq, h1]
      clear h
      go_enter Try.func37, Try.ntmps37
      go_wp2
      go_ret
      exact ⟨rfl, rfl⟩
  · obtain rfl : r = false := by rw [← h]; simp [ptq, h0]
    clear h
    go_enter Try.func37, Try.ntmps37
    go_wp2
    go_ret
    exact ⟨rfl, rfl⟩
theorem fl2_append (a b : List (Int × Int)) : fl2 (a ++ b) = fl2 a ++ fl2 b := by
  induction a with
  | nil => rfl
  | cons s l ih => show .int .i64 s.1 :: .int .i64 s.2 :: fl2 (l ++ b) = _; rw [ih]; rfl
theorem own_ShL {w : World} {base : Nat} {v : Value} {l : List (Int × Int)} (h : w.ownsRow base 40 2 v l.length (fl2 l)) (hr : ∀ s ∈ l, i64 s.1 ∧ i64 s.2) (hn : l.length ≤ 1000000000) : ShL w v l := by
  refine ⟨?_, hr, hn⟩
  rcases h.2 with ⟨rfl, h0⟩ | ⟨g, cap, cur, rfl, h2, h3, h4, h5, h6, h7⟩
  · have : l = [] := List.length_eq_zero_iff.1 h0
    subst this
    exact ⟨none, 0, rfl, fun j y hj => by simp at hj⟩
  · have rd : ∀ i u, (fl2 l)[i]? = some u → w.cell? ⟨g, 0 + i, none⟩ = some u := fun i u hi => by
      rw [Nat.zero_add, cell_of_row w g i _ _ _ h3, ← Array.getElem?_toList]
      rw [← h7] at hi
      have hlt := (List.getElem?_eq_some_iff.1 hi).1
      rw [List.getElem?_take_of_lt (by rw [List.length_take] at hlt; omega)] at hi
      exact hi
    refine ⟨_, cap, rfl, fun j s hj => ?_⟩
    obtain ⟨k1, k2⟩ := fl2_get l j s hj
    exact ⟨g, 0, rfl, rd _ _ k1, by rw [Nat.add_assoc]; exact rd _ _ k2⟩
theorem infoS : (Try.prog.info? 40).map (fun i => (i.zero, i.size, i.bytes)) = some (some (.agg #[.int .i64 0, .int .i64 0]), 2, 16) := by kernel_rfl
theorem rq_eq (y : Int) : rq y = (decide (0 ≤ y) && decide (y < 1152921504606845789)) := rfl
theorem refMember_c (W : World) (a : Int) (r : Bool) (h : mem a = r) (ha : i64 a) : Calls Try.prog 43 #[.int .i64 a] W fun e w' => e = .returned (.bool r) ∧ Below W.heap.size W w' := by
  subst h
  exact (refMember_any W a ha.1 ha.2).mono fun e w' h => by first | exact ⟨h.1, h.2 ▸ Below.refl _ _⟩ | exact h
/-- whether a share counts behind k that count already -/
def fkq (b : Bool) (A : List (Int × Int)) (x : Int) (k : Nat) : Bool := b && !((A.take k).map Prod.fst).contains x
theorem fkq_zero (b : Bool) (A : List (Int × Int)) (x : Int) : fkq b A x 0 = b := by unfold fkq; simp
theorem fkq_succ {b : Bool} {A : List (Int × Int)} {x : Int} {k : Nat} {s : Int × Int} (h : A[k]? = some s) : fkq b A x (k+1) = (fkq b A x k && !(s.1 == x)) := by
  unfold fkq
  rw [List.take_add_one, h, List.map_append, List.contains_append]
  by_cases e : s.1 = x
  · subst e; simp
  · have e' : ¬ x = s.1 := fun h => e h.symm
    simp [e, e']
theorem fkq_cst (fit : Int → Bool) (A : List (Int × Int)) (s : Int × Int) : cst fit A s = if fkq (ptq s.1 && fit s.2) A s.1 A.length then A ++ [s] else A := by
  unfold cst fkq ptq
  rw [List.take_length]
  by_cases h1 : 1 ≤ s.1 <;> by_cases h2 : s.1 < 1152921504606845789 <;> cases h3 : (A.map Prod.fst).contains s.1 <;> cases h4 : fit s.2 <;> simp_all
theorem cnt_i (fit : Int → Bool) (l : List (Int × Int)) (hr : ∀ s ∈ l, i64 s.1 ∧ i64 s.2) (k : Nat) : ∀ s ∈ cnt fit (l.take k), i64 s.1 ∧ i64 s.2 := fun s hs => by
  rcases cnt_mem fit (l.take k) [] s hs with h | h
  · simp at h
  · exact hr s (List.mem_of_mem_take h)
set_option maxRecDepth 100000 in
set_option maxHeartbeats 4000000 in
theorem Counting_r (w : World) (v : Value) (l : List (Int × Int)) (hV : ShL w v l) :
    Calls Try.prog 26 #[v, .bool false] w fun e w' => ∃ u, e = .returned u ∧ w'.ownsRow w.heap.size 40 2 u (cnt rq l).length (fl2 (cnt rq l)) ∧ Below w.heap.size w w' := by
  obtain ⟨i0, hi, hz0, hz1, hz2⟩ := info_parts infoS
  obtain ⟨⟨p, c, rfl, hc⟩, hr, hln⟩ := hV
  have HI := Lib.hid (And.intro hc hr); clear hc hr
  obtain ⟨N, hN⟩ : ∃ N, l.length = N := ⟨_, rfl⟩
  rw [hN] at hln
  rw [hN]
  have HN := Lib.hid hN; clear hN
  go_enter Try.func26, Try.ntmps26
  go_wp2_with fail
  go_loopw [5, 6] (fun a i wr => ∃ (k : Nat), k ≤ N ∧ i = .int .i64 (k : Int) ∧ Hid (wr.ownsRow w.heap.size 40 2 a (cnt rq (l.take k)).length (fl2 (cnt rq (l.take k))) ∧ Below w.heap.size w wr)) (fun _ i _ => N - (match i with | .int _ i => i.toNat | _ => 0))
  case atStart => exact ⟨0, Nat.zero_le _, rfl, Lib.hid ⟨World.ownsRow_nil _ _ _ _, Below.refl _ _⟩⟩
  case round =>
    obtain ⟨k, hk, rfl, hQ⟩ := hrel
    by_cases hlt : k < N
    · obtain ⟨⟨x, y⟩, hx⟩ : ∃ s, l[k]? = some s := ⟨l[k]'(by rw [HN.out]; exact hlt), List.getElem?_eq_getElem _⟩
      obtain ⟨b, o, hp, hcx, hcy⟩ := HI.out.1 k _ hx
      subst hp
      have HC := Lib.hid (cnt_take rq l k (x, y) hx)
      have hixy := HI.out.2 _ (List.mem_of_getElem? hx)
      have hix : i64 x := hixy.1
      have hiy : i64 y := hixy.2
      have hAl := Nat.le_trans (cnt_len rq (l.take k)) (show (l.take k).length ≤ k by rw [List.length_take]; omega)
      have hSH := own_ShL hQ.out.1 (cnt_i rq l HI.out.2 k) (by omega)
      obtain ⟨A, hA⟩ : ∃ A, cnt rq (l.take k) = A := ⟨_, rfl⟩
      rw [hA] at hQ HC hAl hSH
      rw [fkq_cst] at HC
      obtain ⟨⟨pa, ca, hu, hca⟩, _, _⟩ := hSH
      rename_i u5 u6
      subst hu
      have c0 := (hQ.out.2.cell (p := ⟨b, o + k * 2, none⟩) (World.block_lt_of_cell? _ _ hcx)).trans hcx
      have c1 := (hQ.out.2.cell (p := ⟨b, o + k * 2 + 1, none⟩) (World.block_lt_of_cell? _ _ hcy)).trans hcy
      dsimp only at c0 c1
      have HCC := Lib.hid (And.intro c0 c1)
      have P := Lib.hid fun W => point_any W x _ rfl
      have M := Lib.hid fun W => refMember_c W y _ rfl hiy
      have HCA := Lib.hid hca
      obtain ⟨L, hL⟩ : ∃ L, A.length = L := ⟨_, rfl⟩
      rw [hL] at hQ HC hAl ⊢
      have HL := Lib.hid hL
      obtain ⟨f0, hf0⟩ : ∃ f0, (ptq x && rq y) = f0 := ⟨_, rfl⟩
      rw [hf0] at HC
      have HF0 := Lib.hid hf0; clear hf0 hL hA hca
      clear hx hcx hcy hixy
      go_upto_if 22 with (refine (P.out _).mono ?_; rintro e w1 ⟨rfl, rfl⟩)
      go_cut [7] from 8 to 77 (fun p wx => p = .bool f0 ∧ Hid (Below w1.heap.size w1 wx))
      case first =>
        cases hp : ptq x with
        | false =>
          obtain rfl : f0 = false := by rw [← HF0.out, hp]; rfl
          clear hp
          go_wp2
          go_meet
          case rel => exact ⟨rfl, Lib.hid (Below.refl _ _)⟩
        | true =>
          have hf0 : rq y = f0 := by rw [← HF0.out, hp]; rfl
          have HF := Lib.hid hf0
          clear hp hf0
          by_cases h0 : 0 ≤ y
          · by_cases h1 : y < 1152921504606845789
            · obtain rfl : f0 = true := by rw [← HF.out]; simp [rq, h0, h1]
              go_wp2
              go_meet
              case rel => exact ⟨rfl, Lib.hid (Below.refl _ _)⟩
            · obtain rfl : f0 = false := by rw [← HF.out]; simp [rq, h1]
              go_wp2
              go_meet
              case rel => exact ⟨rfl, Lib.hid (Below.refl _ _)⟩
          · obtain rfl : f0 = false := by rw [← HF.out]; simp [rq, h0]
            go_wp2
            go_meet
            case rel => exact ⟨rfl, Lib.hid (Below.refl _ _)⟩
      case rest =>
        obtain ⟨rfl, hbc⟩ := hcut
        have HB1 := Lib.hid (hQ.out.2.trans (hbc.out.mono hQ.out.2.size))
        clear c0 c1
        go_wp2_with fail
        go_loopw [7, 9] (fun f i wx => ∃ (j : Nat), j ≤ L ∧ f = .bool (fkq f0 A x j) ∧ i = .int .i64 (j : Int) ∧ Hid (Below w1.heap.size w1 wx)) (fun _ i _ => L - (match i with | .int _ i => i.toNat | _ => 0))
        case atStart => exact ⟨0, Nat.zero_le _, by rw [fkq_zero], rfl, hbc⟩
        case round =>
          obtain ⟨j, hj, rfl, rfl, hb⟩ := hrel
          by_cases hjlt : j < L
          · obtain ⟨⟨x2, y2⟩, hx2⟩ : ∃ s, A[j]? = some s := ⟨A[j]'(by rw [HL.out]; exact hjlt), List.getElem?_eq_getElem _⟩
            obtain ⟨ba, oa, hpa, ha0, _⟩ := HCA.out j _ hx2
            subst hpa
            have d0 := (hb.out.cell (p := ⟨ba, oa + j * 2, none⟩) (World.block_lt_of_cell? _ _ ha0)).trans ha0
            have c0 := (hb.out.cell (p := ⟨b, o + k * 2, none⟩) (World.block_lt_of_cell? _ _ HCC.out.1)).trans HCC.out.1
            dsimp only at d0
            have hs2 := Lib.hid (fkq_succ (b := f0) (x := x) hx2)
            have hb2 := Lib.hid hb.out.drew
            clear hx2 ha0
            cases hf : fkq f0 A x j with
            | false =>
              have e2 : fkq f0 A x (j+1) = false := by rw [hs2.out, hf]; rfl
              have E2 := Lib.hid e2
              clear e2 hf
              go_wp2_with fail
              go_region
              go_wp2
              exact ⟨⟨j + 1, by omega, by rw [E2.out], by go_num, hb2⟩, by simp; omega⟩
            | true =>
              by_cases e : x2 = x
              · have e2 : fkq f0 A x (j+1) = false := by rw [hs2.out, hf]; simp [e]
                have E2 := Lib.hid e2
                clear e2 hf
                subst e
                go_wp2_with fail
                go_region
                go_wp2
                exact ⟨⟨j + 1, by omega, by rw [E2.out], by go_num, hb2⟩, by simp; omega⟩
              · have e2 : fkq f0 A x (j+1) = true := by rw [hs2.out, hf]; simp [e]
                have E2 := Lib.hid e2
                clear e2 hf
                go_wp2_with fail
                go_region
                go_wp2
                exact ⟨⟨j + 1, by omega, by rw [E2.out]; simp [e], by go_num, hb2⟩, by simp; omega⟩
          · obtain rfl : j = L := by omega
            have c0 := (hb.out.cell (p := ⟨b, o + k * 2, none⟩) (World.block_lt_of_cell? _ _ HCC.out.1)).trans HCC.out.1
            have c1 := (hb.out.cell (p := ⟨b, o + k * 2 + 1, none⟩) (World.block_lt_of_cell? _ _ HCC.out.2)).trans HCC.out.2
            have hown := own_below' hQ.out.1 hb.out
            have hBw := hQ.out.2.trans (hb.out.mono hQ.out.2.size)
            have HW := Lib.hid (And.intro hown hBw)
            have hA := Lib.hid (show j + 1 ≤ maxLen ∧ (j + 1) * 16 ≤ 140737488355328 from ⟨by unfold maxLen; omega, by omega⟩)
            clear hown hBw hb
            cases hf : fkq f0 A x j with
            | false =>
              have hE : cnt rq (l.take (k+1)) = A := by rw [HC.out, hf]; rfl
              have K9 := Lib.hid (show World.ownsRow wr w.heap.size 40 2 (.slice pa j ca) (cnt rq (l.take (k+1))).length (fl2 (cnt rq (l.take (k+1)))) ∧ Below w.heap.size w wr from by rw [hE, HL.out]; exact HW.out)
              clear hf hE
              go_wp2
              exact ⟨⟨k + 1, by omega, by go_num, K9⟩, by simp; omega⟩
            | true =>
              have hE : cnt rq (l.take (k+1)) = A ++ [(x, y)] := by rw [HC.out, hf]; rfl
              have HE := Lib.hid hE
              clear hf hE
              go_wp2_with (at_builtin; go_must (refine wpList_append_lies _ rfl _ _ 37 rfl w.heap.size 40 i0 (.agg #[.int .i64 0, .int .i64 0]) 2 16 Try.underlying37 hi hz0 hz1 hz2 rfl (by decide) _ j (fl2 A) rfl (HW.out.1.alloc _) ⟨wr.heap.size, 0, none⟩ 1 1 [.int .i64 x, .int .i64 y] rfl rfl (World.news_of_block (heap_alloc_new _ _)) (by simp [Value.oneCell']) Nat.zero_lt_one hA.out.1 hA.out.2 (by rw [World.size_alloc]; exact Nat.le_succ_of_le HW.out.2.size) _ rfl ?_); intro g9 c9 w9 hown9 hgrow9 hat9 hlt9)
              have K9 := Lib.hid (show w9.ownsRow w.heap.size 40 2 (.slice (some ⟨g9, 0, none⟩) (j + 1) c9) (cnt rq (l.take (k+1))).length (fl2 (cnt rq (l.take (k+1)))) ∧ Below w.heap.size w w9 from ⟨by rw [HE.out, fl2_append, List.length_append, HL.out]; exact hown9, (HW.out.2.alloc HW.out.2.size _).grown hgrow9 (by rw [World.size_alloc]; exact Nat.le_succ_of_le HW.out.2.size) (fun r hr => (HW.out.1.lt r hr).1)⟩)
              clear hown9 hgrow9 hat9 hlt9
              try go_wp2
              exact ⟨⟨k + 1, by omega, by go_num, K9⟩, by simp; omega⟩
    · obtain rfl : k = N := by omega
      have hE : l.take k = l := List.take_of_length_le (by rw [HN.out]; exact Nat.le_refl _)
      rw [hE] at hQ
      go_wp2
      go_ret
      exact ⟨_, rfl, hQ.out.1, hQ.out.2⟩
set_option maxRecDepth 100000 in
set_option maxHeartbeats 4000000 in
theorem Counting_m (w : World) (v : Value) (l : List (Int × Int)) (hV : ShL w v l) :
    Calls Try.prog 26 #[v, .bool true] w fun e w' => ∃ u, e = .returned u ∧ w'.ownsRow w.heap.size 40 2 u (cnt mem l).length (fl2 (cnt mem l)) ∧ Below w.heap.size w w' := by
  obtain ⟨i0, hi, hz0, hz1, hz2⟩ := info_parts infoS
  obtain ⟨⟨p, c, rfl, hc⟩, hr, hln⟩ := hV
  have HI := Lib.hid (And.intro hc hr); clear hc hr
  obtain ⟨N, hN⟩ : ∃ N, l.length = N := ⟨_, rfl⟩
  rw [hN] at hln
  rw [hN]
  have HN := Lib.hid hN; clear hN
  go_enter Try.func26, Try.ntmps26
  go_wp2_with fail
  go_loopw [5, 6] (fun a i wr => ∃ (k : Nat), k ≤ N ∧ i = .int .i64 (k : Int) ∧ Hid (wr.ownsRow w.heap.size 40 2 a (cnt mem (l.take k)).length (fl2 (cnt mem (l.take k))) ∧ Below w.heap.size w wr)) (fun _ i _ => N - (match i with | .int _ i => i.toNat | _ => 0))
  case atStart => exact ⟨0, Nat.zero_le _, rfl, Lib.hid ⟨World.ownsRow_nil _ _ _ _, Below.refl _ _⟩⟩
  case round =>
    obtain ⟨k, hk, rfl, hQ⟩ := hrel
    by_cases hlt : k < N
    · obtain ⟨⟨x, y⟩, hx⟩ : ∃ s, l[k]? = some s := ⟨l[k]'(by rw [HN.out]; exact hlt), List.getElem?_eq_getElem _⟩
      obtain ⟨b, o, hp, hcx, hcy⟩ := HI.out.1 k _ hx
      subst hp
      have HC := Lib.hid (cnt_take mem l k (x, y) hx)
      have hixy := HI.out.2 _ (List.mem_of_getElem? hx)
      have hix : i64 x := hixy.1
      have hiy : i64 y := hixy.2
      have hAl := Nat.le_trans (cnt_len mem (l.take k)) (show (l.take k).length ≤ k by rw [List.length_take]; omega)
      have hSH := own_ShL hQ.out.1 (cnt_i mem l HI.out.2 k) (by omega)
      obtain ⟨A, hA⟩ : ∃ A, cnt mem (l.take k) = A := ⟨_, rfl⟩
      rw [hA] at hQ HC hAl hSH
      rw [fkq_cst] at HC
      obtain ⟨⟨pa, ca, hu, hca⟩, _, _⟩ := hSH
      rename_i u5 u6
      subst hu
      have c0 := (hQ.out.2.cell (p := ⟨b, o + k * 2, none⟩) (World.block_lt_of_cell? _ _ hcx)).trans hcx
      have c1 := (hQ.out.2.cell (p := ⟨b, o + k * 2 + 1, none⟩) (World.block_lt_of_cell? _ _ hcy)).trans hcy
      dsimp only at c0 c1
      have HCC := Lib.hid (And.intro c0 c1)
      have P := Lib.hid fun W => point_any W x _ rfl
      have M := Lib.hid fun W => refMember_c W y _ rfl hiy
      have HCA := Lib.hid hca
      obtain ⟨L, hL⟩ : ∃ L, A.length = L := ⟨_, rfl⟩
      rw [hL] at hQ HC hAl ⊢
      have HL := Lib.hid hL
      obtain ⟨f0, hf0⟩ : ∃ f0, (ptq x && mem y) = f0 := ⟨_, rfl⟩
      rw [hf0] at HC
      have HF0 := Lib.hid hf0; clear hf0 hL hA hca
      clear hx hcx hcy hixy
      go_upto_if 22 with (refine (P.out _).mono ?_; rintro e w1 ⟨rfl, rfl⟩)
      go_cut [7] from 8 to 77 (fun p wx => p = .bool f0 ∧ Hid (Below w1.heap.size w1 wx))
      case first =>
        have M2 := Lib.hid (M.out w1)
        cases hp : ptq x with
        | false =>
          obtain rfl : f0 = false := by rw [← HF0.out, hp]; rfl
          clear hp
          go_wp2_with fail
          refine M2.out.mono ?_
          rintro e w2 ⟨rfl, b2⟩
          have hb2 := Lib.hid b2; clear b2
          go_wp2
          go_meet
          case rel => exact ⟨rfl, hb2⟩
        | true =>
          have hf0 : mem y = f0 := by rw [← HF0.out, hp]; rfl
          rw [hf0] at M2
          clear hp hf0
          go_wp2_with fail
          refine M2.out.mono ?_
          rintro e w2 ⟨rfl, b2⟩
          have hb2 := Lib.hid b2; clear b2
          go_wp2
          go_meet
          case rel => exact ⟨rfl, hb2⟩
      case rest =>
        obtain ⟨rfl, hbc⟩ := hcut
        have HB1 := Lib.hid (hQ.out.2.trans (hbc.out.mono hQ.out.2.size))
        clear c0 c1
        go_wp2_with fail
        go_loopw [7, 9] (fun f i wx => ∃ (j : Nat), j ≤ L ∧ f = .bool (fkq f0 A x j) ∧ i = .int .i64 (j : Int) ∧ Hid (Below w1.heap.size w1 wx)) (fun _ i _ => L - (match i with | .int _ i => i.toNat | _ => 0))
        case atStart => exact ⟨0, Nat.zero_le _, by rw [fkq_zero], rfl, hbc⟩
        case round =>
          obtain ⟨j, hj, rfl, rfl, hb⟩ := hrel
          by_cases hjlt : j < L
          · obtain ⟨⟨x2, y2⟩, hx2⟩ : ∃ s, A[j]? = some s := ⟨A[j]'(by rw [HL.out]; exact hjlt), List.getElem?_eq_getElem _⟩
            obtain ⟨ba, oa, hpa, ha0, _⟩ := HCA.out j _ hx2
            subst hpa
            have d0 := (hb.out.cell (p := ⟨ba, oa + j * 2, none⟩) (World.block_lt_of_cell? _ _ ha0)).trans ha0
            have c0 := (hb.out.cell (p := ⟨b, o + k * 2, none⟩) (World.block_lt_of_cell? _ _ HCC.out.1)).trans HCC.out.1
            dsimp only at d0
            have hs2 := Lib.hid (fkq_succ (b := f0) (x := x) hx2)
            have hb2 := Lib.hid hb.out.drew
            clear hx2 ha0
            cases hf : fkq f0 A x j with
            | false =>
              have e2 : fkq f0 A x (j+1) = false := by rw [hs2.out, hf]; rfl
              have E2 := Lib.hid e2
              clear e2 hf
              go_wp2_with fail
              go_region
              go_wp2
              exact ⟨⟨j + 1, by omega, by rw [E2.out], by go_num, hb2⟩, by simp; omega⟩
            | true =>
              by_cases e : x2 = x
              · have e2 : fkq f0 A x (j+1) = false := by rw [hs2.out, hf]; simp [e]
                have E2 := Lib.hid e2
                clear e2 hf
                subst e
                go_wp2_with fail
                go_region
                go_wp2
                exact ⟨⟨j + 1, by omega, by rw [E2.out], by go_num, hb2⟩, by simp; omega⟩
              · have e2 : fkq f0 A x (j+1) = true := by rw [hs2.out, hf]; simp [e]
                have E2 := Lib.hid e2
                clear e2 hf
                go_wp2_with fail
                go_region
                go_wp2
                exact ⟨⟨j + 1, by omega, by rw [E2.out]; simp [e], by go_num, hb2⟩, by simp; omega⟩
          · obtain rfl : j = L := by omega
            have c0 := (hb.out.cell (p := ⟨b, o + k * 2, none⟩) (World.block_lt_of_cell? _ _ HCC.out.1)).trans HCC.out.1
            have c1 := (hb.out.cell (p := ⟨b, o + k * 2 + 1, none⟩) (World.block_lt_of_cell? _ _ HCC.out.2)).trans HCC.out.2
            have hown := own_below' hQ.out.1 hb.out
            have hBw := hQ.out.2.trans (hb.out.mono hQ.out.2.size)
            have HW := Lib.hid (And.intro hown hBw)
            have hA := Lib.hid (show j + 1 ≤ maxLen ∧ (j + 1) * 16 ≤ 140737488355328 from ⟨by unfold maxLen; omega, by omega⟩)
            clear hown hBw hb
            cases hf : fkq f0 A x j with
            | false =>
              have hE : cnt mem (l.take (k+1)) = A := by rw [HC.out, hf]; rfl
              have K9 := Lib.hid (show World.ownsRow wr w.heap.size 40 2 (.slice pa j ca) (cnt mem (l.take (k+1))).length (fl2 (cnt mem (l.take (k+1)))) ∧ Below w.heap.size w wr from by rw [hE, HL.out]; exact HW.out)
              clear hf hE
              go_wp2
              exact ⟨⟨k + 1, by omega, by go_num, K9⟩, by simp; omega⟩
            | true =>
              have hE : cnt mem (l.take (k+1)) = A ++ [(x, y)] := by rw [HC.out, hf]; rfl
              have HE := Lib.hid hE
              clear hf hE
              go_wp2_with (at_builtin; go_must (refine wpList_append_lies _ rfl _ _ 37 rfl w.heap.size 40 i0 (.agg #[.int .i64 0, .int .i64 0]) 2 16 Try.underlying37 hi hz0 hz1 hz2 rfl (by decide) _ j (fl2 A) rfl (HW.out.1.alloc _) ⟨wr.heap.size, 0, none⟩ 1 1 [.int .i64 x, .int .i64 y] rfl rfl (World.news_of_block (heap_alloc_new _ _)) (by simp [Value.oneCell']) Nat.zero_lt_one hA.out.1 hA.out.2 (by rw [World.size_alloc]; exact Nat.le_succ_of_le HW.out.2.size) _ rfl ?_); intro g9 c9 w9 hown9 hgrow9 hat9 hlt9)
              have K9 := Lib.hid (show w9.ownsRow w.heap.size 40 2 (.slice (some ⟨g9, 0, none⟩) (j + 1) c9) (cnt mem (l.take (k+1))).length (fl2 (cnt mem (l.take (k+1)))) ∧ Below w.heap.size w w9 from ⟨by rw [HE.out, fl2_append, List.length_append, HL.out]; exact hown9, (HW.out.2.alloc HW.out.2.size _).grown hgrow9 (by rw [World.size_alloc]; exact Nat.le_succ_of_le HW.out.2.size) (fun r hr => (HW.out.1.lt r hr).1)⟩)
              clear hown9 hgrow9 hat9 hlt9
              try go_wp2
              exact ⟨⟨k + 1, by omega, by go_num, K9⟩, by simp; omega⟩
    · obtain rfl : k = N := by omega
      have hE : l.take k = l := List.take_of_length_le (by rw [HN.out]; exact Nat.le_refl _)
      rw [hE] at hQ
      go_wp2
      go_ret
      exact ⟨_, rfl, hQ.out.1, hQ.out.2⟩

end Go.Proofs.Ytihplnomhfpajaa.W8
