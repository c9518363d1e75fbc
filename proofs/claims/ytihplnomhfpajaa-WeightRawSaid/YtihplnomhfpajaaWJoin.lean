/-
  The walks of weight.Join, weight.Lift and weight.Share.
-/
import Derived.Test.YtihplnomhfpajaaWFirst
namespace Go.Proofs.Ytihplnomhfpajaa.W8
open Go.RowKit GM G4 D7P Go.Maps
theorem cst_pts (fit : Int → Bool) (A : List (Int × Int)) (s : Int × Int) (h : Pts (A.map Prod.fst)) : Pts ((cst fit A s).map Prod.fst) := by
  unfold cst
  split
  · rename_i hc
    rw [List.map_append]
    refine ⟨fun x hx => ?_, ?_⟩
    · rcases List.mem_append.1 hx with hx | hx
      · exact h.r x hx
      · simp at hx; subst hx; exact ⟨hc.1, hc.2.1⟩
    · rw [List.nodup_append]
      refine ⟨h.d, by simp, fun a ha b hb e => ?_⟩
      simp at hb
      subst hb
      subst e
      have := hc.2.2.1
      rw [List.contains_eq_mem, decide_eq_false_iff_not] at this
      exact this ha
  · exact h
theorem cnt_pts' (fit : Int → Bool) : ∀ (l A : List (Int × Int)), Pts (A.map Prod.fst) → Pts ((l.foldl (cst fit) A).map Prod.fst)
  | [], _, h => h
  | s :: l, A, h => cnt_pts' fit l (cst fit A s) (cst_pts fit A s h)
theorem cnt_pts (fit : Int → Bool) (l : List (Int × Int)) (n : Nat) : Pts (((cnt fit l).take n).map Prod.fst) := by
  have h := cnt_pts' fit l [] ⟨by simp, by simp⟩
  rw [List.map_take]
  exact ⟨fun x hx => h.r x (List.mem_of_mem_take hx), h.d.sublist (List.take_sublist _ _)⟩
/-- points and numbers of the first shares that count -/
def pX (fit : Int → Bool) (need : Int) (l : List (Int × Int)) : List Int := ((cnt fit l).take need.toNat).map Prod.fst
def pY (fit : Int → Bool) (need : Int) (l : List (Int × Int)) : List Int := ((cnt fit l).take need.toNat).map Prod.snd
def enough (fit : Int → Bool) (need : Int) (l : List (Int × Int)) : Bool := decide (1 ≤ need) && decide (need ≤ ((cnt fit l).length : Int))
noncomputable def jn (need : Int) (l : List (Int × Int)) : Int := if enough rq need l then js (pX rq need l) 0 ((pX rq need l).zip (pY rq need l)) else 0
noncomputable def lf (need : Int) (l : List (Int × Int)) : Int := if enough mem need l then jl (pX mem need l) 1 ((pX mem need l).zip (pY mem need l)) else 0
theorem enough_yes {fit : Int → Bool} {need : Int} {l : List (Int × Int)} (h1 : 1 ≤ need) (h2 : need ≤ ((cnt fit l).length : Int)) : enough fit need l = true := by
  unfold enough; simp [h1, h2]
theorem enough_no {fit : Int → Bool} {need : Int} {l : List (Int × Int)} (h : need < 1 ∨ ((cnt fit l).length : Int) < need) : enough fit need l = false := by
  unfold enough
  rcases h with h | h
  · rw [decide_eq_false (show ¬ 1 ≤ need by omega)]; rfl
  · rw [decide_eq_false (show ¬ need ≤ ((cnt fit l).length : Int) by omega), Bool.and_false]
set_option maxRecDepth 100000 in
theorem Join_any (w : World) (need : Int) (v : Value) (l : List (Int × Int)) (hV : ShL w v l) (hn : i64 need) (r : Int) (ok : Bool) (hr : jn need l = r) (hok : enough rq need l = ok) :
    Calls Try.prog 12 #[.int .i64 need, v] w fun e w' => e = .returned (.tuple #[.int .i64 r, .bool ok]) ∧ Below w.heap.size w w' := by
  have F := Lib.hid (first_r w need v l hV hn)
  have HR := Lib.hid (And.intro hr hok)
  clear hV hr hok
  go_enter Try.func12, Try.ntmps12
  go_wp2_with fail
  refine F.out.mono ?_
  rintro e w1 ⟨hb, h⟩
  rcases h with ⟨h1, h2, pv, yv, rfl, hp, hy⟩ | ⟨h, rfl⟩
  · have he := enough_yes h1 h2
    have hj : js (pX rq need l) 0 ((pX rq need l).zip (pY rq need l)) = r := by rw [← HR.out.1]; unfold jn; rw [he]; rfl
    obtain rfl : ok = true := by rw [← HR.out.2]; exact he
    have S := Lib.hid (sum_any w1 pv yv (pX rq need l) (pY rq need l) hp hy (cnt_pts rq l _) (by unfold pX pY; rw [List.length_map, List.length_map]) r hj)
    have HB := Lib.hid hb
    clear hb hj he h1 h2 hp hy
    go_wp2_with fail
    refine S.out.mono ?_
    rintro e w2 ⟨rfl, b⟩
    have hb := Lib.hid (HB.out.trans (b.mono HB.out.size)); clear b
    go_wp2
    go_ret2
    exact ⟨rfl, hb.out⟩
  · have he := enough_no h
    obtain rfl : r = 0 := by rw [← HR.out.1]; unfold jn; rw [he]; rfl
    obtain rfl : ok = false := by rw [← HR.out.2]; exact he
    have HB := Lib.hid hb
    clear hb he h
    go_wp2
    go_ret2
    exact ⟨rfl, HB.out⟩
set_option maxRecDepth 100000 in
theorem Lift_any (w : World) (need : Int) (v : Value) (l : List (Int × Int)) (hV : ShL w v l) (hn : i64 need) (r : Int) (ok : Bool) (hr : lf need l = r) (hok : enough mem need l = ok) :
    Calls Try.prog 14 #[.int .i64 need, v] w fun e w' => e = .returned (.tuple #[.int .i64 r, .bool ok]) ∧ Below w.heap.size w w' := by
  have F := Lib.hid (first_m w need v l hV hn)
  have HR := Lib.hid (And.intro hr hok)
  clear hV hr hok
  go_enter Try.func14, Try.ntmps14
  go_wp2_with fail
  refine F.out.mono ?_
  rintro e w1 ⟨hb, h⟩
  rcases h with ⟨h1, h2, pv, yv, rfl, hp, hy⟩ | ⟨h, rfl⟩
  · have he := enough_yes h1 h2
    have hj : jl (pX mem need l) 1 ((pX mem need l).zip (pY mem need l)) = r := by rw [← HR.out.1]; unfold lf; rw [he]; rfl
    obtain rfl : ok = true := by rw [← HR.out.2]; exact he
    have hlen : (pX mem need l).length = (pY mem need l).length := by unfold pX pY; rw [List.length_map, List.length_map]
    have hP : Pts (pX mem need l) := cnt_pts mem l _
    have hp' : SLi w1 pv (pX mem need l) := hp
    have hy' : SLi w1 yv (pY mem need l) := hy
    clear hp hy
    generalize pX mem need l = ps at *
    generalize pY mem need l = ys at *
    obtain ⟨p, c, rfl, bp⟩ := hp'.form
    obtain ⟨q, m, rfl, by'⟩ := hy'.form
    have hB1 := (Below.refl w1.heap.size w1).alloc (Nat.le_refl _) (.cells #[.slice q ys.length m] 38)
    have B1 := by' w1 (Below.refl _ _)
    have B2 := bp (w1.alloc (.cells #[.slice q ys.length m] 38)) hB1
    have B3 := B1.next ((Below.refl _ _).alloc (Nat.le_refl _) (.cells #[.slice p ps.length c] 38))
    have hB2 := hB1.alloc hB1.size (.cells #[.slice p ps.length c] 38)
    rw [World.size_alloc] at B2
    have F2 := Lib.hid (fold_lift _ 1 _ _ p q c m ps ys B2 B3 hP hlen (by decide))
    rw [hj] at F2
    have HB := Lib.hid (hb.trans (hB2.mono hb.size))
    clear hB1 B1 B2 B3 hB2 hp' hy' bp by' hP hlen hj hb he h1 h2
    generalize ps.length = n at *
    generalize ys.length = n2 at *
    go_wp2_with fail
    refine (factors_any _ _ _ _).mono ?_
    rintro e w' ⟨rfl, rfl⟩
    go_wp2_with fail
    refine F2.out.mono ?_
    rintro e w3 ⟨rfl, b⟩
    have hb := Lib.hid (HB.out.trans (b.mono HB.out.size)); clear b
    go_wp2
    go_ret2
    exact ⟨rfl, hb.out⟩
  · have he := enough_no h
    obtain rfl : r = 0 := by rw [← HR.out.1]; unfold lf; rw [he]; rfl
    obtain rfl : ok = false := by rw [← HR.out.2]; exact he
    have HB := Lib.hid (hb.alloc hb.size (.cells #[.slice none 0 0] 38))
    clear hb he h
    go_wp2
    go_ret2
    exact ⟨rfl, HB.out⟩

open Classical in
noncomputable def shk (from_ ys : List Int) : Bool := decide (from_.length ≠ 0 ∧ from_.length = ys.length ∧ DF 1152921504606845788 from_)
noncomputable def sh (from_ ys : List Int) : Int := if shk from_ ys then js from_ 0 (from_.zip ys) else 0
theorem df_pts {l : List Int} (h : DF 1152921504606845788 l) : Pts l := ⟨fun x hx => by have := h.1 x hx; omega, h.2⟩
open Classical in
set_option maxRecDepth 100000 in
theorem Share_any (w : World) (pv yv : Value) (ps ys : List Int) (hp : SLi w pv ps) (hy : SLi w yv ys) (r : Int) (ok : Bool) (hr : sh ps ys = r) (hok : shk ps ys = ok) :
    Calls Try.prog 16 #[pv, yv] w fun e w' => e = .returned (.tuple #[.int .i64 r, .bool ok]) ∧ Below w.heap.size w w' := by
  have hn1 := hp.n
  have hn2 := hy.n
  have D := Lib.hid (areDifferent_any w pv ps 1152921504606845788 hp (by decide))
  obtain ⟨⟨p, c, rfl, hc⟩, hr1, _⟩ := id hp
  obtain ⟨⟨q, m, rfl, hc2⟩, hr2, _⟩ := id hy
  have HP := Lib.hid (And.intro hp hy)
  have HR := Lib.hid (And.intro hr hok)
  clear hp hy hc hc2 hr1 hr2 hr hok
  by_cases h0 : ps.length = 0
  · have hk : shk ps ys = false := decide_eq_false (fun h => h.1 h0)
    obtain rfl : r = 0 := by rw [← HR.out.1]; unfold sh; rw [hk]; rfl
    obtain rfl : ok = false := by rw [← HR.out.2]; exact hk
    rw [h0]
    clear D HP HR hk h0
    generalize ys.length = n2 at *
    go_enter Try.func16, Try.ntmps16
    go_wp2
    go_ret2
    exact ⟨rfl, Below.refl _ _⟩
  by_cases h1 : ps.length = ys.length
  · by_cases h2 : DF 1152921504606845788 ps
    · have hk : shk ps ys = true := decide_eq_true ⟨h0, h1, h2⟩
      have hj : js ps 0 (ps.zip ys) = r := by rw [← HR.out.1]; unfold sh; rw [hk]; rfl
      obtain rfl : ok = true := by rw [← HR.out.2]; exact hk
      rw [decide_eq_true h2] at D
      have S := Lib.hid fun W (hW : Below w.heap.size w W) => sum_any W _ _ ps ys (HP.out.1.next hW) (HP.out.2.next hW) (df_pts h2) h1 r hj
      clear HP HR hk hj h2
      have h0' : 0 < ps.length := by omega
      rw [← h1] at S ⊢
      clear h1 h0
      generalize ps.length = n at *
      go_enter Try.func16, Try.ntmps16
      go_wp2_with fail
      refine D.out.mono ?_
      rintro e w1 ⟨rfl, b1⟩
      have HB := Lib.hid b1; clear b1
      go_wp2_with fail
      refine (S.out _ HB.out).mono ?_
      rintro e w2 ⟨rfl, b⟩
      have hb := Lib.hid (HB.out.trans (b.mono HB.out.size)); clear b
      go_wp2
      go_ret2
      exact ⟨rfl, hb.out⟩
    · have hk : shk ps ys = false := decide_eq_false (fun h => h2 h.2.2)
      obtain rfl : r = 0 := by rw [← HR.out.1]; unfold sh; rw [hk]; rfl
      obtain rfl : ok = false := by rw [← HR.out.2]; exact hk
      rw [decide_eq_false h2] at D
      clear HP HR hk h2
      have h0' : 0 < ps.length := by omega
      rw [← h1]
      clear h1 h0
      generalize ps.length = n at *
      go_enter Try.func16, Try.ntmps16
      go_wp2_with fail
      refine D.out.mono ?_
      rintro e w1 ⟨rfl, b1⟩
      have HB := Lib.hid b1; clear b1
      go_wp2
      go_ret2
      exact ⟨rfl, HB.out⟩
  · have hk : shk ps ys = false := decide_eq_false (fun h => h1 h.2.1)
    obtain rfl : r = 0 := by rw [← HR.out.1]; unfold sh; rw [hk]; rfl
    obtain rfl : ok = false := by rw [← HR.out.2]; exact hk
    clear HP HR hk D
    have h0' : 0 < ps.length := by omega
    have h1' : ¬ (ps.length : Int) = (ys.length : Int) := by omega
    clear h1 h0
    generalize ps.length = n at *
    generalize ys.length = n2 at *
    go_enter Try.func16, Try.ntmps16
    go_wp2
    go_ret2
    exact ⟨rfl, Below.refl _ _⟩
end Go.Proofs.Ytihplnomhfpajaa.W8
