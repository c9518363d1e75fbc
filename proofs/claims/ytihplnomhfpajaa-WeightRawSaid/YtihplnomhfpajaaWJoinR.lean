/-
  The walks of the reference's Join and Lift.
-/
import Derived.Test.YtihplnomhfpajaaWShareR
namespace Go.Proofs.Ytihplnomhfpajaa.W8
open Go.RowKit GM G4 D7P Go.Maps
theorem cut_shares {a : Addr} {n c m : Nat} (need : Int) (hn : need = (m : Int)) (h1 : m ≤ n) (h3 : n ≤ c) (V : World) : (Instr.sliceAt 37 (.slice (some a) n c) none (some (.int .i64 need)) none).run Try.prog V = .ok (.slice (some a) m c) V := by
  subst hn
  simp [Instr.sliceAt, run_underlying Try.underlying37, go_sem]
  intro hlt
  omega
theorem ShL.take {w : World} {p : Option Addr} {n c : Nat} {l : List (Int × Int)} (h : ShL w (.slice p n c) l) (m : Nat) (hm : m ≤ l.length) : ShL w (.slice p m c) (l.take m) := by
  obtain ⟨⟨p', c', e, hc⟩, hr, hn⟩ := h
  injection e with e1 _ e3
  subst e1 e3
  have hl : (l.take m).length = m := by rw [List.length_take]; omega
  refine ⟨⟨p, c, by rw [hl], fun j s hj => ?_⟩, fun s hs => hr s (List.mem_of_mem_take hs), by rw [hl]; omega⟩
  have hjm : j < m := by have := (List.getElem?_eq_some_iff.1 hj).1; omega
  rw [List.getElem?_take_of_lt hjm] at hj
  exact hc j s hj
theorem SR.slis {w W : World} {pv yv : Value} {X Y : List Int} (h : SR w pv yv X Y W) (hx : ∀ x ∈ X, i64 x) (hy : ∀ x ∈ Y, i64 x) (hl : X.length ≤ 1000000000) (hl2 : Y.length ≤ 1000000000) : SLi W pv X ∧ SLi W yv Y :=
  ⟨own_SLi h.ox hx hl, own_SLi h.oy hy hl2⟩
open Classical in
theorem sh_pts {ps ys : List Int} (hP : Pts ps) (h0 : ps.length ≠ 0) (h1 : ps.length = ys.length) : shk ps ys = true ∧ sh ps ys = js ps 0 (ps.zip ys) := by
  have hk : shk ps ys = true := by
    unfold shk
    rw [decide_eq_true_eq]
    exact ⟨h0, h1, fun x hx => by have := hP.r x hx; omega, hP.d⟩
  exact ⟨hk, by unfold sh; rw [hk]; rfl⟩
theorem jl_take {ps ys : List Int} {j : Nat} {x y : Int} (hx : ps[j]? = some x) (hy : ys[j]? = some y) : jl ps 1 ((ps.zip ys).take (j+1)) = gm (jl ps 1 ((ps.zip ys).take j)) (gp y (fx ps x) 2305843009213691579) 2305843009213691579 := by
  have h : (ps.zip ys)[j]? = some (x, y) := by rw [List.getElem?_zip_eq_some]; exact ⟨hx, hy⟩
  rw [List.take_add_one, h]
  exact jl_snoc ps 1 _ (x, y)
/-- the first shares that count: points and numbers -/
theorem px_facts (fit : Int → Bool) (need : Int) (l : List (Int × Int)) (h1 : 1 ≤ need) (h2 : need ≤ ((cnt fit l).length : Int)) (hr : ∀ s ∈ l, i64 s.1 ∧ i64 s.2) (hn : l.length ≤ 1000000000) :
    ∃ m : Nat, need = (m : Int) ∧ m ≤ (cnt fit l).length ∧ 1 ≤ m ∧ (pX fit need l).length = m ∧ (pY fit need l).length = m ∧ Pts (pX fit need l) ∧ (∀ x ∈ pX fit need l, i64 x) ∧ (∀ x ∈ pY fit need l, i64 x) ∧ m ≤ 1000000000 ∧
      ((cnt fit l).take m).map Prod.fst = pX fit need l ∧ ((cnt fit l).take m).map Prod.snd = pY fit need l := by
  have hcl := cnt_len fit l
  have hri := cnt_i fit l hr l.length
  rw [List.take_length] at hri
  refine ⟨need.toNat, by omega, by omega, by omega, ?_, ?_, cnt_pts fit l _, fun x hx => ?_, fun x hx => ?_, by omega, rfl, rfl⟩
  · unfold pX; rw [List.length_map, List.length_take]; omega
  · unfold pY; rw [List.length_map, List.length_take]; omega
  · obtain ⟨s, hs, rfl⟩ := List.mem_map.1 hx
    exact (hri s (List.mem_of_mem_take hs)).1
  · obtain ⟨s, hs, rfl⟩ := List.mem_map.1 hx
    exact (hri s (List.mem_of_mem_take hs)).2
set_option maxRecDepth 100000 in
set_option maxHeartbeats 4000000 in
theorem refJoin_any (w : World) (need : Int) (v : Value) (l : List (Int × Int)) (hV : ShL w v l) (hn : i64 need) (r : Int) (ok : Bool) (hr : jn need l = r) (hok : enough rq need l = ok) :
    Calls Try.prog 13 #[.int .i64 need, v] w fun e w' => e = .returned (.tuple #[.int .i64 r, .bool ok]) ∧ Below w.heap.size w w' := by
  have hri := hV.2.1
  have hln := hV.2.2
  have C := Lib.hid (Counting_r w v l hV)
  have HR := Lib.hid (And.intro hr hok)
  clear hV hr hok
  go_enter Try.func13, Try.ntmps13
  go_wp2_with fail
  refine C.out.mono ?_
  rintro e w1 ⟨u, rfl, hu, b1⟩
  have hcl := cnt_len rq l
  have hci := cnt_i rq l hri l.length
  rw [List.take_length] at hci
  have hSH := own_ShL hu hci (by omega)
  obtain ⟨p, c, rfl⟩ := own_shape hu
  by_cases h1 : need < 1
  · have he := enough_no (fit := rq) (need := need) (l := l) (.inl h1)
    obtain rfl : r = 0 := by rw [← HR.out.1]; unfold jn; rw [he]; rfl
    obtain rfl : ok = false := by rw [← HR.out.2]; exact he
    have HB := Lib.hid b1
    clear hu hSH he hci b1
    generalize (cnt rq l).length = n at *
    go_wp2
    go_ret2
    exact ⟨rfl, HB.out⟩
  by_cases h2 : ((cnt rq l).length : Int) < need
  · have he := enough_no (fit := rq) (need := need) (l := l) (.inr h2)
    obtain rfl : r = 0 := by rw [← HR.out.1]; unfold jn; rw [he]; rfl
    obtain rfl : ok = false := by rw [← HR.out.2]; exact he
    have HB := Lib.hid b1
    clear hu hSH he hci b1
    generalize (cnt rq l).length = n at *
    go_wp2
    go_ret2
    exact ⟨rfl, HB.out⟩
  have he := enough_yes (fit := rq) (need := need) (l := l) (by omega) (by omega)
  obtain ⟨m, hm, hmn, hm1, hlx, hly, hP, hxi, hyi, hm9, ex, ey⟩ := px_facts rq need l (by omega) (by omega) hri hln
  have hs := sh_pts hP (by omega) (hlx.trans hly.symm)
  have hj : js (pX rq need l) 0 ((pX rq need l).zip (pY rq need l)) = r := by rw [← HR.out.1]; unfold jn; rw [he]; rfl
  obtain rfl : ok = true := by rw [← HR.out.2]; exact he
  have hcap : (cnt rq l).length ≤ c ∧ ∃ a, p = some a := by
    rcases hu.2 with ⟨e, h0⟩ | ⟨g, cap, cur, e, _, _, k4, _⟩
    · omega
    · injection e with e1 _ e3
      exact ⟨by omega, _, e1⟩
  obtain ⟨hcc, a, rfl⟩ := hcap
  have hct := cut_shares (a := a) need hm hmn hcc
  have SP := Lib.hid (split_any w1 _ _ (hSH.take m hmn))
  rw [ex, ey] at SP
  have HJ := Lib.hid (And.intro hs.1 (hs.2.trans hj))
  have HX := Lib.hid (And.intro hxi (And.intro hyi (And.intro (show (pX rq need l).length ≤ 1000000000 by omega) (show (pY rq need l).length ≤ 1000000000 by omega))))
  have HB := Lib.hid b1
  clear hu hSH he hci b1 hP hxi hyi ex ey hs hj hlx hly hm hmn hcc
  generalize pX rq need l = ps at *
  generalize pY rq need l = ys at *
  generalize (cnt rq l).length = n at *
  go_wp2_with fail
  refine SP.out.mono ?_
  rintro e w2 ⟨xv, yv, rfl, hS⟩
  have h3 := hS.slis HX.out.1 HX.out.2.1 HX.out.2.2.1 HX.out.2.2.2
  have SH := Lib.hid (refShare_any w2 xv yv ps ys h3.1 h3.2 r true HJ.out.2 HJ.out.1)
  have HB2 := Lib.hid (HB.out.trans (hS.b.mono HB.out.size))
  clear h3 hS hct
  go_wp2_with fail
  refine SH.out.mono ?_
  rintro e w3 ⟨rfl, b3⟩
  have HB3 := Lib.hid (HB2.out.trans (b3.mono HB2.out.size)); clear b3
  go_wp2
  go_ret2
  exact ⟨rfl, HB3.out⟩
set_option maxRecDepth 100000 in
set_option maxHeartbeats 4000000 in
theorem refLift_any (w : World) (need : Int) (v : Value) (l : List (Int × Int)) (hV : ShL w v l) (hn : i64 need) (r : Int) (ok : Bool) (hr : lf need l = r) (hok : enough mem need l = ok) :
    Calls Try.prog 15 #[.int .i64 need, v] w fun e w' => e = .returned (.tuple #[.int .i64 r, .bool ok]) ∧ Below w.heap.size w w' := by
  have hri := hV.2.1
  have hln := hV.2.2
  have C := Lib.hid (Counting_m w v l hV)
  have HR := Lib.hid (And.intro hr hok)
  clear hV hr hok
  go_enter Try.func15, Try.ntmps15
  go_wp2_with fail
  refine C.out.mono ?_
  rintro e w1 ⟨u, rfl, hu, b1⟩
  have hcl := cnt_len mem l
  have hci := cnt_i mem l hri l.length
  rw [List.take_length] at hci
  have hSH := own_ShL hu hci (by omega)
  obtain ⟨p, c, rfl⟩ := own_shape hu
  by_cases h1 : need < 1
  · have he := enough_no (fit := mem) (need := need) (l := l) (.inl h1)
    obtain rfl : r = 0 := by rw [← HR.out.1]; unfold lf; rw [he]; rfl
    obtain rfl : ok = false := by rw [← HR.out.2]; exact he
    have HB := Lib.hid b1
    clear hu hSH he hci b1
    generalize (cnt mem l).length = n at *
    go_wp2
    go_ret2
    exact ⟨rfl, HB.out⟩
  by_cases h2 : ((cnt mem l).length : Int) < need
  · have he := enough_no (fit := mem) (need := need) (l := l) (.inr h2)
    obtain rfl : r = 0 := by rw [← HR.out.1]; unfold lf; rw [he]; rfl
    obtain rfl : ok = false := by rw [← HR.out.2]; exact he
    have HB := Lib.hid b1
    clear hu hSH he hci b1
    generalize (cnt mem l).length = n at *
    go_wp2
    go_ret2
    exact ⟨rfl, HB.out⟩
  have he := enough_yes (fit := mem) (need := need) (l := l) (by omega) (by omega)
  obtain ⟨m, hm, hmn, hm1, hlx, hly, hP, hxi, hyi, hm9, ex, ey⟩ := px_facts mem need l (by omega) (by omega) hri hln
  have hj : jl (pX mem need l) 1 ((pX mem need l).zip (pY mem need l)) = r := by rw [← HR.out.1]; unfold lf; rw [he]; rfl
  obtain rfl : ok = true := by rw [← HR.out.2]; exact he
  have hcap : (cnt mem l).length ≤ c ∧ ∃ a, p = some a := by
    rcases hu.2 with ⟨e, h0⟩ | ⟨g, cap, cur, e, _, _, k4, _⟩
    · omega
    · injection e with e1 _ e3
      exact ⟨by omega, _, e1⟩
  obtain ⟨hcc, a, rfl⟩ := hcap
  have hct := cut_shares (a := a) need hm hmn hcc
  have SP := Lib.hid (split_any w1 _ _ (hSH.take m hmn))
  rw [ex, ey] at SP
  have HX := Lib.hid (And.intro hxi (And.intro hyi (And.intro (show (pX mem need l).length ≤ 1000000000 by omega) (show (pY mem need l).length ≤ 1000000000 by omega))))
  have HL := Lib.hid (And.intro hlx (And.intro hly (And.intro hP hj)))
  have HB := Lib.hid b1
  have HM := Lib.hid hm
  clear hu hSH he hci b1 hP hxi hyi ex ey hj hlx hly hmn hcc hm
  generalize pX mem need l = ps at *
  generalize pY mem need l = ys at *
  generalize (cnt mem l).length = n at *
  go_wp2_with fail
  refine SP.out.mono ?_
  rintro e w2 ⟨xv, yv, rfl, hS⟩
  have h3 := hS.slis HX.out.1 HX.out.2.1 HX.out.2.2.1 HX.out.2.2.2
  have F := Lib.hid (Factors_any w2 xv ps h3.1 HL.out.2.2.1)
  have HB2 := Lib.hid (HB.out.trans (hS.b.mono HB.out.size))
  obtain ⟨⟨q, d, rfl, hcy⟩, hyi, _⟩ := id h3.2
  have HY := Lib.hid (And.intro hcy hyi)
  clear h3 hS hct hcy hyi
  go_wp2_with fail
  refine F.out.mono ?_
  rintro e w3 ⟨u, rfl, hu, b3⟩
  have hfx := own_fx hu (by rw [HL.out.1]; exact hm9)
  obtain ⟨⟨pf, cf, rfl, hcf⟩, _, _⟩ := id hfx
  have HB3 := Lib.hid (HB2.out.trans (b3.mono HB2.out.size))
  have H23 := Lib.hid b3
  have HFX := Lib.hid hcf
  have hlf : (ps.map (fx ps)).length = m := by rw [List.length_map]; exact HL.out.1
  rw [hlf, HL.out.2.1]
  clear hu b3 F hfx hcf hlf hcl h2
  have hm := HM.out
  subst hm
  clear hn HM
  go_wp2_with fail
  go_loopw [10, 11] (fun s i wx => ∃ (j : Nat), j ≤ m ∧ s = .int .i64 (jl ps 1 ((ps.zip ys).take j)) ∧ i = .int .i64 (j : Int) ∧ Hid (Below w3.heap.size w3 wx)) (fun _ i _ => m - (match i with | .int _ i => i.toNat | _ => 0))
  case atStart => exact ⟨0, Nat.zero_le _, by simp [jl], rfl, Lib.hid (Below.refl _ _)⟩
  case round =>
    obtain ⟨j, hj, rfl, rfl, hb⟩ := hrel
    by_cases hjlt : j < m
    · obtain ⟨x, hx⟩ : ∃ s, ps[j]? = some s := ⟨ps[j]'(by rw [HL.out.1]; exact hjlt), List.getElem?_eq_getElem _⟩
      obtain ⟨y, hy⟩ : ∃ s, ys[j]? = some s := ⟨ys[j]'(by rw [HL.out.2.1]; exact hjlt), List.getElem?_eq_getElem _⟩
      obtain ⟨b, o, hq, hcy⟩ := HY.out.1 j y hy
      subst hq
      obtain ⟨bf, of, hpf, hcfx⟩ := HFX.out j (fx ps x) (by rw [List.getElem?_map, hx]; rfl)
      subst hpf
      have hiy := HY.out.2 y (List.mem_of_getElem? hy)
      have cy := ((H23.out.trans (hb.out.mono H23.out.size)).cell (p := ⟨b, o + j, none⟩) (World.block_lt_of_cell? _ _ hcy)).trans hcy
      have cf := (hb.out.cell (p := ⟨bf, of + j, none⟩) (World.block_lt_of_cell? _ _ hcfx)).trans hcfx
      have hE := jl_take hx hy
      have hf := fx_rng ps x
      have hjr := jl_rng ps ((ps.zip ys).take j) 1 (by decide)
      have hgp := pPr y (fx ps x)
      have P1 := Lib.hid fun W => refPow_c W y (fx ps x) _ rfl hiy ⟨by omega, by omega⟩
      have M1 := Lib.hid fun W => rMul_c W (jl ps 1 ((ps.zip ys).take j)) (gp y (fx ps x) 2305843009213691579) 2305843009213691579 _ rfl ⟨by omega, by omega⟩ ⟨by omega, by omega⟩ (by decide)
      have E := Lib.hid hE
      have hb2 := Lib.hid hb.out.drew
      clear hx hy hcy hcfx hE hf hjr hgp
      generalize jl ps 1 ((ps.zip ys).take j) = s0 at *
      generalize fx ps x = f at *
      generalize gp y f 2305843009213691579 = d1 at *
      generalize gm s0 d1 2305843009213691579 = s1 at *
      go_wp2_with fail
      go_region_with (first
        | ((with_reducible refine (P1.out _).mono ?_); rintro e w4 ⟨rfl, rfl⟩)
        | ((with_reducible refine (M1.out _).mono ?_); rintro e w4 ⟨rfl, rfl⟩))
      all_goals
        go_wp2
        exact ⟨⟨j + 1, by omega, by rw [E.out], by go_num, hb2⟩, by simp; omega⟩
    · obtain rfl : j = m := by omega
      have hE : (ps.zip ys).take j = ps.zip ys := List.take_of_length_le (by rw [List.length_zip, HL.out.1]; omega)
      rw [hE, HL.out.2.2.2]
      have HW := Lib.hid (HB3.out.trans (hb.out.mono HB3.out.size))
      clear hE hb
      go_wp2
      go_ret2
      exact ⟨rfl, HW.out⟩
end Go.Proofs.Ytihplnomhfpajaa.W8
