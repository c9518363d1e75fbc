/-
  The walk of the reference's Share.
-/
import Derived.Test.YtihplnomhfpajaaWFacR
namespace Go.Proofs.Ytihplnomhfpajaa.W8
open Go.RowKit GM G4 D7P Go.Maps
/-- whether a number is a point that differs from those before it -/
def fkn (b : Bool) (l : List Int) (x : Int) (k : Nat) : Bool := b && !(l.take k).contains x
theorem fkn_zero (b : Bool) (l : List Int) (x : Int) : fkn b l x 0 = b := by unfold fkn; simp
theorem fkn_succ {b : Bool} {l : List Int} {x : Int} {k : Nat} {s : Int} (h : l[k]? = some s) : fkn b l x (k+1) = (fkn b l x k && !(s == x)) := by
  unfold fkn
  rw [List.take_add_one, h, List.contains_append]
  by_cases e : s = x
  · subst e; simp
  · have e' : ¬ x = s := fun h => e h.symm
    simp [e, e']
theorem df_snoc {l : List Int} {k : Nat} {x : Int} (h : DF 1152921504606845788 (l.take k)) (hx : l[k]? = some x) (hf : fkn (ptq x) l x k = true) : DF 1152921504606845788 (l.take (k+1)) := by
  unfold fkn ptq at hf
  simp only [Bool.and_eq_true, decide_eq_true_eq, Bool.not_eq_true'] at hf
  exact h.snoc hx hf.1.1 (by omega) hf.2
theorem df_not {l : List Int} {k : Nat} {x : Int} (hx : l[k]? = some x) (hf : fkn (ptq x) l x k = false) : ¬ DF 1152921504606845788 l := by
  refine DF.not hx ?_
  unfold fkn ptq at hf
  cases h : (l.take k).contains x with
  | true => exact .inr (.inr rfl)
  | false =>
    rw [h] at hf
    by_cases h1 : 1 ≤ x
    · by_cases h2 : x < 1152921504606845789
      · simp [h1, h2] at hf
      · exact .inr (.inl (by omega))
    · exact .inl (by omega)
theorem js_take {ps ys : List Int} {j : Nat} {x y : Int} (hx : ps[j]? = some x) (hy : ys[j]? = some y) : js ps 0 ((ps.zip ys).take (j+1)) = ga (js ps 0 ((ps.zip ys).take j)) (gm y (fx ps x) 1152921504606845789) 1152921504606845789 := by
  have h : (ps.zip ys)[j]? = some (x, y) := by rw [List.getElem?_zip_eq_some]; exact ⟨hx, hy⟩
  rw [List.take_add_one, h]
  exact js_snoc ps 0 _ (x, y)
theorem own_fx {w : World} {base : Nat} {u : Value} {ps : List Int} (h : w.ownsRow base 3 1 u ps.length ((ps.map (fx ps)).map (Value.int .i64))) (hn : ps.length ≤ 1000000000) : SLi w u (ps.map (fx ps)) :=
  own_SLi (base := base) (by rw [List.length_map]; exact h) (fun y hy => by
    obtain ⟨x, _, rfl⟩ := List.mem_map.1 hy
    have := fx_rng ps x
    exact ⟨by omega, by omega⟩) (by rw [List.length_map]; exact hn)
open Classical in
set_option maxRecDepth 100000 in
set_option maxHeartbeats 8000000 in
theorem refShare_any (w : World) (pv yv : Value) (ps ys : List Int) (hp : SLi w pv ps) (hy : SLi w yv ys) (r : Int) (ok : Bool) (hr : sh ps ys = r) (hok : shk ps ys = ok) :
    Calls Try.prog 17 #[pv, yv] w fun e w' => e = .returned (.tuple #[.int .i64 r, .bool ok]) ∧ Below w.heap.size w w' := by
  have hn1 := hp.n
  have hn2 := hy.n
  obtain ⟨⟨p, c, rfl, hc⟩, hr1, _⟩ := id hp
  obtain ⟨⟨q, m, rfl, hc2⟩, hr2, _⟩ := id hy
  have HP := Lib.hid (And.intro hp hy)
  have HR := Lib.hid (And.intro hr hok)
  clear hp hy hr hok
  have bad : ¬ DF 1152921504606845788 ps ∨ ps.length = 0 ∨ ps.length ≠ ys.length → r = 0 ∧ ok = false := fun h => by
    have hk : shk ps ys = false := decide_eq_false (fun k => by
      rcases h with h | h | h
      · exact h k.2.2
      · exact k.1 h
      · exact h k.2.1)
    exact ⟨by rw [← HR.out.1]; unfold sh; rw [hk]; rfl, by rw [← HR.out.2]; exact hk⟩
  have BAD := Lib.hid bad; clear bad
  by_cases h0 : ps.length = 0
  · obtain ⟨rfl, rfl⟩ := BAD.out (.inr (.inl h0))
    rw [h0]
    clear HP HR BAD h0 hc hc2 hr1 hr2
    generalize ys.length = n2 at *
    go_enter Try.func17, Try.ntmps17
    go_wp2
    go_ret2
    exact ⟨rfl, Below.refl _ _⟩
  by_cases h1 : ps.length = ys.length
  · have HI := Lib.hid (And.intro hc (And.intro hc2 (And.intro hr1 hr2))); clear hc hc2 hr1 hr2
    obtain ⟨N, hN⟩ : ∃ N, ps.length = N := ⟨_, rfl⟩
    rw [← h1] at HP ⊢
    rw [hN] at h0 hn1 HP ⊢
    have HN := Lib.hid (And.intro hN (hN.symm.trans h1)); clear hN h1 hn2
    have hz : ((N : Int) == 0) = false := by rw [beq_eq_false_iff_ne]; omega
    go_enter Try.func17, Try.ntmps17
    go_wp2_with fail
    go_loopw [6] (fun i wr => ∃ (k : Nat), k ≤ N ∧ i = .int .i64 (k : Int) ∧ Hid (DF 1152921504606845788 (ps.take k) ∧ Below w.heap.size w wr)) (fun i _ => N - (match i with | .int _ i => i.toNat | _ => 0))
    case atStart => exact ⟨0, Nat.zero_le _, rfl, Lib.hid ⟨⟨by simp, by simp⟩, Below.refl _ _⟩⟩
    case round =>
      obtain ⟨k, hk, rfl, hQ⟩ := hrel
      by_cases hlt : k < N
      · obtain ⟨x, hx⟩ : ∃ s, ps[k]? = some s := ⟨ps[k]'(by rw [HN.out.1]; exact hlt), List.getElem?_eq_getElem _⟩
        obtain ⟨b, o, hpp, hcx⟩ := HI.out.1 k x hx
        subst hpp
        have c0 := (hQ.out.2.cell (p := ⟨b, o + k, none⟩) (World.block_lt_of_cell? _ _ hcx)).trans hcx
        have HX := Lib.hid (And.intro hx c0)
        have P := Lib.hid fun W => point_any W x _ rfl
        obtain ⟨f0, hf0⟩ : ∃ f0, ptq x = f0 := ⟨_, rfl⟩
        rw [hf0] at P
        have HF := Lib.hid hf0
        clear hx hcx hf0
        go_wp2_with fail
        refine (P.out _).mono ?_
        rintro e w1 ⟨rfl, rfl⟩
        have HB0 := Lib.hid (Below.refl w1.heap.size w1)
        go_wp2_with fail
        clear c0
        go_loopw [7, 8] (fun f i wx => ∃ (j : Nat), j ≤ k ∧ f = .bool (fkn f0 ps x j) ∧ i = .int .i64 (j : Int) ∧ Hid (Below w1.heap.size w1 wx)) (fun _ i _ => k - (match i with | .int _ i => i.toNat | _ => 0))
        case atStart => exact ⟨0, Nat.zero_le _, by rw [fkn_zero], rfl, HB0⟩
        case round =>
          obtain ⟨j, hj, rfl, rfl, hb⟩ := hrel
          by_cases hjlt : j < k
          · obtain ⟨x2, hx2⟩ : ∃ s, ps[j]? = some s := ⟨ps[j]'(by rw [HN.out.1]; omega), List.getElem?_eq_getElem _⟩
            obtain ⟨ba, oa, hpa, ha0⟩ := HI.out.1 j _ hx2
            have hpa : b = ba ∧ o = oa := by simpa using hpa
            obtain ⟨rfl, rfl⟩ := hpa
            have d0 := ((hQ.out.2.trans (hb.out.mono hQ.out.2.size)).cell (p := ⟨b, o + j, none⟩) (World.block_lt_of_cell? _ _ ha0)).trans ha0
            have c0 := (hb.out.cell (p := ⟨b, o + k, none⟩) (World.block_lt_of_cell? _ _ HX.out.2)).trans HX.out.2
            have hs2 := Lib.hid (fkn_succ (b := f0) (x := x) hx2)
            have hb2 := Lib.hid hb.out.drew
            have hjN : j < N := by omega
            clear hx2 ha0
            cases hf : fkn f0 ps x j with
            | false =>
              have e2 : fkn f0 ps x (j+1) = false := by rw [hs2.out, hf]; rfl
              have E2 := Lib.hid e2
              clear e2 hf
              go_wp2_with fail
              go_region
              go_wp2
              exact ⟨⟨j + 1, by omega, by rw [E2.out], by go_num, hb2⟩, by simp; omega⟩
            | true =>
              by_cases e : x2 = x
              · have e2 : fkn f0 ps x (j+1) = false := by rw [hs2.out, hf]; simp [e]
                have E2 := Lib.hid e2
                clear e2 hf
                subst e
                go_wp2_with fail
                go_region
                go_wp2
                exact ⟨⟨j + 1, by omega, by rw [E2.out], by go_num, hb2⟩, by simp; omega⟩
              · have e2 : fkn f0 ps x (j+1) = true := by rw [hs2.out, hf]; simp [e]
                have E2 := Lib.hid e2
                clear e2 hf
                go_wp2_with fail
                go_region
                go_wp2
                exact ⟨⟨j + 1, by omega, by rw [E2.out]; simp [e], by go_num, hb2⟩, by simp; omega⟩
          · obtain rfl : j = k := by omega
            have HW := Lib.hid (hQ.out.2.trans (hb.out.mono hQ.out.2.size))
            clear hb
            cases hf : fkn f0 ps x j with
            | false =>
              obtain ⟨rfl, rfl⟩ := BAD.out (.inl (df_not HX.out.1 (by rw [HF.out]; exact hf)))
              clear hf
              go_wp2
              go_ret2
              exact ⟨rfl, HW.out⟩
            | true =>
              have K9 := Lib.hid (show DF 1152921504606845788 (ps.take (j+1)) ∧ Below w.heap.size w wr from ⟨df_snoc hQ.out.1 HX.out.1 (by rw [HF.out]; exact hf), HW.out⟩)
              clear hf
              go_wp2
              exact ⟨⟨j + 1, by omega, by go_num, K9⟩, by simp; omega⟩
      · obtain rfl : k = N := by omega
        have hE : ps.take k = ps := List.take_of_length_le (by rw [HN.out.1]; exact Nat.le_refl _)
        rw [hE] at hQ
        have hk' : shk ps ys = true := decide_eq_true ⟨by rw [HN.out.1]; exact h0, by rw [HN.out.1]; exact HN.out.2, hQ.out.1⟩
        have hj : js ps 0 (ps.zip ys) = r := by rw [← HR.out.1]; unfold sh; rw [hk']; rfl
        obtain rfl : ok = true := by rw [← HR.out.2]; exact hk'
        have F := Lib.hid (Factors_any wr _ ps (HP.out.1.next hQ.out.2) (df_pts hQ.out.1))
        have HJ := Lib.hid hj
        have HB := Lib.hid hQ.out.2
        have HPt := Lib.hid (df_pts hQ.out.1)
        clear hE hk' hj hQ BAD
        go_wp2_with fail
        refine F.out.mono ?_
        rintro e w2 ⟨u, rfl, hu, b2⟩
        have hfx := own_fx hu (by rw [HN.out.1]; exact hn1)
        obtain ⟨⟨pf, cf, rfl, hcf⟩, _, _⟩ := id hfx
        have HB2 := Lib.hid (HB.out.trans (b2.mono HB.out.size))
        have HFX := Lib.hid (And.intro hcf (And.intro HN.out.1 HN.out.2))
        clear hu b2 F HB hfx hcf
        have hlf : (ps.map (fx ps)).length = k := by rw [List.length_map]; exact HN.out.1
        rw [hlf]
        clear hlf
        go_wp2_with fail
        go_loopw [10, 11] (fun s i wx => ∃ (j : Nat), j ≤ k ∧ s = .int .i64 (js ps 0 ((ps.zip ys).take j)) ∧ i = .int .i64 (j : Int) ∧ Hid (Below w2.heap.size w2 wx)) (fun _ i _ => k - (match i with | .int _ i => i.toNat | _ => 0))
        case atStart => exact ⟨0, Nat.zero_le _, by simp [js], rfl, Lib.hid (Below.refl _ _)⟩
        case round =>
          obtain ⟨j, hj, rfl, rfl, hb⟩ := hrel
          by_cases hjlt : j < k
          · obtain ⟨x, hx⟩ : ∃ s, ps[j]? = some s := ⟨ps[j]'(by rw [HN.out.1]; exact hjlt), List.getElem?_eq_getElem _⟩
            obtain ⟨y, hy⟩ : ∃ s, ys[j]? = some s := ⟨ys[j]'(by rw [← HN.out.2]; exact hjlt), List.getElem?_eq_getElem _⟩
            obtain ⟨b, o, hq, hcy⟩ := HI.out.2.1 j y hy
            subst hq
            obtain ⟨bf, of, hpf, hcfx⟩ := HFX.out.1 j (fx ps x) (by rw [List.getElem?_map, hx]; rfl)
            subst hpf
            have hiy := HI.out.2.2.2 y (List.mem_of_getElem? hy)
            have cy := ((HB2.out.trans (hb.out.mono HB2.out.size)).cell (p := ⟨b, o + j, none⟩) (World.block_lt_of_cell? _ _ hcy)).trans hcy
            have cf := (hb.out.cell (p := ⟨bf, of + j, none⟩) (World.block_lt_of_cell? _ _ hcfx)).trans hcfx
            have hE := js_take hx hy
            have hf := fx_rng ps x
            have hjr := js_rng ps ((ps.zip ys).take j) 0 (by decide)
            have hgm := mQr y (fx ps x)
            have M1 := Lib.hid fun W => rMul_c W (fx ps x) y 1152921504606845789 (gm y (fx ps x) 1152921504606845789) (gm_comm _ _ _) ⟨by omega, by omega⟩ hiy (by decide)
            have A1 := Lib.hid fun W => rAdd_c W (js ps 0 ((ps.zip ys).take j)) (gm y (fx ps x) 1152921504606845789) 1152921504606845789 _ rfl ⟨by omega, by omega⟩ ⟨by omega, by omega⟩ (by decide)
            have E := Lib.hid hE
            have hb2 := Lib.hid hb.out.drew
            clear hx hy hcy hcfx hE hf hjr hgm
            generalize js ps 0 ((ps.zip ys).take j) = s0 at *
            generalize fx ps x = f at *
            generalize gm y f 1152921504606845789 = d at *
            generalize ga s0 d 1152921504606845789 = s1 at *
            go_wp2_with fail
            go_region_with (first
              | ((with_reducible refine (M1.out _).mono ?_); rintro e w3 ⟨rfl, rfl⟩)
              | ((with_reducible refine (A1.out _).mono ?_); rintro e w3 ⟨rfl, rfl⟩))
            all_goals
              go_wp2
              exact ⟨⟨j + 1, by omega, by rw [E.out], by go_num, hb2⟩, by simp; omega⟩
          · obtain rfl : j = k := by omega
            have hE : (ps.zip ys).take j = ps.zip ys := List.take_of_length_le (by rw [List.length_zip, HN.out.1]; omega)
            rw [hE, HJ.out]
            have HW := Lib.hid (HB2.out.trans (hb.out.mono HB2.out.size))
            clear hE hb
            go_wp2
            go_ret2
            exact ⟨rfl, HW.out⟩
  · obtain ⟨rfl, rfl⟩ := BAD.out (.inr (.inr h1))
    have h1' : ((ps.length : Int) != (ys.length : Int)) = true := by rw [bne_iff_ne]; omega
    have hz : ((ps.length : Int) == 0) = false := by rw [beq_eq_false_iff_ne]; omega
    clear HP HR BAD h0 hc hc2 hr1 hr2 h1
    generalize ps.length = n at *
    generalize ys.length = n2 at *
    go_enter Try.func17, Try.ntmps17
    go_wp2
    go_ret2
    exact ⟨rfl, Below.refl _ _⟩
end Go.Proofs.Ytihplnomhfpajaa.W8
