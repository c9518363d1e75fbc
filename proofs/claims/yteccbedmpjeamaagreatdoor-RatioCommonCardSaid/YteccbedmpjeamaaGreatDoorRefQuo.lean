/-
  The walks of the reference's digit and Quo.
-/
import Derived.Test.YteccbedmpjeamaaGreatDoorRefAdd
import Derived.Deep.RegionHeld
namespace Go.Proofs.YteccbedmpjeamaaGreatDoor
open Go.RowKit NM
set_option maxRecDepth 100000 in
set_option maxHeartbeats 4000000 in
theorem digit_ref (w : World) (v1 v2 : Value) (us vs : List Nat) (h1 : IntsAt w v1 us) (h2 : IntsAt w v2 vs) (Du : D24 us) (Dv : D24 vs) (Tu : T24 us) (hn : us.length ≤ 1000000000) (hm : vs.length ≤ 1000000000) (hV : 0 < dv vs) (hq : dv us / dv vs < C24) :
    Calls Tryz.prog 102 #[v1, v2] w fun e w' => e = .returned (.int .i64 (dv us / dv vs : Nat)) ∧ Below w.heap.size w w' := by
  have hT := fun (W : World) (y : Nat) (hB : Below w.heap.size w W) (hy : y < C24) => times_ref W v2 vs y (h2.below hB) Dv hm hy
  have hC := fun (W : World) (v : Value) (ds : List Nat) (hB : Below w.heap.size w W) (hat : IntsAt W v ds) (hd : D24 ds) (ht : T24 ds) (hl : ds.length ≤ 1000000001) => cmp_ref W v v1 ds us hat (h1.below hB) hd Du ht Tu hl (by omega)
  obtain ⟨Q, hQ⟩ : ∃ Q, Q = dv us / dv vs := ⟨_, rfl⟩
  rw [← hQ] at hq ⊢
  have hq' : Q < 16777216 := hq
  have hle : ∀ y, y ≤ Q ↔ dv vs * y ≤ dv us := fun y => by rw [hQ, Nat.mul_comm]; exact Nat.le_div_iff_mul_le hV
  have HT := Lib.hid hT; have HC := Lib.hid hC; have HL := Lib.hid hle
  clear hT hC hle hq hQ hV h1 h2
  go_enter Tryz.func102, Tryz.ntmps102
  go_wp2
  go_loopw [5, 6] (fun lo hi wr => ∃ l h : Nat, lo = .int .i64 (l : Nat) ∧ hi = .int .i64 (h : Nat) ∧ l ≤ Q ∧ Q ≤ h ∧ h < 16777216 ∧ Below w.heap.size w wr) (fun lo hi _ => (intOf hi - intOf lo).toNat)
  case atStart => exact ⟨0, 16777215, rfl, rfl, Nat.zero_le _, by omega, by omega, Below.refl _ _⟩
  case round =>
    obtain ⟨l, h, rfl, rfl, hl, hh, hhb, hB⟩ := hrel
    by_cases hlt : l < h
    · obtain ⟨y, hy⟩ : ∃ y, y = (l + h + 1) / 2 := ⟨_, rfl⟩
      have x0 : decide ((l : Int) < (h : Int)) = true := by simp; omega
      have x1 : IntKind.i64.wrap ((l : Int) + (h : Int)) = (l : Int) + (h : Int) := IntWalk.i64_in _ ⟨by omega, by omega⟩
      have x2 : IntKind.i64.wrap ((l : Int) + (h : Int) + 1) = (l : Int) + (h : Int) + 1 := IntWalk.i64_in _ ⟨by omega, by omega⟩
      have x3 : ((l : Int) + (h : Int) + 1) / 2 = (y : Int) := by omega
      have hyb : y < C24 := by show y < 16777216; omega
      have hyl : l < y := by omega
      have hyh : y ≤ h := by omega
      have hTW := Lib.hid (HT.out wr y hB hyb)
      clear hy
      go_wp2_with fail
      refine hTW.out.mono ?_
      rintro e w3 ⟨v3, ds, rfl, hat, hd, htr, ⟨hdv, hdl⟩, B3, _⟩
      have hB3 := hB.trans (B3.mono hB.size)
      have hCW := Lib.hid (HC.out w3 v3 ds hB3 hat hd htr (by omega))
      clear hat
      go_wp2_with fail
      refine hCW.out.mono ?_
      rintro e w4 ⟨z, rfl, hz1, hz2, hqq⟩
      have hB4 := hB3.trans ((hqq.below w3.heap.size).mono hB3.size)
      have hyq := HL.out y
      rw [← hdv] at hyq
      have HD := Lib.hid hdv; clear hdv hz1
      by_cases hz : z ≤ 0
      · have x4 : decide (z ≤ 0) = true := by simp; omega
        have hyQ : y ≤ Q := hyq.2 (by omega)
        clear hyq hz2
        go_wp2
        exact ⟨⟨y, h, rfl, rfl, hyQ, hh, hhb, hB4⟩, by simp [intOf]; omega⟩
      · have x4 : decide (z ≤ 0) = false := by simp; omega
        have hyQ : Q < y := Nat.lt_of_not_le fun hle => by have := hyq.1 hle; omega
        clear hyq hz2
        go_wp2
        exact ⟨⟨l, y - 1, rfl, by go_num, hl, by omega, by omega, hB4⟩, by simp [intOf]; omega⟩
    · have x0 : decide ((l : Int) < (h : Int)) = false := by simp; omega
      obtain rfl : l = Q := by omega
      go_wp2
      go_ret
      exact ⟨rfl, hB⟩
theorem Below.onlyB {b lo hi : Nat} {u w : World} (h : Below u.heap.size u w) (hb : b < u.heap.size) : Only b lo hi u w :=
  ⟨h.os, h.tape, h.output, h.size, fun k _ hk => h.block k hk, fun _ _ => h.cell (p := ⟨b, _, none⟩) hb, fun _ => World.frozen?_of_block (h.block b hb)⟩
theorem AtI.below {n b o : Nat} {w u W : World} {Z : List Nat} (h : AtI n b o w Z u) (hB : Below u.heap.size u W) (hb : b < u.heap.size) : AtI n b o w Z W :=
  ⟨h.len, h.dig, ⟨fun j hj => (hB.cell (p := ⟨b, o + j, none⟩) hb).trans (h.row.cell j hj), fun j hj => (World.frozen?_of_block (hB.block b hb)).trans (h.row.free j hj)⟩, h.only.trans (Below.onlyB hB hb)⟩
theorem own_lit (W : World) (x : Int) : (W.alloc (.cells #[.int .i64 x] 3)).ownsRow W.heap.size 3 1 (.slice (some ⟨W.heap.size, 0, none⟩) 1 1) 1 [.int .i64 x] :=
  ⟨rfl, .inr ⟨W.heap.size, 1, #[.int .i64 x], rfl, Nat.le_refl _, heap_alloc_new W _, Nat.le_refl _, by decide, rfl, rfl⟩⟩
/-- the digit x before others -/
theorem dv_front (x : Nat) (l : List Nat) : dv ([x] ++ l) = x + C24 * dv l := rfl
theorem iv_front (x : Nat) (l : List Nat) : iv ([x] ++ l) = [.int .i64 (x : Int)] ++ iv l := rfl
theorem D24_front {x : Nat} {l : List Nat} (hx : x < C24) (h : D24 l) : D24 ([x] ++ l) := fun y hy => by
  rcases List.mem_cons.1 hy with rfl | h1
  · exact hx
  · exact h y h1
theorem dv_drop_set (O : List Nat) (k q : Nat) (hk : k < O.length) : dv ((O.set k q).drop k) = q + C24 * dv (O.drop (k+1)) := by
  rw [dv_drop_cons _ k (by rw [List.length_set]; exact hk), gd_set_same _ _ _ hk, List.drop_set_of_lt (by omega)]
theorem IntsAt.set_other {w : World} {v : Value} {ds : List Nat} {bo i : Nat} (u : Value) (h : IntsAt w v ds) (hf : From (bo+1) v) : IntsAt (w.setCell ⟨bo, i, none⟩ u) v ds := by
  rcases h with ⟨rfl, rfl⟩ | ⟨b, o, cap, rfl, hb, hr, hc⟩
  · exact .inl ⟨rfl, rfl⟩
  · have hne : b ≠ bo := by have : bo + 1 ≤ b := hf; omega
    refine .inr ⟨b, o, cap, rfl, by simpa using hb, ⟨fun j hj => ?_⟩, hc⟩
    rw [World.cell?_setCell_other]
    · exact hr.cell j hj
    · intro e; simp at e; first | done | (exact hne e.1) | (exact absurd e.1 hne) | omega
theorem news_row {w : World} {b o : Nat} {ds : List Nat} (h : RowI w b o ds) : ∀ (j : Nat) (u : Value), (iv ds)[j]? = some u → w.cell? ((⟨b, o, none⟩ : Addr).add j) = some u := fun j u hu => by
  have hj : j < ds.length := by
    rcases Nat.lt_or_ge j ds.length with h1 | h1
    · exact h1
    · rw [List.getElem?_eq_none (by rw [iv_length]; exact h1)] at hu; cases hu
  rw [iv_get ds j hj] at hu
  rw [Lib.add_plain, h.cell j hj]; exact hu
theorem one_iv (ds : List Nat) : ∀ u, u ∈ iv ds → u.oneCell' = true := by
  intro u hu
  unfold iv at hu
  obtain ⟨x, _, rfl⟩ := List.mem_map.1 hu; rfl
theorem From.mono {B C : Nat} {v : Value} (h : From B v) (hle : C ≤ B) : From C v := by
  unfold From at *
  split at h
  · exact Nat.le_trans hle h
  · trivial
theorem IntsAt.only {b lo hi : Nat} {u w : World} {v : Value} {ds : List Nat} (h : IntsAt u v ds) (k : Only b lo hi u w) (hv : ∀ b' o l c, v = .slice (some ⟨b', o, none⟩) l c → b' < b) : IntsAt w v ds := by
  rcases h with ⟨rfl, rfl⟩ | ⟨b', o, cap, rfl, hb, hr, hc⟩
  · exact .inl ⟨rfl, rfl⟩
  · exact .inr ⟨b', o, cap, rfl, Nat.lt_of_lt_of_le hb k.size, hr.only k (Nat.ne_of_lt (hv _ _ _ _ rfl)) hb, hc⟩
theorem trim_ref2 (w : World) (v0 : Value) (ds : List Nat) (h : IntsAt w v0 ds) (hn : ds.length ≤ 1099511627776) (hD : D24 ds) :
    Calls Tryz.prog 100 #[v0] w fun e w' => ∃ v R, e = .returned v ∧ w = w' ∧ R.length ≤ ds.length ∧ IntsAt w v R ∧ D24 R ∧ T24 R ∧ dv R = dv ds ∧ ∀ B, From B v0 → From B v :=
  (trim_ref w v0 ds h hn).mono fun _ _ ⟨v, h1, h2, k, _, h4, h5, h6, h7⟩ => ⟨v, ds.take k, h1, h2, by rw [List.length_take]; exact Nat.min_le_right _ _, h4, D24_take hD k, h5, h6, h7⟩
/-- what of makes has no zero at the end -/
theorem of_trim {t : ByteArray} {vs : List Nat} (hD : D24 vs) (hl : vs.length = ((tz t).size + 2) / 3) (hv : dv vs = sv t) : T24 vs := by
  by_cases h0 : vs.length = 0
  · exact .inl h0
  · obtain ⟨n, hn⟩ : ∃ n, vs.length = n + 1 := ⟨vs.length - 1, by omega⟩
    right
    rw [hn, Nat.add_sub_cancel]
    intro hz
    have h1 := dv_trim vs n hn hz
    have hs : (tz t).size ≠ 0 := by omega
    have h2 := tz_pow t hs
    have h3 := dv_lt (vs.take n) (D24_take hD n)
    rw [List.length_take, Nat.min_eq_left (by omega), h1, hv, ← pow_3] at h3
    have h4 : 256^(3*n) ≤ 256^((tz t).size - 1) := Nat.pow_le_pow_right (by omega) (by omega)
    omega
set_option maxRecDepth 100000 in
set_option maxHeartbeats 8000000 in
theorem RefQuo_any (w : World) (a b : ByteArray) (ha : a.size ≤ 1000000000) (hb : b.size ≤ 1000000000) :
    Calls Tryz.prog 74 #[.string a, .string b] w fun e w' => e = .returned (QuoV a b) ∧ Below w.heap.size w w' := by
  have hC := Canon_any w b (by omega)
  by_cases h0 : sv b = 0
  · rw [tz_NB, h0, show NB 0 = ⟨#[]⟩ by unfold NB; simp [nb]] at hC
    rw [show QuoV a b = .tuple #[.string ⟨#[]⟩, .string ⟨#[]⟩, .bool false] by unfold QuoV; rw [if_pos h0]]
    have HC := Lib.hid hC; clear hC h0
    go_enter Tryz.func74, Tryz.ntmps74
    go_wp2_with fail
    refine HC.out.mono ?_
    rintro e w1 ⟨rfl, rfl⟩
    go_wp2
    go_ret3
    exact ⟨rfl, Below.refl _ _⟩
  · obtain ⟨t, ht⟩ : ∃ t, t = tz b := ⟨_, rfl⟩
    have hts := tz_size_le b
    have htv : sv (tz b) = sv b := sv_tz b
    rw [← ht] at hC hts htv
    have ht0 : t.size ≠ 0 := fun h => by
      have := sv_lt_size t
      rw [h] at this
      omega
    rw [show QuoV a b = .tuple #[.string (NB (sv a / sv t)), .string (NB (sv a % sv t)), .bool true] by unfold QuoV; rw [if_neg h0, htv]]
    have hV0 : sv t ≠ 0 := by rw [htv]; exact h0
    have hb0 : ((t.size : Int) == 0) = false := beq_eq_false_iff_ne.2 (by omega)
    have htb : t.size ≤ 1000000000 := by omega
    clear ht htv h0 hts
    have hsa := rsmall_any w a 7 (by omega) (by omega)
    have hsb := rsmall_any w t 7 (by omega) (by omega)
    have HC := Lib.hid hC; clear hC
    by_cases hp : (tz a).size ≤ 7 ∧ (tz t).size ≤ 7
    · rw [show SmallV a 7 = .tuple #[.int .i64 (sv a : Nat), .bool true] by unfold SmallV; rw [if_pos hp.1]] at hsa
      rw [show SmallV t 7 = .tuple #[.int .i64 (sv t : Nat), .bool true] by unfold SmallV; rw [if_pos hp.2]] at hsb
      have h1 := sv_small hp.1
      have h2 := sv_small hp.2
      obtain ⟨x, hx⟩ : ∃ x, x = sv a := ⟨_, rfl⟩
      obtain ⟨y, hy⟩ : ∃ y, y = sv t := ⟨_, rfl⟩
      rw [← hx] at h1 hsa ⊢
      rw [← hy] at h2 hsb hV0 ⊢
      obtain ⟨q, hq⟩ : ∃ q, q = x / y := ⟨_, rfl⟩
      obtain ⟨r, hr⟩ : ∃ r, r = x % y := ⟨_, rfl⟩
      have hq1 : q ≤ x := by rw [hq]; exact Nat.div_le_self _ _
      have hr1 : r ≤ x := by rw [hr]; exact Nat.mod_le _ _
      have xq : (x : Int) / (y : Int) = (q : Int) := by rw [hq]; exact (Int.natCast_ediv _ _).symm
      have xr : (x : Int) % (y : Int) = (r : Int) := by rw [hr]; exact (Int.natCast_emod _ _).symm
      have xq2 : Int.tdiv (x : Int) (y : Int) = (q : Int) := by rw [hq]; rfl
      have xr2 : Int.tmod (x : Int) (y : Int) = (r : Int) := by rw [hr]; rfl
      have xw : IntKind.i64.wrap (q : Int) = (q : Int) := IntWalk.i64_in _ ⟨by omega, by omega⟩
      have xw2 : IntKind.i64.wrap (r : Int) = (r : Int) := IntWalk.i64_in _ ⟨by omega, by omega⟩
      have xy : ((y : Int) == 0) = false := beq_eq_false_iff_ne.2 (by omega)
      have xy2 : ¬ (y : Int) = 0 := by omega
      have hO1 : ∀ W, Calls Tryz.prog 34 #[.int .i64 (q : Int)] W fun e w' => e = .returned (.string (NB q)) ∧ Below W.heap.size W w' := fun W => by
        have := RefOf_any W (q : Int) (by omega) (by omega)
        rwa [Int.toNat_natCast] at this
      have hO2 : ∀ W, Calls Tryz.prog 34 #[.int .i64 (r : Int)] W fun e w' => e = .returned (.string (NB r)) ∧ Below W.heap.size W w' := fun W => by
        have := RefOf_any W (r : Int) (by omega) (by omega)
        rwa [Int.toNat_natCast] at this
      rw [← hq, ← hr]
      have HSA := Lib.hid hsa; have HSB := Lib.hid hsb
      have HH := Lib.hid (And.intro hx (And.intro hy (And.intro hq (And.intro hr (And.intro h1 h2)))))
      clear hsa hsb hx hy hq hr h1 h2 hp hq1 hr1
      go_enter Tryz.func74, Tryz.ntmps74
      go_wp2_with fail
      refine HC.out.mono ?_
      rintro e w1 ⟨rfl, rfl⟩
      go_wp2_with fail
      refine HSA.out.mono ?_
      rintro e w1 ⟨rfl, rfl⟩
      go_wp2_with fail
      refine HSB.out.mono ?_
      rintro e w1 ⟨rfl, rfl⟩
      go_wp2_with fail
      go_region_held3 (fun _ => True) (trivial)
        (first
          | (go_at_call 34; (first | go_fit (hO1 w.drew) | go_fit (hO2 w.drew)); rintro e w5 ⟨rfl, b5⟩)
          | (go_at_call 34; (first | go_fit (hO1 w5) | go_fit (hO2 w5)); rintro e w6 ⟨rfl, b6⟩))
      all_goals go_wp2
      all_goals go_ret3
      all_goals exact ⟨rfl, ((Below.refl _ w).drew.trans (b5.mono (Nat.le_refl _))).trans (b6.mono b5.size)⟩
    · obtain ⟨pa, xa, hsa', hpx⟩ : ∃ (pa : Bool) (xa : Int), SmallV a 7 = .tuple #[.int .i64 xa, .bool pa] ∧ (pa = true → (tz a).size ≤ 7) := by
        unfold SmallV; split
        · exact ⟨true, _, rfl, fun _ => by assumption⟩
        · exact ⟨false, _, rfl, fun h => by cases h⟩
      obtain ⟨pb, xb, hsb', hpy⟩ : ∃ (pb : Bool) (xb : Int), SmallV t 7 = .tuple #[.int .i64 xb, .bool pb] ∧ (pb = true → (tz t).size ≤ 7) := by
        unfold SmallV; split
        · exact ⟨true, _, rfl, fun _ => by assumption⟩
        · exact ⟨false, _, rfl, fun h => by cases h⟩
      rw [hsa'] at hsa
      rw [hsb'] at hsb
      have hpp : pa = true → pb = false := fun h => by
        cases pb with
        | false => rfl
        | true => exact absurd ⟨hpx h, hpy rfl⟩ hp
      have HSA := Lib.hid hsa; have HSB := Lib.hid hsb; clear hsa hsb hsa' hsb' hpx hpy hp
      have hta := tz_size_le a
      have htt := tz_size_le t
      have key : pa = false ∨ (pa = true ∧ pb = false) := by
        cases pa with
        | false => exact .inl rfl
        | true => exact .inr ⟨rfl, hpp rfl⟩
      obtain ⟨i0, hi, hz0, hz1, hz2⟩ := info_parts infoI
      have HA := Lib.hid (And.intro ha (And.intro hb hV0)); clear hV0
      clear hpp
      rcases key with rfl | ⟨rfl, rfl⟩
      all_goals
        go_enter Tryz.func74, Tryz.ntmps74
        go_wp2_with fail
        refine HC.out.mono ?_
        rintro e w1 ⟨rfl, rfl⟩
        go_wp2_with fail
        refine HSA.out.mono ?_
        rintro e w1 ⟨rfl, rfl⟩
        go_wp2_with fail
        refine HSB.out.mono ?_
        rintro e w1 ⟨rfl, rfl⟩
        go_wp2_with fail
        refine (of_any _ a (by omega)).mono ?_
        rintro e w1 ⟨vu, us, rfl, ou, du, eu, lu, B1⟩
        go_wp2_with fail
        refine (of_any _ t (by omega)).mono ?_
        rintro e w2 ⟨vv, vs, rfl, ov, dvs, ev, lv, B2⟩
        have hatv : IntsAt w2 vv vs := IntsAt.of_own ov
        have hTv : T24 vs := of_trim dvs lv ev
        obtain ⟨pu, cu, rfl, hcu, fu⟩ := ((IntsAt.of_own ou).below B2).form
        obtain ⟨n, hn⟩ : ∃ n, n = us.length := ⟨_, rfl⟩
        have hnb : n ≤ 400000000 := by omega
        have hmb : vs.length ≤ 400000000 := by omega
        rw [← hn] at hcu fu
        simp only [← hn]
        have HN := Lib.hid (And.intro hn (And.intro lu lv)); clear hn lu lv ou ov hta htt
        have hmk : ∀ u : World, (Instr.makeSlice 84 (.int .i64 (n : Int)) (.int .i64 (n : Int))).run Tryz.prog u =
          .ok (.slice (some ⟨u.heap.size, 0, none⟩) n n) (u.alloc (.cells (madeCells #[.int .i64 0] n) 3)) := fun u => make_ints n (by omega) u
        have hB2 : Below w.heap.size w w2 := B1.trans (B2.mono B1.size)
        have hsz2 := hB2.size
        have hA0 := AtI.made n 3 w2
        have hBb := (Below.refl w2.heap.size w2).alloc (Nat.le_refl _) (.cells (madeCells #[.int .i64 0] n) 3)
        have hB3 := hB2.trans (hBb.mono hsz2)
        have hz : (w2.alloc (.cells (madeCells #[.int .i64 0] n) 3)).heap.size = w2.heap.size + 1 := by simp
        have hv3 := hatv.below hBb
        have hvb : True ∧ (∀ b o l c, vv = .slice (some ⟨b, o, none⟩) l c → b < w2.heap.size) := ⟨trivial, fun b o l c e => by
          subst e
          rcases hatv with ⟨h, _⟩ | ⟨b', o', c', h, hb', _⟩
          · cases h
          · cases h; exact hb'⟩
        have fu3 : 0 < n → ∃ b o, pu = some ⟨b, o, none⟩ ∧ b < w2.heap.size ∧ RowI (w2.alloc (.cells (madeCells #[.int .i64 0] n) 3)) b o us := fun h => by
          obtain ⟨b, o, h1, h2, h3⟩ := fu h
          exact ⟨b, o, h1, h2, h3.below hBb h2⟩
        clear fu B1 B2 hB2 hatv hBb
        go_wp2
        generalize w2.alloc (.cells (madeCells #[.int .i64 0] n) 3) = w3 at *
        generalize w2.heap.size = bo at *
        clear hmk
        have HF := Lib.hid fu3; clear fu3
        have HA3 := Lib.hid hA0; have HB3 := Lib.hid (And.intro hB3 hz); have HV3 := Lib.hid (And.intro hv3 hvb.2); have HT := Lib.hid hTv; clear hA0 hB3 hz hv3 hvb hTv
        have HE := Lib.hid (And.intro eu ev); clear eu ev
        go_wp2
        go_loopw [14, 15] (fun rv kv wr => ∃ (j : Nat) (rs O : List Nat) (v : Value), rv = v ∧ kv = .int .i64 ((j : Int) - 1) ∧ j ≤ n ∧ Hid (IntsAt wr v rs) ∧ Hid (From (bo+1) v) ∧ Hid (D24 rs) ∧ Hid (T24 rs) ∧ Hid (dv rs = dv (us.drop j) % dv vs) ∧ Hid (AtI n bo 0 w3 O wr) ∧ Hid (∀ i, i < j → gd O i = 0) ∧ Hid (dv (O.drop j) = dv (us.drop j) / dv vs)) (fun _ kv _ => (intOf kv + 1).toNat)
        case atStart => exact ⟨n, [], _, _, rfl, rfl, Nat.le_refl _, Lib.hid (.inl ⟨rfl, rfl⟩), Lib.hid trivial, Lib.hid D24_nil, Lib.hid (.inl rfl), Lib.hid (by rw [List.drop_eq_nil_of_le (by rw [← HN.out.1]; exact Nat.le_refl _)]; simp [dv]), HA3, Lib.hid (fun i _ => gd_zeros _ i), Lib.hid (by
          rw [List.drop_eq_nil_of_le (by simp), List.drop_eq_nil_of_le (by rw [← HN.out.1]; exact Nat.le_refl _)]; simp [dv])⟩
        case round =>
          obtain ⟨j, rs, O, v, rfl, rfl, hj, hat, hfr, hD, hTr, hdv, hO, hOz, hOd⟩ := hrel
          by_cases h0 : j = 0
          · subst h0
            have hO0 := hO.out
            have hbw : bo < wr.heap.size := by have := HB3.out.2; have := hO0.only.size; omega
            have hN1 := RefNum_row wr bo 0 n O hbw ⟨hO0.row.cell⟩ (by rw [hO0.len]; exact Nat.le_refl _) hO0.dig (by rw [hO0.len]; omega)
            have e1 : dv O = sv a / sv t := by have h := hOd.out; rw [List.drop_zero, List.drop_zero] at h; rw [h, HE.out.1, HE.out.2]
            have e2 : dv rs = sv a % sv t := by have h := hdv.out; rw [List.drop_zero] at h; rw [h, HE.out.1, HE.out.2]
            rw [e1, hO0.len] at hN1
            have hB := HB3.out.1.trans (hO0.only.below hsz2 HB3.out.1.size)
            have hrl : rs.length ≤ vs.length := by
              apply Nat.le_of_not_lt; intro hlt
              have h1 := T24_lt dvs hTr.out hlt
              have h2 := Nat.mod_lt (sv a) (show sv t > 0 by have := HA.out.2.2; omega)
              have h3 := HE.out.2
              omega
            have hN2 := fun (W : World) (hW : Below wr.heap.size wr W) => RefNum_any W u14 rs (hat.out.below hW) hD.out (by omega)
            rw [e2] at hN2
            have H1 := Lib.hid hN1; have H2 := Lib.hid hN2; clear hN1 hN2 hO0 hO e1 e2 hOd hdv
            go_wp2_with fail
            refine H1.out.mono ?_
            rintro e w5 ⟨rfl, B5⟩
            go_wp2_with fail
            refine (H2.out w5 B5).mono ?_
            rintro e w6 ⟨rfl, B6⟩
            go_wp2
            go_ret3
            exact ⟨rfl, (hB.trans (B5.mono hB.size)).trans (B6.mono (Nat.le_trans hB.size B5.size))⟩
          · obtain ⟨k, rfl⟩ : ∃ k, j = k + 1 := ⟨j - 1, by omega⟩
            rw [show (((k + 1 : Nat) : Int) - 1) = (k : Int) by omega]
            obtain ⟨b1, o1, rfl, hb1, r1⟩ := HF.out (by omega)
            have hsz3 := hO.out.only.size
            have hx := (r1.only hO.out.only (by omega) (by have := HB3.out.2; omega)).cell k (by have := HN.out.1; omega)
            have hdc := dv_drop_cons us k (by have := HN.out.1; omega)
            have gx : gd us k < C24 := D24_gd du k
            have HG := Lib.hid (And.intro hdc gx); clear hdc gx
            generalize gd us k = x at *
            have hrl : rs.length ≤ vs.length := by
              apply Nat.le_of_not_lt; intro hlt
              have h1 := T24_lt dvs hTr.out hlt
              have h2 := Nat.mod_lt (dv (us.drop (k+1))) (show dv vs > 0 by have := HA.out.2.2; have := HE.out.2; omega)
              rw [← hdv.out] at h2; omega
            have hdr := hdv.out
            have hbw : bo < wr.heap.size := by have := HB3.out.2; omega
            have hDx := D24_front HG.out.2 hD.out
            have hdx : dv ([x] ++ rs) = x + C24 * (dv (us.drop (k+1)) % dv vs) := by rw [dv_front, hdr]
            have hlx : ([x] ++ rs).length = rs.length + 1 := by simp
            have HX := Lib.hid (And.intro hDx (And.intro hdx hlx)); clear hDx hdx hlx hdr
            rcases hat.out with ⟨rfl, rfl⟩ | ⟨b4, o4, c4, rfl, hb4, r4, hc4⟩
            case' inl =>
              have own4 := own_lit wr x
              have hB4 := (Below.refl wr.heap.size wr).alloc (Nat.le_refl _) (.cells #[.int .i64 (x : Int)] 3)
              go_wp2_with fail
              generalize wr.alloc (.cells #[.int .i64 (x : Int)] 3) = w4 at *
              have hF0 := From.of_own own4
              have hT4 := trim_ref2 w4 _ ([x] ++ []) (IntsAt.of_own own4) (by rw [HX.out.2.2]; simp) HX.out.1
              refine hT4.mono ?_
              clear hT4
            case' inr =>
              have hn4 := news_row (r4.below ((Below.refl wr.heap.size wr).alloc (Nat.le_refl _) (.cells #[.int .i64 (x : Int)] 3)) hb4)
              have own0 := own_lit wr x
              go_wp2_with (at_builtin; refine wpList_append_own _ rfl _ _ 84 rfl wr.heap.size 3 i0 (.int .i64 0) 1 8 Tryz.underlying84 hi hz0 hz1 hz2 rfl (by decide) _ _ _ rfl own0 ⟨b4, o4, none⟩ rs.length c4 (iv rs) rfl ?c0 hn4 (one_iv rs) ?c3 ?c4 ?c5 ?_)
              case c0 => rw [iv_length, Nat.mul_one]
              case c3 => unfold maxLen; omega
              case c4 => omega
              case c5 => first | omega | (simp; try omega)
              intro v' w4 own4 hgrow _
              have hB4 : Below wr.heap.size wr w4 := ((Below.refl wr.heap.size wr).alloc (Nat.le_refl _) (.cells #[.int .i64 (x : Int)] 3)).grown hgrow (by simp) (fun k hk => (own0.lt k hk).1)
              have hF0 := From.of_own own4
              have hT4 := trim_ref2 w4 v' ([x] ++ rs) (IntsAt.of_own (by rw [HX.out.2.2, Nat.add_comm, iv_front]; exact own4)) (by rw [HX.out.2.2]; omega) HX.out.1
              have HT4 := Lib.hid hT4; clear hT4 hn4 own0 hgrow own4 r4
              go_wp2_with fail
              refine HT4.out.mono ?_
              clear HT4
            all_goals
              rintro e w5 ⟨v2, R, rfl, rfl, hlR, hat2, hD2, htr2, hdv2, hfr2⟩
              have hF2 := (hfr2 _ hF0).mono (show bo + 1 ≤ wr.heap.size by omega)
              rw [HX.out.2.2] at hlR
              rw [HX.out.2.1] at hdv2
              have hlR2 : R.length ≤ 400000001 := by omega
              clear hlR hfr2 hF0 HX hat hfr hdv hD hTr
              have hO4 := hO.out.below hB4 hbw
              have hv4 := HV3.out.1.only hO4.only HV3.out.2
              have hC4 := Lib.hid (cmp_ref w4 v2 vv R vs hat2 hv4 hD2 dvs htr2 HT.out (by omega) (by omega))
              have HO4 := Lib.hid hO4; have HAT2 := Lib.hid hat2; have HV4 := Lib.hid hv4; clear hO4 hat2 hv4 hO
              have hs4 := hB4.size
              have hVp : 0 < dv vs := by have := HA.out.2.2; have := HE.out.2; omega
              have hq0 : dv R / dv vs < C24 := by rw [hdv2]; exact quo_digit x (dv vs) _ HG.out.2 (Nat.mod_lt _ hVp)
              have hqs := quo_step (dv (us.drop (k+1))) x (dv vs) (dv (us.drop (k+1)) % dv vs) (dv R / dv vs) hVp rfl (by rw [hdv2])
              rw [← hdv2, ← HG.out.1] at hqs
              have HQ := Lib.hid (And.intro hVp (And.intro hq0 hqs)); clear hVp hq0 hqs
              go_wp2_with fail
              refine hC4.out.mono ?_
              rintro e w5 ⟨z, rfl, hz1, hz2, hqq⟩
              have HAT5 := Lib.hid (hqq.ints HAT2.out)
              have hB5 : Below w4.heap.size w4 w5 := hqq.below _
              have HO5 := Lib.hid (HO4.out.below hB5 (by omega))
              clear hC4
              by_cases hz : z < 0
              · have x4 : decide (0 ≤ z) = false := by simp; omega
                have hlt := hz1.1 hz
                have hq9 : dv R / dv vs = 0 := Nat.div_eq_of_lt hlt
                have hqs := HQ.out.2.2
                rw [hq9, Nat.mul_zero] at hqs
                clear hz1 hz2 hlt
                have HS := Lib.hid hqs; clear hqs hq9
                go_wp2
                refine ⟨⟨k, R, O, v2, rfl, by go_num, by omega, HAT5, Lib.hid hF2, Lib.hid hD2, Lib.hid htr2, Lib.hid (by rw [HS.out.2]; rfl), HO5, Lib.hid (fun i hi => hOz.out i (by omega)), Lib.hid ?_⟩, by (simp [intOf]; try omega)⟩
                rw [dv_drop_cons O k (by have := HO5.out.len; omega), hOz.out k (by omega), hOd.out, HS.out.1]
              · have x4 : decide (0 ≤ z) = true := by simp; omega
                have hge : dv vs ≤ dv R := Nat.le_of_not_lt fun h => hz (hz1.2 h)
                clear hz1 hz2
                have hv5 := HV3.out.1.only HO5.out.only HV3.out.2
                have hs5 := hB5.size
                have hDg := Lib.hid (digit_ref w5 v2 vv R vs HAT5.out hv5 hD2 dvs htr2 (by omega) (by omega) HQ.out.1 HQ.out.2.1)
                clear hv5
                go_wp2_with fail
                refine hDg.out.mono ?_
                rintro e w6 ⟨rfl, B6⟩
                clear hDg
                have hO6 := HO5.out.below B6 (by omega)
                have ro := hO6.row.cell k (by rw [hO6.len]; omega)
                have rf := hO6.row.free k (by rw [hO6.len]; omega)
                rw [Nat.zero_add] at ro rf
                have hat6 := HAT5.out.below B6
                obtain ⟨q, hq⟩ : ∃ q, q = dv R / dv vs := ⟨_, rfl⟩
                have hqb : q < C24 := by rw [hq]; exact HQ.out.2.1
                have hO7 := hO6.set k q (by omega) hqb
                rw [Nat.zero_add] at hO7
                have hat7 := hat6.set_other (bo := bo) (i := k) (.int .i64 (q : Nat)) hF2
                have hsame : (w6.setCell ⟨bo, k, none⟩ (.int .i64 (q : Nat))).cell? ⟨bo, k, none⟩ = some (.int .i64 (q : Nat)) := World.cell?_setCell_same _ _ _ ro
                have hs7 : (w6.setCell ⟨bo, k, none⟩ (.int .i64 (q : Nat))).heap.size = w6.heap.size := by simp
                have hs6 := B6.size
                have hkn : (k : Int) < (n : Int) := by omega
                rw [← hq]
                have HO7 := Lib.hid hO7; have HAT7 := Lib.hid hat7; clear hO7 hat7 hat6 hO6
                have HQQ := Lib.hid (And.intro hq hqb); clear hq hqb
                go_wp2_with fail
                generalize w6.setCell ⟨bo, k, none⟩ (.int .i64 (q : Nat)) = w7 at *
                clear ro rf hsame
                have hv7 := HV3.out.1.only HO7.out.only HV3.out.2
                refine (times_ref w7 vv vs q hv7 dvs (by omega) HQQ.out.2).mono ?_
                rintro e w8 ⟨v8, ds8, rfl, hat8, hd8, ht8, ⟨hdv8, hl8⟩, B8, _⟩
                have hs8 := B8.size
                have hO8 := HO7.out.below B8 (by omega)
                have hle8 : dv ds8 ≤ dv R := by rw [hdv8, HQQ.out.1]; exact Nat.mul_div_le _ _
                have hM := Lib.hid (minus_ref w8 v2 v8 R ds8 (HAT7.out.below B8) hat8 hD2 hd8 (by omega) (by omega) hle8)
                have HO8 := Lib.hid hO8
                have HD8 := Lib.hid hdv8
                clear hat8 hO8 hv7 hle8 hdv8 B8
                go_wp2_with fail
                refine hM.out.mono ?_
                rintro e w9 ⟨v9, rs9, rfl, hat9, hd9, ht9, ⟨hdv9, hl9⟩, B9, hF9⟩
                have hO9 := HO8.out.below B9 (by omega)
                have hF9' : From (bo+1) v9 := hF9.mono (by omega)
                have hqs := HQ.out.2.2
                rw [← HQQ.out.1] at hqs
                have HS := Lib.hid (And.intro hqs hdv9); clear hqs hdv9 hM B9 hF9
                have HO9 := Lib.hid hO9; have HAT9 := Lib.hid hat9; clear hO9 hat9
                go_wp2
                refine ⟨⟨k, rs9, O.set k q, v9, rfl, by go_num, by omega, HAT9, Lib.hid hF9', Lib.hid hd9, Lib.hid ht9, Lib.hid ?_, HO9, Lib.hid (fun i hi => by rw [gd_set_other _ _ _ _ (by omega)]; exact hOz.out i (by omega)), Lib.hid ?_⟩, by (simp [intOf]; try omega)⟩
                · rw [HS.out.2, HD8.out, HS.out.1.2]
                · rw [dv_drop_set O k q (by have := HO5.out.len; omega), hOd.out, HS.out.1.1]
end Go.Proofs.YteccbedmpjeamaaGreatDoor
