/-
  The walks of the reference's number, Text and Read.
-/
import Derived.Test.YthoonpjgecempaaDoorSDec
namespace Go.Proofs.YthoonpjgecempaaDoor.S5
open Go.RowKit GM SH G4 DM
/-- the digits of a text of a number stand behind its sign -/
theorem itoa_form (x : Int) (h : i64 x) : (x < 0 ∧ Lib.itoa x = 45 :: Lib.decDigits x.natAbs ∧ x = -(x.natAbs : Int) ∧ x.natAbs ≤ 9223372036854775808 ∨ 0 ≤ x ∧ Lib.itoa x = Lib.decDigits x.natAbs ∧ x = (x.natAbs : Int) ∧ x.natAbs ≤ 9223372036854775807) := by
  obtain ⟨h0, h1⟩ := h
  by_cases hx : x < 0
  · exact .inl ⟨hx, by unfold Lib.itoa; rw [if_pos hx], by omega, by omega⟩
  · exact .inr ⟨by omega, by unfold Lib.itoa; rw [if_neg hx]; congr 1; omega, by omega, by omega⟩
/-- what the loop keeps: where the digits begin, the number so far -/
structure NI (t : List UInt8) (a k : Nat) (v : Int) : Prop where
  r : i64 v
  e : ∀ x, i64 x → t = Lib.itoa x → t.drop a = Lib.decDigits x.natAbs ∧ v = -(dvl ((t.drop a).take (k - a)) : Int)
theorem ni_step {t : List UInt8} {a k : Nat} {v : Int} (h : NI t a k v) (ha : a ≤ k) (c : UInt8) (hc : t[k]? = some c) (hd : isD c = true) : NI t a (k+1) (wrap64 (wrap64 (10 * v) - ((c.toNat : Int) - 48))) := by
  unfold isD at hd
  have hd := of_decide_eq_true hd
  refine ⟨⟨by unfold wrap64; omega, by unfold wrap64; omega⟩, fun x hx ht => ?_⟩
  obtain ⟨h1, h2⟩ := h.e x hx ht
  refine ⟨h1, ?_⟩
  have hk : (t.drop a)[k - a]? = some c := by rw [List.getElem?_drop]; rw [show a + (k - a) = k by omega]; exact hc
  have h3 := dvl_take _ _ c hk
  rw [show k + 1 - a = k - a + 1 by omega, h3]
  have h4 := dvl_take_le (t.drop a) (k - a + 1)
  rw [h3, h1, (dec_all _).2.1] at h4
  rw [h1] at h2
  have hb : x.natAbs ≤ 9223372036854775808 := by rcases itoa_form x hx with ⟨_, _, _, h⟩ | ⟨_, _, _, h⟩ <;> omega
  rw [h1]
  generalize dvl ((Lib.decDigits x.natAbs).take (k - a)) = m at *
  subst h2
  unfold wrap64
  omega
theorem itoa_len (x : Int) (h : i64 x) : (Lib.itoa x).length ≤ 20 := by
  rcases itoa_form x h with ⟨_, e, _, hb⟩ | ⟨_, e, _, hb⟩
  · rw [e, List.length_cons]
    have := dig_len 19 x.natAbs (by decide) (by omega); omega
  · rw [e]
    have := dig_len 19 x.natAbs (by decide) (by omega); omega
/-- how the reference reads a number -/
def NumQ (t : ByteArray) (w : World) : Ending → World → Prop := fun e w' =>
  ∃ (v : Int) (b : Bool), e = .returned (.tuple #[.int .i64 v, .bool b]) ∧ (b = true → t = dcm v ∧ i64 v) ∧ (b = false → ∀ x, i64 x → t ≠ dcm x) ∧ Below w.heap.size w w'
theorem dcm_list (x : Int) : (dcm x).data.toList = Lib.itoa x := rfl
/-- where the digits begin -/
def sgn (t : ByteArray) : Nat := if t.data.toList.head? = some 45 then 1 else 0
theorem head_get (t : ByteArray) : t.data.toList.head? = t.data.toList[0]? := by rw [List.head?_eq_getElem?]
theorem ni_start (t : ByteArray) : NI t.data.toList (sgn t) (sgn t) 0 := by
  refine ⟨by decide, fun x hx ht => ⟨?_, by simp [dvl]⟩⟩
  unfold sgn
  rw [ht]
  rcases itoa_form x hx with ⟨_, e, _, _⟩ | ⟨_, e, _, _⟩
  · rw [e]; rfl
  · rw [e]
    obtain ⟨d1, _, d3⟩ := dec_all x.natAbs
    cases hl : Lib.decDigits x.natAbs with
    | nil => exact absurd hl d3
    | cons c r =>
      have hc := d1 c (by rw [hl]; simp)
      have : ¬ (some c = some (45 : UInt8)) := fun h => by injection h with h; subst h; revert hc; decide
      rw [List.head?_cons, if_neg this]; rfl
/-- a text with another byte than a digit is none of a number -/
theorem ni_bad {t : List UInt8} {a k : Nat} {v : Int} (h : NI t a k v) (ha : a ≤ k) (c : UInt8) (hc : t[k]? = some c) (hd : isD c = false) : ∀ x, i64 x → t ≠ Lib.itoa x := fun x hx ht => by
  have h1 := (h.e x hx ht).1
  have hk : (t.drop a)[k - a]? = some c := by rw [List.getElem?_drop]; rw [show a + (k - a) = k by omega]; exact hc
  rw [h1] at hk
  have := (dec_all x.natAbs).1 c (List.mem_of_getElem? hk)
  rw [hd] at this; cases this
theorem ni_end {t : ByteArray} {v : Int} (h : NI t.data.toList (sgn t) t.size v) (x : Int) (hx : i64 x) (ht : t = dcm x) : (if sgn t = 0 then wrap64 (-v) else v) = x := by
  have e : t.data.toList = Lib.itoa x := by rw [ht]; rfl
  obtain ⟨h1, h2⟩ := h.e x hx e
  have hl : t.data.toList.length = t.size := size_list t
  rw [List.take_of_length_le (by rw [List.length_drop]; omega), h1, (dec_all _).2.1] at h2
  unfold sgn
  rw [e]
  rcases itoa_form x hx with ⟨_, e, e2, _⟩ | ⟨_, e, e2, hb⟩
  · rw [e, List.head?_cons, if_pos rfl, if_neg (by decide)]; omega
  · rw [e]
    obtain ⟨d1, _, d3⟩ := dec_all x.natAbs
    cases hl : Lib.decDigits x.natAbs with
    | nil => exact absurd hl d3
    | cons c r =>
      have hc := d1 c (by rw [hl]; simp)
      have : ¬ (some c = some (45 : UInt8)) := fun h => by injection h with h; subst h; revert hc; decide
      rw [List.head?_cons, if_neg this, if_pos rfl, h2]
      unfold wrap64; omega
theorem short_no (t : ByteArray) (h : sgn t = t.size) : ∀ x, i64 x → t ≠ dcm x := fun x hx ht => by
  have e : t.data.toList = Lib.itoa x := by rw [ht]; rfl
  have h1 := ((ni_start t).e x hx e).1
  have hl : t.data.toList.length = t.size := size_list t
  rw [List.drop_eq_nil_of_le (by omega)] at h1
  exact (dec_all x.natAbs).2.2 h1.symm
theorem long_no (t : ByteArray) (h : sgn t + 19 < t.size) : ∀ x, i64 x → t ≠ dcm x := fun x hx ht => by
  have e : t.data.toList = Lib.itoa x := by rw [ht]; rfl
  have h1 := ((ni_start t).e x hx e).1
  have hl : t.data.toList.length = t.size := size_list t
  have h2 := congrArg List.length h1
  rw [List.length_drop, hl] at h2
  have h3 := dig_len 19 x.natAbs (by decide) (by rcases itoa_form x hx with ⟨_, _, _, h⟩ | ⟨_, _, _, h⟩ <;> omega)
  omega
set_option maxRecDepth 100000 in
set_option maxHeartbeats 4000000 in
theorem number_neg (w : World) (t : ByteArray) (hpos : 0 < t.size) (h45 : (((t[0]'hpos).toNat : Int) == 45) = true) (ha : sgn t = 1) (hsz : t.size ≤ 281474976710656) :
    Calls Tryd.prog 16 #[.string t] w (NumQ t w) := by
  have hp0 : decide ((0 : Int) < (t.size : Int)) = true := decide_eq_true (by omega)
  by_cases h1 : t.size = 1
  · have b1 : decide ((t.size : Int) ≤ 1) = true := decide_eq_true (by omega)
    have F := Lib.hid (short_no t (by rw [ha, h1]))
    clear h1
    go_enter Tryd.func16, Tryd.ntmps16
    go_wp2
    go_ret2
    exact ⟨0, false, rfl, fun h => (by cases h), fun _ => F.out, Below.refl _ _⟩
  have b1 : decide ((t.size : Int) ≤ 1) = false := decide_eq_false (by omega)
  by_cases h2 : 1 + 19 < t.size
  · have b2 : decide ((19 : Int) < (t.size : Int) - 1) = true := decide_eq_true (by omega)
    have F := Lib.hid (long_no t (by rw [ha]; exact h2))
    clear h1 h2
    go_enter Tryd.func16, Tryd.ntmps16
    go_wp2
    go_ret2
    exact ⟨0, false, rfl, fun h => (by cases h), fun _ => F.out, Below.refl _ _⟩
  have b2 : decide ((19 : Int) < (t.size : Int) - 1) = false := decide_eq_false (by omega)
  have N0 := Lib.hid (ni_start t)
  rw [ha] at N0
  have HA := Lib.hid ha; clear ha
  have HZ := Lib.hid (And.intro h1 (And.intro h2 hpos)); clear h1 h2
  have hs20 : t.size ≤ 20 := by have := HZ.out.2.1; omega
  have hs1 : 1 ≤ t.size := by have := HZ.out.2.2; omega
  go_enter Tryd.func16, Tryd.ntmps16
  go_wp2_with fail
  clear h45 hp0 b1 b2
  go_loop [5, 6] (fun n i => ∃ (k : Nat) (v : Int), 1 ≤ k ∧ k ≤ t.size ∧ n = .int .i64 v ∧ i = .int .i64 (k : Int) ∧ Hid (NI t.data.toList 1 k v)) (fun _ i => t.size - (match i with | .int _ i => i.toNat | _ => 0))
  case atStart => exact ⟨1, 0, Nat.le_refl _, hs1, rfl, rfl, N0⟩
  case round =>
    obtain ⟨k, v, hk0, hk1, rfl, rfl, hN⟩ := hrel
    by_cases hlt : k < t.size
    · have hg : t.data.toList[k]? = some (t[k]'hlt) := by
        rw [List.getElem?_eq_getElem (by rw [size_list]; exact hlt)]; rfl
      obtain ⟨c, hc⟩ : ∃ c, t[k]'hlt = c := ⟨_, rfl⟩
      rw [hc] at hg
      by_cases hd : isD c = true
      · have N2 := Lib.hid (ni_step hN.out hk0 c hg hd)
        unfold isD at hd
        obtain ⟨d1, d2⟩ := of_decide_eq_true hd
        have e1 : decide ((c.toNat : Int) < 48) = false := decide_eq_false (by omega)
        have e2 : decide ((57 : Int) < (c.toNat : Int)) = false := decide_eq_false (by omega)
        have iv := hN.out.r
        have HG := Lib.hid hg; clear hg hd
        go_wp2
        exact ⟨⟨k + 1, _, by omega, by omega, rfl, by simp, N2⟩, by simp; omega⟩
      · have F := Lib.hid (ni_bad hN.out hk0 c hg (by simpa using hd))
        have iv := hN.out.r
        unfold isD at hd
        have hd2 : ¬ (48 ≤ c.toNat ∧ c.toNat ≤ 57) := fun h => hd (decide_eq_true h)
        have HG := Lib.hid hg; clear hg hd
        by_cases h48 : c.toNat < 48
        · have e1 : decide ((c.toNat : Int) < 48) = true := decide_eq_true (by omega)
          clear hd2
          go_wp2
          go_ret2
          exact ⟨0, false, rfl, fun h => (by cases h), fun _ x hx ht => F.out x hx (by rw [ht]; rfl), Below.refl _ _⟩
        · have e1 : decide ((c.toNat : Int) < 48) = false := decide_eq_false (by omega)
          have e2 : decide ((57 : Int) < (c.toNat : Int)) = true := decide_eq_true (by omega)
          clear hd2 h48
          go_wp2
          go_ret2
          exact ⟨0, false, rfl, fun h => (by cases h), fun _ x hx ht => F.out x hx (by rw [ht]; rfl), Below.refl _ _⟩
    · obtain rfl : k = t.size := by omega
      have iv := hN.out.r
      obtain ⟨r, hr⟩ : ∃ r, (if sgn t = 0 then wrap64 (-v) else v) = r := ⟨_, rfl⟩
      have F := Lib.hid fun x hx ht => (ni_end (by rw [HA.out]; exact hN.out) x hx ht : (if sgn t = 0 then wrap64 (-v) else v) = x)
      rw [hr] at F
      rw [HA.out] at hr
      have hr2 : v = r := by simpa using hr
      have ir : i64 r := by rw [← hr2]; exact iv
      have D := Lib.hid fun W => decimal_any W r ir
      have IR := Lib.hid ir
      clear hr ir
      have hr3 := hr2.symm; clear hr2; subst hr3
      by_cases hT : dcm r = t
      · have G := Lib.hid (show t = dcm r ∧ i64 r from ⟨hT.symm, IR.out⟩)
        rw [hT] at D
        clear hT
        go_wp2_with fail
        refine (D.out _).mono ?_
        rintro e w1 ⟨rfl, b1⟩
        have hb := Lib.hid b1; clear b1
        go_wp2
        go_ret2
        exact ⟨r, true, rfl, fun _ => G.out, fun h => (by cases h), hb.out⟩
      · have G := Lib.hid (show ∀ x, i64 x → t ≠ dcm x from fun x hx ht => hT (by rw [F.out x hx ht, ht]))
        have hne2 : ((dcm r).toList == t.toList) = false := beq_eq_false_iff_ne.2 fun h => hT (ba_ext (by rw [← Lib.toList_data, ← Lib.toList_data]; exact h))
        generalize dcm r = T at *
        clear hT
        go_wp2_with fail
        refine (D.out _).mono ?_
        rintro e w1 ⟨rfl, b1⟩
        have hb := Lib.hid b1; clear b1
        go_wp2
        go_ret2
        exact ⟨r, false, rfl, fun h => (by cases h), fun _ => G.out, hb.out⟩
set_option maxRecDepth 100000 in
set_option maxHeartbeats 4000000 in
theorem number_pos (w : World) (t : ByteArray) (hpos : 0 < t.size) (h45 : (((t[0]'hpos).toNat : Int) == 45) = false) (ha : sgn t = 0) (hsz : t.size ≤ 281474976710656) :
    Calls Tryd.prog 16 #[.string t] w (NumQ t w) := by
  have hp0 : decide ((0 : Int) < (t.size : Int)) = true := decide_eq_true (by omega)
  have h1 : ¬ t.size = 0 := by omega
  have hne0 : ¬ t = ByteArray.empty := fun h => by subst h; exact absurd hpos (by decide)
  have b1 : decide ((t.size : Int) ≤ 0) = false := decide_eq_false (by omega)
  by_cases h2 : 0 + 19 < t.size
  · have b2 : decide ((19 : Int) < (t.size : Int)) = true := decide_eq_true (by omega)
    have F := Lib.hid (long_no t (by rw [ha]; exact h2))
    clear h1 h2
    go_enter Tryd.func16, Tryd.ntmps16
    go_wp2
    go_ret2
    exact ⟨0, false, rfl, fun h => (by cases h), fun _ => F.out, Below.refl _ _⟩
  have b2 : decide ((19 : Int) < (t.size : Int)) = false := decide_eq_false (by omega)
  have N0 := Lib.hid (ni_start t)
  rw [ha] at N0
  have HA := Lib.hid ha; clear ha
  have HZ := Lib.hid (And.intro h1 (And.intro h2 hpos)); clear h1 h2
  have hs20 : t.size ≤ 20 := by have := HZ.out.2.1; omega
  have hs1 : 0 ≤ t.size := by have := HZ.out.2.2; omega
  go_enter Tryd.func16, Tryd.ntmps16
  go_wp2_with fail
  clear h45 hp0 b1 b2
  go_loop [5, 6] (fun n i => ∃ (k : Nat) (v : Int), 0 ≤ k ∧ k ≤ t.size ∧ n = .int .i64 v ∧ i = .int .i64 (k : Int) ∧ Hid (NI t.data.toList 0 k v)) (fun _ i => t.size - (match i with | .int _ i => i.toNat | _ => 0))
  case atStart => exact ⟨0, 0, Nat.le_refl _, hs1, rfl, rfl, N0⟩
  case round =>
    obtain ⟨k, v, hk0, hk1, rfl, rfl, hN⟩ := hrel
    by_cases hlt : k < t.size
    · have hg : t.data.toList[k]? = some (t[k]'hlt) := by
        rw [List.getElem?_eq_getElem (by rw [size_list]; exact hlt)]; rfl
      obtain ⟨c, hc⟩ : ∃ c, t[k]'hlt = c := ⟨_, rfl⟩
      rw [hc] at hg
      by_cases hd : isD c = true
      · have N2 := Lib.hid (ni_step hN.out hk0 c hg hd)
        unfold isD at hd
        obtain ⟨d1, d2⟩ := of_decide_eq_true hd
        have e1 : decide ((c.toNat : Int) < 48) = false := decide_eq_false (by omega)
        have e2 : decide ((57 : Int) < (c.toNat : Int)) = false := decide_eq_false (by omega)
        have iv := hN.out.r
        have HG := Lib.hid hg; clear hg hd
        go_wp2
        exact ⟨⟨k + 1, _, by omega, by omega, rfl, by simp, N2⟩, by simp; omega⟩
      · have F := Lib.hid (ni_bad hN.out hk0 c hg (by simpa using hd))
        have iv := hN.out.r
        unfold isD at hd
        have hd2 : ¬ (48 ≤ c.toNat ∧ c.toNat ≤ 57) := fun h => hd (decide_eq_true h)
        have HG := Lib.hid hg; clear hg hd
        by_cases h48 : c.toNat < 48
        · have e1 : decide ((c.toNat : Int) < 48) = true := decide_eq_true (by omega)
          clear hd2
          go_wp2
          go_ret2
          exact ⟨0, false, rfl, fun h => (by cases h), fun _ x hx ht => F.out x hx (by rw [ht]; rfl), Below.refl _ _⟩
        · have e1 : decide ((c.toNat : Int) < 48) = false := decide_eq_false (by omega)
          have e2 : decide ((57 : Int) < (c.toNat : Int)) = true := decide_eq_true (by omega)
          clear hd2 h48
          go_wp2
          go_ret2
          exact ⟨0, false, rfl, fun h => (by cases h), fun _ x hx ht => F.out x hx (by rw [ht]; rfl), Below.refl _ _⟩
    · obtain rfl : k = t.size := by omega
      have iv := hN.out.r
      obtain ⟨r, hr⟩ : ∃ r, (if sgn t = 0 then wrap64 (-v) else v) = r := ⟨_, rfl⟩
      have F := Lib.hid fun x hx ht => (ni_end (by rw [HA.out]; exact hN.out) x hx ht : (if sgn t = 0 then wrap64 (-v) else v) = x)
      rw [hr] at F
      rw [HA.out] at hr
      have hr2 : wrap64 (-v) = r := by simpa using hr
      have ir : i64 r := by rw [← hr2]; exact ⟨by unfold wrap64; omega, by unfold wrap64; omega⟩
      have D := Lib.hid fun W => decimal_any W r ir
      have IR := Lib.hid ir
      clear hr ir
      skip
      by_cases hT : dcm r = t
      · have G := Lib.hid (show t = dcm r ∧ i64 r from ⟨hT.symm, IR.out⟩)
        rw [hT] at D
        clear hT
        go_wp2_with fail
        refine (D.out _).mono ?_
        rintro e w1 ⟨rfl, b1⟩
        have hb := Lib.hid b1; clear b1
        go_wp2
        go_ret2
        exact ⟨r, true, rfl, fun _ => G.out, fun h => (by cases h), hb.out⟩
      · have G := Lib.hid (show ∀ x, i64 x → t ≠ dcm x from fun x hx ht => hT (by rw [F.out x hx ht, ht]))
        have hne2 : ((dcm r).toList == t.toList) = false := beq_eq_false_iff_ne.2 fun h => hT (ba_ext (by rw [← Lib.toList_data, ← Lib.toList_data]; exact h))
        generalize dcm r = T at *
        clear hT
        go_wp2_with fail
        refine (D.out _).mono ?_
        rintro e w1 ⟨rfl, b1⟩
        have hb := Lib.hid b1; clear b1
        go_wp2
        go_ret2
        exact ⟨r, false, rfl, fun h => (by cases h), fun _ => G.out, hb.out⟩
set_option maxRecDepth 100000 in
set_option maxHeartbeats 4000000 in
theorem number_any (w : World) (t : ByteArray) (hsz : t.size ≤ 281474976710656) : Calls Tryd.prog 16 #[.string t] w (NumQ t w) := by
  by_cases h0 : t.size = 0
  · have e : t = ⟨#[]⟩ := ba_ext (by
      have : t.data.toList.length = 0 := by rw [size_list]; exact h0
      exact List.length_eq_zero_iff.1 this)
    subst e
    have F := Lib.hid (short_no ⟨#[]⟩ rfl)
    go_enter Tryd.func16, Tryd.ntmps16
    go_wp2
    go_ret2
    exact ⟨0, false, rfl, fun h => (by cases h), fun _ => F.out, Below.refl _ _⟩
  · have hpos : 0 < t.size := by omega
    have hh : t.data.toList.head? = some (t[0]'hpos) := by
      rw [List.head?_eq_getElem?, List.getElem?_eq_getElem (by rw [size_list]; exact hpos)]; rfl
    by_cases h45 : (t[0]'hpos) = 45
    · exact number_neg w t hpos (by rw [h45]; rfl) (by unfold sgn; rw [hh, h45, if_pos rfl]) hsz
    · exact number_pos w t hpos (beq_eq_false_iff_ne.2 fun h => h45 (UInt8.toNat_inj.1 (by
        have : ((t[0]'hpos).toNat : Int) = 45 := h
        show (t[0]'hpos).toNat = 45
        omega))) (by unfold sgn; rw [hh, if_neg (fun h => h45 (by injection h))]) hsz
end Go.Proofs.YthoonpjgecempaaDoor.S5
