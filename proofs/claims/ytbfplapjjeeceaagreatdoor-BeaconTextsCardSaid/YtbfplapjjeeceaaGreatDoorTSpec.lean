/-
  The walks of the reference's number, Text and Read.
  The walks of the reference's Text and Read.
  A partial read from a text: what the program's reader finds, and what the reference's words give.
-/
import Derived.Test.YtbfplapjjeeceaaGreatDoorTCut
import Derived.Test.YtbfplapjjeeceaaGreatDoorERefV
import Derived.Test.YtbfplapjjeeceaaGreatDoorBSan
namespace Go.Proofs.YtbfplapjjeeceaaGreatDoor.E6
open Go.RowKit GM SH G4 DM
/-- the digits of a text of a number stand behind its sign -/
theorem itoa_form (x : Int) (h : i64 x) : (x < 0 ∧ Lib.itoa x = 45 :: Lib.decDigits x.natAbs ∧ x = -(x.natAbs : Int) ∧ x.natAbs ≤ 9223372036854775808 ∨ 0 ≤ x ∧ Lib.itoa x = Lib.decDigits x.natAbs ∧ x = (x.natAbs : Int) ∧ x.natAbs ≤ 9223372036854775807) := by
  obtain ⟨h0, h1⟩ := h
  by_cases hx : x < 0
  · exact .inl ⟨hx, by unfold Lib.itoa; rw [if_pos hx], by omega, by omega⟩
  · exact .inr ⟨by omega, by unfold Lib.itoa; rw [if_neg hx]; congr 1; omega, by omega, by omega⟩
/-- what the loop keeps: where the digits begin, the number so far -/
structure NI (t : List UInt8) (a k : Nat) (v : Int) : Prop where
  r : i64 v
  e : ∀ x, i64 x → t = Lib.itoa x → t.drop a = Lib.decDigits x.natAbs ∧ v = -(dvl ((t.drop a).take (k - a)) : Int)
theorem ni_step {t : List UInt8} {a k : Nat} {v : Int} (h : NI t a k v) (ha : a ≤ k) (c : UInt8) (hc : t[k]? = some c) (hd : isD c = true) : NI t a (k+1) (wrap64 (wrap64 (10 * v) - ((c.toNat : Int) - 48))) := by
  unfold isD at hd
  have hd := of_decide_eq_true hd
  refine ⟨⟨by unfold wrap64; omega, by unfold wrap64; omega⟩, fun x hx ht => ?_⟩
  obtain ⟨h1, h2⟩ := h.e x hx ht
  refine ⟨h1, ?_⟩
  have hk : (t.drop a)[k - a]? = some c := by rw [List.getElem?_drop]; rw [show a + (k - a) = k by omega]; exact hc
  have h3 := dvl_take _ _ c hk
  rw [show k + 1 - a = k - a + 1 by omega, h3]
  have h4 := dvl_take_le (t.drop a) (k - a + 1)
  rw [h3, h1, (dec_all _).2.1] at h4
  rw [h1] at h2
  have hb : x.natAbs ≤ 9223372036854775808 := by rcases itoa_form x hx with ⟨_, _, _, h⟩ | ⟨_, _, _, h⟩ <;> omega
  rw [h1]
  generalize dvl ((Lib.decDigits x.natAbs).take (k - a)) = m at *
  subst h2
  unfold wrap64
  omega
theorem itoa_len (x : Int) (h : i64 x) : (Lib.itoa x).length ≤ 20 := by
  rcases itoa_form x h with ⟨_, e, _, hb⟩ | ⟨_, e, _, hb⟩
  · rw [e, List.length_cons]
    have := dec_len 19 x.natAbs (by decide) (by omega); omega
  · rw [e]
    have := dec_len 19 x.natAbs (by decide) (by omega); omega
/-- how the reference reads a number -/
def NumQ (t : ByteArray) (w : World) : Ending → World → Prop := fun e w' =>
  ∃ (v : Int) (b : Bool), e = .returned (.tuple #[.int .i64 v, .bool b]) ∧ (b = true → t = dcm v ∧ i64 v) ∧ (b = false → ∀ x, i64 x → t ≠ dcm x) ∧ Below w.heap.size w w'
theorem dcm_list (x : Int) : (dcm x).data.toList = Lib.itoa x := rfl
/-- where the digits begin -/
def sgn (t : ByteArray) : Nat := if t.data.toList.head? = some 45 then 1 else 0
theorem ni_start (t : ByteArray) : NI t.data.toList (sgn t) (sgn t) 0 := by
  refine ⟨by decide, fun x hx ht => ⟨?_, by simp [dvl]⟩⟩
  unfold sgn
  rw [ht]
  rcases itoa_form x hx with ⟨_, e, _, _⟩ | ⟨_, e, _, _⟩
  · rw [e]; rfl
  · rw [e]
    obtain ⟨d1, _, d3⟩ := dec_all x.natAbs
    cases hl : Lib.decDigits x.natAbs with
    | nil => exact absurd hl d3
    | cons c r =>
      have hc := d1 c (by rw [hl]; simp)
      have : ¬ (some c = some (45 : UInt8)) := fun h => by injection h with h; subst h; revert hc; decide
      rw [List.head?_cons, if_neg this]; rfl
/-- a text with another byte than a digit is none of a number -/
theorem ni_bad {t : List UInt8} {a k : Nat} {v : Int} (h : NI t a k v) (ha : a ≤ k) (c : UInt8) (hc : t[k]? = some c) (hd : isD c = false) : ∀ x, i64 x → t ≠ Lib.itoa x := fun x hx ht => by
  have h1 := (h.e x hx ht).1
  have hk : (t.drop a)[k - a]? = some c := by rw [List.getElem?_drop]; rw [show a + (k - a) = k by omega]; exact hc
  rw [h1] at hk
  have := (dec_all x.natAbs).1 c (List.mem_of_getElem? hk)
  rw [hd] at this; cases this
theorem ni_end {t : ByteArray} {v : Int} (h : NI t.data.toList (sgn t) t.size v) (x : Int) (hx : i64 x) (ht : t = dcm x) : (if sgn t = 0 then wrap64 (-v) else v) = x := by
  have e : t.data.toList = Lib.itoa x := by rw [ht]; rfl
  obtain ⟨h1, h2⟩ := h.e x hx e
  have hl : t.data.toList.length = t.size := size_list t
  rw [List.take_of_length_le (by rw [List.length_drop]; omega), h1, (dec_all _).2.1] at h2
  unfold sgn
  rw [e]
  rcases itoa_form x hx with ⟨_, e, e2, _⟩ | ⟨_, e, e2, hb⟩
  · rw [e, List.head?_cons, if_pos rfl, if_neg (by decide)]; omega
  · rw [e]
    obtain ⟨d1, _, d3⟩ := dec_all x.natAbs
    cases hl : Lib.decDigits x.natAbs with
    | nil => exact absurd hl d3
    | cons c r =>
      have hc := d1 c (by rw [hl]; simp)
      have : ¬ (some c = some (45 : UInt8)) := fun h => by injection h with h; subst h; revert hc; decide
      rw [List.head?_cons, if_neg this, if_pos rfl, h2]
      unfold wrap64; omega
theorem short_no (t : ByteArray) (h : sgn t = t.size) : ∀ x, i64 x → t ≠ dcm x := fun x hx ht => by
  have e : t.data.toList = Lib.itoa x := by rw [ht]; rfl
  have h1 := ((ni_start t).e x hx e).1
  have hl : t.data.toList.length = t.size := size_list t
  rw [List.drop_eq_nil_of_le (by omega)] at h1
  exact (dec_all x.natAbs).2.2 h1.symm
theorem long_no (t : ByteArray) (h : 20 < t.size) : ∀ x, i64 x → t ≠ dcm x := fun x hx ht => by
  have e : t.data.toList = Lib.itoa x := by rw [ht]; rfl
  have h1 := itoa_len x hx
  have hl : t.data.toList.length = t.size := size_list t
  rw [← e] at h1; omega
set_option maxRecDepth 100000 in
set_option maxHeartbeats 4000000 in
theorem number_neg (w : World) (t : ByteArray) (hpos : 0 < t.size) (h45 : (((t[0]'hpos).toNat : Int) == 45) = true) (ha : sgn t = 1) (hsz : t.size ≤ 281474976710656) :
    Calls Tryz.prog 102 #[.string t] w (NumQ t w) := by
  have hp0 : decide ((0 : Int) < (t.size : Int)) = true := decide_eq_true (by omega)
  by_cases h1 : t.size = 1
  · have b1 : ((1 : Int) == (t.size : Int)) = true := beq_iff_eq.2 (by omega)
    have F := Lib.hid (short_no t (by rw [ha, h1]))
    clear h1
    go_enter Tryz.func102, Tryz.ntmps102
    go_wp2
    go_ret2
    exact ⟨0, false, rfl, fun h => (by cases h), fun _ => F.out, Below.refl _ _⟩
  have b1 : ((1 : Int) == (t.size : Int)) = false := beq_eq_false_iff_ne.2 (by omega)
  by_cases h2 : 20 < t.size
  · have b2 : decide ((20 : Int) < (t.size : Int)) = true := decide_eq_true (by omega)
    have F := Lib.hid (long_no t h2)
    clear h1 h2
    go_enter Tryz.func102, Tryz.ntmps102
    go_wp2
    go_ret2
    exact ⟨0, false, rfl, fun h => (by cases h), fun _ => F.out, Below.refl _ _⟩
  have b2 : decide ((20 : Int) < (t.size : Int)) = false := decide_eq_false (by omega)
  have N0 := Lib.hid (ni_start t)
  rw [ha] at N0
  have HA := Lib.hid ha; clear ha
  have HZ := Lib.hid (And.intro h1 (And.intro h2 hpos)); clear h1 h2
  have hs20 : t.size ≤ 20 := by have := HZ.out.2.1; omega
  have hs1 : 1 ≤ t.size := by have := HZ.out.2.2; omega
  go_enter Tryz.func102, Tryz.ntmps102
  go_wp2_with fail
  clear h45 hp0 b1 b2
  go_loop [5, 6] (fun n i => ∃ (k : Nat) (v : Int), 1 ≤ k ∧ k ≤ t.size ∧ n = .int .i64 v ∧ i = .int .i64 (k : Int) ∧ Hid (NI t.data.toList 1 k v)) (fun _ i => t.size - (match i with | .int _ i => i.toNat | _ => 0))
  case atStart => exact ⟨1, 0, Nat.le_refl _, hs1, rfl, rfl, N0⟩
  case round =>
    obtain ⟨k, v, hk0, hk1, rfl, rfl, hN⟩ := hrel
    by_cases hlt : k < t.size
    · have hg : t.data.toList[k]? = some (t[k]'hlt) := by
        rw [List.getElem?_eq_getElem (by rw [size_list]; exact hlt)]; rfl
      obtain ⟨c, hc⟩ : ∃ c, t[k]'hlt = c := ⟨_, rfl⟩
      rw [hc] at hg
      by_cases hd : isD c = true
      · have N2 := Lib.hid (ni_step hN.out hk0 c hg hd)
        unfold isD at hd
        obtain ⟨d1, d2⟩ := of_decide_eq_true hd
        have e1 : decide ((c.toNat : Int) < 48) = false := decide_eq_false (by omega)
        have e2 : decide ((57 : Int) < (c.toNat : Int)) = false := decide_eq_false (by omega)
        have iv := hN.out.r
        have HG := Lib.hid hg; clear hg hd
        go_wp2
        exact ⟨⟨k + 1, _, by omega, by omega, rfl, by simp, N2⟩, by simp; omega⟩
      · have F := Lib.hid (ni_bad hN.out hk0 c hg (by simpa using hd))
        have iv := hN.out.r
        unfold isD at hd
        have hd2 : ¬ (48 ≤ c.toNat ∧ c.toNat ≤ 57) := fun h => hd (decide_eq_true h)
        have HG := Lib.hid hg; clear hg hd
        by_cases h48 : c.toNat < 48
        · have e1 : decide ((c.toNat : Int) < 48) = true := decide_eq_true (by omega)
          clear hd2
          go_wp2
          go_ret2
          exact ⟨0, false, rfl, fun h => (by cases h), fun _ x hx ht => F.out x hx (by rw [ht]; rfl), Below.refl _ _⟩
        · have e1 : decide ((c.toNat : Int) < 48) = false := decide_eq_false (by omega)
          have e2 : decide ((57 : Int) < (c.toNat : Int)) = true := decide_eq_true (by omega)
          clear hd2 h48
          go_wp2
          go_ret2
          exact ⟨0, false, rfl, fun h => (by cases h), fun _ x hx ht => F.out x hx (by rw [ht]; rfl), Below.refl _ _⟩
    · obtain rfl : k = t.size := by omega
      have iv := hN.out.r
      obtain ⟨r, hr⟩ : ∃ r, (if sgn t = 0 then wrap64 (-v) else v) = r := ⟨_, rfl⟩
      have F := Lib.hid fun x hx ht => (ni_end (by rw [HA.out]; exact hN.out) x hx ht : (if sgn t = 0 then wrap64 (-v) else v) = x)
      rw [hr] at F
      rw [HA.out] at hr
      have hr2 : v = r := by simpa using hr
      have ir : i64 r := by rw [← hr2]; exact iv
      have D := Lib.hid fun W => decimal_any W r ir
      have IR := Lib.hid ir
      clear hr ir
      have hr3 := hr2.symm; clear hr2; subst hr3
      by_cases hT : dcm r = t
      · have G := Lib.hid (show t = dcm r ∧ i64 r from ⟨hT.symm, IR.out⟩)
        rw [hT] at D
        clear hT
        go_wp2_with fail
        refine (D.out _).mono ?_
        rintro e w1 ⟨rfl, b1⟩
        have hb := Lib.hid b1; clear b1
        go_wp2
        go_ret2
        exact ⟨r, true, rfl, fun _ => G.out, fun h => (by cases h), hb.out⟩
      · have G := Lib.hid (show ∀ x, i64 x → t ≠ dcm x from fun x hx ht => hT (by rw [F.out x hx ht, ht]))
        have hne2 : ((dcm r).toList == t.toList) = false := beq_eq_false_iff_ne.2 fun h => hT (ba_ext (by rw [← Lib.toList_data, ← Lib.toList_data]; exact h))
        generalize dcm r = T at *
        clear hT
        go_wp2_with fail
        refine (D.out _).mono ?_
        rintro e w1 ⟨rfl, b1⟩
        have hb := Lib.hid b1; clear b1
        go_wp2
        go_ret2
        exact ⟨r, false, rfl, fun h => (by cases h), fun _ => G.out, hb.out⟩
set_option maxRecDepth 100000 in
set_option maxHeartbeats 4000000 in
theorem number_pos (w : World) (t : ByteArray) (hpos : 0 < t.size) (h45 : (((t[0]'hpos).toNat : Int) == 45) = false) (ha : sgn t = 0) (hsz : t.size ≤ 281474976710656) :
    Calls Tryz.prog 102 #[.string t] w (NumQ t w) := by
  have hp0 : decide ((0 : Int) < (t.size : Int)) = true := decide_eq_true (by omega)
  by_cases h1 : t.size = 0
  · have b1 : ((0 : Int) == (t.size : Int)) = true := beq_iff_eq.2 (by omega)
    have F := Lib.hid (short_no t (by rw [ha, h1]))
    clear h1
    go_enter Tryz.func102, Tryz.ntmps102
    go_wp2
    go_ret2
    exact ⟨0, false, rfl, fun h => (by cases h), fun _ => F.out, Below.refl _ _⟩
  have b1 : ((0 : Int) == (t.size : Int)) = false := beq_eq_false_iff_ne.2 (by omega)
  by_cases h2 : 20 < t.size
  · have b2 : decide ((20 : Int) < (t.size : Int)) = true := decide_eq_true (by omega)
    have F := Lib.hid (long_no t h2)
    clear h1 h2
    go_enter Tryz.func102, Tryz.ntmps102
    go_wp2
    go_ret2
    exact ⟨0, false, rfl, fun h => (by cases h), fun _ => F.out, Below.refl _ _⟩
  have b2 : decide ((20 : Int) < (t.size : Int)) = false := decide_eq_false (by omega)
  have N0 := Lib.hid (ni_start t)
  rw [ha] at N0
  have HA := Lib.hid ha; clear ha
  have HZ := Lib.hid (And.intro h1 (And.intro h2 hpos)); clear h1 h2
  have hs20 : t.size ≤ 20 := by have := HZ.out.2.1; omega
  have hs1 : 0 ≤ t.size := by have := HZ.out.2.2; omega
  go_enter Tryz.func102, Tryz.ntmps102
  go_wp2_with fail
  clear h45 hp0 b1 b2
  go_loop [5, 6] (fun n i => ∃ (k : Nat) (v : Int), 0 ≤ k ∧ k ≤ t.size ∧ n = .int .i64 v ∧ i = .int .i64 (k : Int) ∧ Hid (NI t.data.toList 0 k v)) (fun _ i => t.size - (match i with | .int _ i => i.toNat | _ => 0))
  case atStart => exact ⟨0, 0, Nat.le_refl _, hs1, rfl, rfl, N0⟩
  case round =>
    obtain ⟨k, v, hk0, hk1, rfl, rfl, hN⟩ := hrel
    by_cases hlt : k < t.size
    · have hg : t.data.toList[k]? = some (t[k]'hlt) := by
        rw [List.getElem?_eq_getElem (by rw [size_list]; exact hlt)]; rfl
      obtain ⟨c, hc⟩ : ∃ c, t[k]'hlt = c := ⟨_, rfl⟩
      rw [hc] at hg
      by_cases hd : isD c = true
      · have N2 := Lib.hid (ni_step hN.out hk0 c hg hd)
        unfold isD at hd
        obtain ⟨d1, d2⟩ := of_decide_eq_true hd
        have e1 : decide ((c.toNat : Int) < 48) = false := decide_eq_false (by omega)
        have e2 : decide ((57 : Int) < (c.toNat : Int)) = false := decide_eq_false (by omega)
        have iv := hN.out.r
        have HG := Lib.hid hg; clear hg hd
        go_wp2
        exact ⟨⟨k + 1, _, by omega, by omega, rfl, by simp, N2⟩, by simp; omega⟩
      · have F := Lib.hid (ni_bad hN.out hk0 c hg (by simpa using hd))
        have iv := hN.out.r
        unfold isD at hd
        have hd2 : ¬ (48 ≤ c.toNat ∧ c.toNat ≤ 57) := fun h => hd (decide_eq_true h)
        have HG := Lib.hid hg; clear hg hd
        by_cases h48 : c.toNat < 48
        · have e1 : decide ((c.toNat : Int) < 48) = true := decide_eq_true (by omega)
          clear hd2
          go_wp2
          go_ret2
          exact ⟨0, false, rfl, fun h => (by cases h), fun _ x hx ht => F.out x hx (by rw [ht]; rfl), Below.refl _ _⟩
        · have e1 : decide ((c.toNat : Int) < 48) = false := decide_eq_false (by omega)
          have e2 : decide ((57 : Int) < (c.toNat : Int)) = true := decide_eq_true (by omega)
          clear hd2 h48
          go_wp2
          go_ret2
          exact ⟨0, false, rfl, fun h => (by cases h), fun _ x hx ht => F.out x hx (by rw [ht]; rfl), Below.refl _ _⟩
    · obtain rfl : k = t.size := by omega
      have iv := hN.out.r
      obtain ⟨r, hr⟩ : ∃ r, (if sgn t = 0 then wrap64 (-v) else v) = r := ⟨_, rfl⟩
      have F := Lib.hid fun x hx ht => (ni_end (by rw [HA.out]; exact hN.out) x hx ht : (if sgn t = 0 then wrap64 (-v) else v) = x)
      rw [hr] at F
      rw [HA.out] at hr
      have hr2 : wrap64 (-v) = r := by simpa using hr
      have ir : i64 r := by rw [← hr2]; exact ⟨by unfold wrap64; omega, by unfold wrap64; omega⟩
      have D := Lib.hid fun W => decimal_any W r ir
      have IR := Lib.hid ir
      clear hr ir
      skip
      by_cases hT : dcm r = t
      · have G := Lib.hid (show t = dcm r ∧ i64 r from ⟨hT.symm, IR.out⟩)
        rw [hT] at D
        clear hT
        go_wp2_with fail
        refine (D.out _).mono ?_
        rintro e w1 ⟨rfl, b1⟩
        have hb := Lib.hid b1; clear b1
        go_wp2
        go_ret2
        exact ⟨r, true, rfl, fun _ => G.out, fun h => (by cases h), hb.out⟩
      · have G := Lib.hid (show ∀ x, i64 x → t ≠ dcm x from fun x hx ht => hT (by rw [F.out x hx ht, ht]))
        have hne2 : ((dcm r).toList == t.toList) = false := beq_eq_false_iff_ne.2 fun h => hT (ba_ext (by rw [← Lib.toList_data, ← Lib.toList_data]; exact h))
        generalize dcm r = T at *
        clear hT
        go_wp2_with fail
        refine (D.out _).mono ?_
        rintro e w1 ⟨rfl, b1⟩
        have hb := Lib.hid b1; clear b1
        go_wp2
        go_ret2
        exact ⟨r, false, rfl, fun h => (by cases h), fun _ => G.out, hb.out⟩
set_option maxRecDepth 100000 in
set_option maxHeartbeats 4000000 in
theorem number_any (w : World) (t : ByteArray) (hsz : t.size ≤ 281474976710656) : Calls Tryz.prog 102 #[.string t] w (NumQ t w) := by
  by_cases h0 : t.size = 0
  · have e : t = ⟨#[]⟩ := ba_ext (by
      have : t.data.toList.length = 0 := by rw [size_list]; exact h0
      exact List.length_eq_zero_iff.1 this)
    subst e
    have F := Lib.hid (short_no ⟨#[]⟩ rfl)
    go_enter Tryz.func102, Tryz.ntmps102
    go_wp2
    go_ret2
    exact ⟨0, false, rfl, fun h => (by cases h), fun _ => F.out, Below.refl _ _⟩
  · have hpos : 0 < t.size := by omega
    have hh : t.data.toList.head? = some (t[0]'hpos) := by
      rw [List.head?_eq_getElem?, List.getElem?_eq_getElem (by rw [size_list]; exact hpos)]; rfl
    by_cases h45 : (t[0]'hpos) = 45
    · exact number_neg w t hpos (by rw [h45]; rfl) (by unfold sgn; rw [hh, h45, if_pos rfl]) hsz
    · exact number_pos w t hpos (beq_eq_false_iff_ne.2 fun h => h45 (UInt8.toNat_inj.1 (by
        have : ((t[0]'hpos).toNat : Int) = 45 := h
        show (t[0]'hpos).toNat = 45
        omega))) (by unfold sgn; rw [hh, if_neg (fun h => h45 (by injection h))]) hsz
end Go.Proofs.YtbfplapjjeeceaaGreatDoor.E6
namespace Go.Proofs.YtbfplapjjeeceaaGreatDoor.E6
open Go.RowKit GM SH G4 DM
set_option maxRecDepth 100000 in
set_option maxHeartbeats 2000000 in
theorem refText_any (w : World) (R S : Int) (hR : -9223372036854775808 ≤ R ∧ R ≤ 9223372036854775807) (hS : -9223372036854775808 ≤ S ∧ S ≤ 9223372036854775807) (hT : TS w) :
    Calls Tryz.prog 70 #[pfv R S] w fun e w' => e = .returned (.string (txt R S)) ∧ Below w.heap.size w w' := by
  obtain ⟨W, hW⟩ : ∃ W, w.alloc (.cells #[.int .i64 R, .int .i64 S] 28) = W := ⟨_, rfl⟩
  have h1 : PM W w.heap.size R S := by rw [← hW]; exact PM.new _ _ _
  have hb : Below w.heap.size w W := by rw [← hW]; exact (Below.refl w.heap.size w).alloc (Nat.le_refl _) _
  have hTW : TS W := hT.below hb
  have c0 := h1.c0
  have c1 := h1.c1
  have I1 := Lib.hid fun W (h : TS W) => decimal_any W R hR
  have I2 := Lib.hid fun W (h : TS W) => decimal_any W S hS
  have E := Lib.hid (show txt R S = dcm R ++ (⟨#[46]⟩ : ByteArray) ++ dcm S from rfl)
  have z1 := dcm_size R hR
  have z2 := dcm_size S hS
  generalize txt R S = T at *
  generalize dcm R = X at *
  generalize dcm S = Y at *
  have b1 : (9223372036854775807 < X.size + 1) = False := eq_false (by omega)
  have b2 : (9223372036854775807 < X.size + 1 + Y.size) = False := eq_false (by omega)
  clear h1 hT z1 z2
  have HR := Lib.hid (And.intro hR hS); clear hR hS
  go_enter Tryz.func70, Tryz.ntmps70
  go_upto_region 1 with fail
  clear hW
  go_region_held3 (fun w' => TS w' ∧ Below w.heap.size w w' ∧ w'.cell? ⟨w.heap.size, 0, none⟩ = some (.int .i64 R) ∧ w'.cell? ⟨w.heap.size, 1, none⟩ = some (.int .i64 S))
    (first | assumption | exact ⟨hTW.below (Below.drew (Below.refl _ _)), hb.drew, c0, c1⟩ | exact ⟨hTW, hb, c0, c1⟩ | exact tx_next (by assumption) b)
    (first
      | (go_at_call_of 98 (Value.int .i64 R); refine (I1.out _ (And.left (by assumption))).mono ?_; rintro e w' ⟨rfl, b⟩)
      | (go_at_call_of 98 (Value.int .i64 S); refine (I2.out _ (And.left (by assumption))).mono ?_; rintro e w' ⟨rfl, b⟩))
  all_goals go_wp2
  all_goals go_ret
  all_goals exact ⟨by rw [E.out]; rfl, (And.left (And.right (by assumption)) : Below w.heap.size w _)⟩
theorem txt_list (x y : Int) : (txt x y).data.toList = Lib.itoa x ++ 46 :: Lib.itoa y := by
  unfold txt
  rw [ByteArray.data_append, Array.toList_append, ByteArray.data_append, Array.toList_append]
  show Lib.itoa x ++ [46] ++ Lib.itoa y = _
  simp
theorem nm_itoa (x : Int) (h : i64 x) : nm (Lib.itoa x) = x := by unfold nm; rw [atoi_itoa x h.1 h.2]
theorem rd_both (s : ByteArray) (x y : Int) (hx : i64 x) (hy : i64 y) (hs : s.data.toList = Lib.itoa x ++ 46 :: Lib.itoa y) : rdOk s = true ∧ rdv s = pfv x y := by
  have e : Lib.cut s.data.toList [46] = (Lib.itoa x, Lib.itoa y, true) := by rw [hs, cut_dot _ _ (itoa_dot x)]
  have a : nmA s = x := by
    unfold nmA ptA; rw [e]; exact nm_itoa x hx
  have b : nmB s = y := by
    unfold nmB ptB; rw [e]; exact nm_itoa y hy
  have k : rdOk s = true := by
    unfold rdOk; rw [a, b]
    exact decide_eq_true (ba_ext (by rw [txt_list, hs]))
  exact ⟨k, by unfold rdv; rw [k, if_pos rfl, a, b]⟩
theorem rd_is (s : ByteArray) (h : rdOk s = true) : ∃ x y, i64 x ∧ i64 y ∧ s.data.toList = Lib.itoa x ++ 46 :: Lib.itoa y := by
  unfold rdOk at h
  have h := of_decide_eq_true h
  exact ⟨nmA s, nmB s, nm_rng _, nm_rng _, by rw [← txt_list, h]⟩
theorem rd_no {s : ByteArray} (h : rdOk s = false) : rdv s = pfv 0 0 := by unfold rdv; rw [h]; rfl
theorem rd_none (s : ByteArray) (h : ∀ c ∈ s.data.toList, c ≠ 46) : rdOk s = false := by
  cases e : rdOk s with
  | false => rfl
  | true =>
    obtain ⟨x, y, _, _, hs⟩ := rd_is s e
    exact absurd rfl (h 46 (by rw [hs]; simp))
theorem rd_not (s : ByteArray) (k : Nat) (hk : s.data.toList = s.data.toList.take k ++ 46 :: s.data.toList.drop (k+1)) (hn : ∀ c ∈ s.data.toList.take k, c ≠ 46)
    (h : (∀ x, i64 x → s.extract 0 k ≠ dcm x) ∨ (∀ x, i64 x → s.extract (k+1) s.size ≠ dcm x)) : rdOk s = false := by
  cases e : rdOk s with
  | false => rfl
  | true =>
    obtain ⟨x, y, hx, hy, hs⟩ := rd_is s e
    obtain ⟨e1, e2⟩ := dot_unique _ _ _ _ hn (itoa_dot x) (hk.symm.trans hs)
    rcases h with h | h
    · exact absurd (ba_ext (by rw [ext_list, dcm_list]; simpa using e1)) (h x hx)
    · exact absurd (ba_ext (by
        rw [ext_list, List.take_of_length_le (by rw [List.length_drop, size_list]; omega)]; exact e2)) (h y hy)
theorem rd_yes (s : ByteArray) (k : Nat) (hk : s.data.toList = s.data.toList.take k ++ 46 :: s.data.toList.drop (k+1)) (x y : Int) (hx : i64 x) (hy : i64 y)
    (h1 : s.extract 0 k = dcm x) (h2 : s.extract (k+1) s.size = dcm y) : rdOk s = true ∧ rdv s = pfv x y := by
  refine rd_both s x y hx hy ?_
  have e1 : s.data.toList.take k = Lib.itoa x := by
    have := congrArg (fun b => b.data.toList) h1
    simp only [ext_list, dcm_list] at this
    simpa using this
  have e2 : s.data.toList.drop (k+1) = Lib.itoa y := by
    have := congrArg (fun b => b.data.toList) h2
    simp only [ext_list] at this
    rwa [List.take_of_length_le (by rw [List.length_drop, size_list]; omega)] at this
  rw [hk, e1, e2]
theorem ext_size (s : ByteArray) (a b : Nat) : (s.extract a b).size ≤ s.size := by
  have h := congrArg List.length (ext_list s a b)
  rw [List.length_take, List.length_drop, size_list, size_list] at h
  omega
set_option maxRecDepth 100000 in
set_option maxHeartbeats 4000000 in
theorem refRead_any (w : World) (s : ByteArray) (hs : s.size ≤ 281474976710656) :
    Calls Tryz.prog 64 #[.string s] w fun e w' => e = .returned (.tuple #[rdv s, .bool (rdOk s)]) ∧ Below w.heap.size w w' := by
  obtain ⟨W, hW⟩ : ∃ W, w.alloc (.cells #[.int .i64 0, .int .i64 0] 28) = W := ⟨_, rfl⟩
  have h1 : PM W w.heap.size 0 0 := by rw [← hW]; exact PM.new _ _ _
  have hb : Below w.heap.size w W := by rw [← hW]; exact (Below.refl w.heap.size w).alloc (Nat.le_refl _) _
  have HK := Lib.hid (And.intro hb h1); clear h1 hb
  have h0 := infoP 0 0
  have HS := Lib.hid hs
  go_enter Tryz.func64, Tryz.ntmps64
  go_upto_region 1 with fail
  clear hW
  go_wp2_with fail
  go_loop [4] (fun i => ∃ (k : Nat), k ≤ s.size ∧ i = .int .i64 (k : Int) ∧ Hid (∀ c ∈ s.data.toList.take k, c ≠ 46)) (fun i => s.size - (match i with | .int _ i => i.toNat | _ => 0))
  case atStart => exact ⟨0, Nat.zero_le _, rfl, Lib.hid (by simp)⟩
  case round =>
    obtain ⟨k, hk, rfl, hn⟩ := hrel
    by_cases hlt : k < s.size
    · have hl : k < s.data.toList.length := by rw [size_list]; exact hlt
      have hg : s.data.toList[k]? = some (s[k]'hlt) := by
        rw [List.getElem?_eq_getElem hl]; rfl
      obtain ⟨c, hc⟩ : ∃ c, s[k]'hlt = c := ⟨_, rfl⟩
      rw [hc] at hg
      have hbk : (k : Int) + 1 ≤ 281474976710656 := by omega
      by_cases h46 : c = 46
      · have e1 : ((c.toNat : Int) == 46) = true := by rw [h46]; rfl
        have HD := Lib.hid (show s.data.toList = s.data.toList.take k ++ 46 :: s.data.toList.drop (k+1) by
          have h4 : s.data.toList[k] = 46 := by
            have := (List.getElem?_eq_some_iff.1 hg).2
            rw [this, h46]
          conv => lhs; rw [← List.take_append_drop k s.data.toList, List.drop_eq_getElem_cons hl, h4])
        have N1 := Lib.hid fun W => number_any W (s.extract 0 k) (Nat.le_trans (ext_size s 0 k) HS.out)
        have N2 := Lib.hid fun W => number_any W (s.extract (k + 1) s.size) (Nat.le_trans (ext_size s (k+1) s.size) HS.out)
        have YY := Lib.hid fun x y hx hy => rd_yes s k HD.out x y hx hy
        have NN := Lib.hid (rd_not s k HD.out hn.out)
        clear hg h46 hl HD
        go_wp2_with fail
        refine (N1.out _).mono ?_
        rintro e w1 ⟨v1, q1, rfl, y1, n1, b1⟩
        have K1 := Lib.hid (And.intro (HK.out.1.trans (b1.mono HK.out.1.size)) (HK.out.2.next b1)); clear b1
        have Y1 := Lib.hid y1
        have M1 := Lib.hid n1
        clear y1 n1 N1
        go_wp2_with fail
        refine (N2.out _).mono ?_
        rintro e w2 ⟨v2, q2, rfl, y2, n2, b2⟩
        have K2 := Lib.hid (And.intro (K1.out.1.trans (b2.mono K1.out.1.size)) (K1.out.2.next b2)); clear b2 K1
        have Y2 := Lib.hid y2
        have M2 := Lib.hid n2
        clear y2 n2 N2
        have hi := infoP v1 v2
        cases q1 with
        | false =>
          have F := Lib.hid (show rdOk s = false ∧ rdv s = pfv 0 0 from ⟨NN.out (.inl (M1.out rfl)), rd_no (NN.out (.inl (M1.out rfl)))⟩)
          clear M1 M2 Y1 Y2 YY NN
          have h8 := K2.out.2
          go_wp2_with (refine wpList_store_row rfl 28 (.tmp 2) (.tmp 41) rfl w.heap.size #[.int .i64 0, .int .i64 0] rfl rfl 28 _ h8 h0.out (two_size _ _ _ _) (pf_one _ _) ?_)
          refine bodyPost_ret (results_row_tmp rfl _ _ w.heap.size _ #[.int .i64 0, .int .i64 0] _ _ rfl (setRow_heap _ _ _ _ _ _ h8) Tryz.underlying28 rfl h0.out) rfl ?_
          exact ⟨by rw [F.out.1, F.out.2]; rfl, Below.setRow' K2.out.1 (Nat.le_refl _) _⟩
        | true =>
        cases q2 with
        | false =>
          have F := Lib.hid (show rdOk s = false ∧ rdv s = pfv 0 0 from ⟨NN.out (.inr (M2.out rfl)), rd_no (NN.out (.inr (M2.out rfl)))⟩)
          clear M1 M2 Y1 Y2 YY NN
          have h8 := K2.out.2
          go_wp2_with (refine wpList_store_row rfl 28 (.tmp 2) (.tmp 41) rfl w.heap.size #[.int .i64 0, .int .i64 0] rfl rfl 28 _ h8 h0.out (two_size _ _ _ _) (pf_one _ _) ?_)
          refine bodyPost_ret (results_row_tmp rfl _ _ w.heap.size _ #[.int .i64 0, .int .i64 0] _ _ rfl (setRow_heap _ _ _ _ _ _ h8) Tryz.underlying28 rfl h0.out) rfl ?_
          exact ⟨by rw [F.out.1, F.out.2]; rfl, Below.setRow' K2.out.1 (Nat.le_refl _) _⟩
        | true =>
          have F := Lib.hid (YY.out v1 v2 (Y1.out rfl).2 (Y2.out rfl).2 (Y1.out rfl).1 (Y2.out rfl).1)
          clear M1 M2 Y1 Y2 YY NN
          have h8 := K2.out.2
          go_wp2_with (refine wpList_store_row rfl 28 (.tmp 2) (.tmp 40) rfl w.heap.size #[.int .i64 v1, .int .i64 v2] rfl rfl 28 _ h8 hi.out (two_size _ _ _ _) (pf_one _ _) ?_)
          refine bodyPost_ret (results_row_tmp rfl _ _ w.heap.size _ #[.int .i64 v1, .int .i64 v2] _ _ rfl (setRow_heap _ _ _ _ _ _ h8) Tryz.underlying28 rfl hi.out) rfl ?_
          exact ⟨by rw [F.out.1, F.out.2]; rfl, Below.setRow' K2.out.1 (Nat.le_refl _) _⟩
      · have e1 : ((c.toNat : Int) == 46) = false := beq_eq_false_iff_ne.2 fun h => h46 (UInt8.toNat_inj.1 (by
          show c.toNat = 46
          omega))
        have hn2 := Lib.hid (show ∀ x ∈ s.data.toList.take (k+1), x ≠ 46 by
          intro x hx
          rw [List.take_add_one, hg] at hx
          rcases List.mem_append.1 hx with hx | hx
          · exact hn.out x hx
          · simp at hx; rw [hx]; exact h46)
        clear hg h46 hl
        go_wp2
        exact ⟨⟨k + 1, by omega, by simp, hn2⟩, by simp; omega⟩
    · obtain rfl : k = s.size := by omega
      have F := Lib.hid (show rdOk s = false ∧ rdv s = pfv 0 0 by
        have := rd_none s (by have := hn.out; rwa [List.take_of_length_le (by rw [size_list]; omega)] at this)
        exact ⟨this, rd_no this⟩)
      have h8 := HK.out.2
      go_wp2_with (refine wpList_store_row rfl 28 (.tmp 2) (.tmp 42) rfl w.heap.size #[.int .i64 0, .int .i64 0] rfl rfl 28 _ h8 h0.out (two_size _ _ _ _) (pf_one _ _) ?_)
      refine bodyPost_ret (results_row_tmp rfl _ _ w.heap.size _ #[.int .i64 0, .int .i64 0] _ _ rfl (setRow_heap _ _ _ _ _ _ h8) Tryz.underlying28 rfl h0.out) rfl ?_
      exact ⟨by rw [F.out.1, F.out.2]; rfl, Below.setRow' HK.out.1 (Nat.le_refl _) _⟩
end Go.Proofs.YtbfplapjjeeceaaGreatDoor.E6
namespace Go.Proofs.YtbfplapjjeeceaaGreatDoor.B9
open Go.RowKit GM SH G4 E6 D7P DM
open W8 hiding i64 jn
theorem txp_list (x v c z : Int) : (txp (x, v, c, z)).data.toList = Lib.itoa x ++ 32 :: (Lib.itoa v ++ 32 :: (Lib.itoa c ++ 32 :: Lib.itoa z)) := by
  unfold txp
  simp only [ByteArray.data_append, Array.toList_append]
  show Lib.itoa x ++ [32] ++ Lib.itoa v ++ [32] ++ Lib.itoa c ++ [32] ++ Lib.itoa z = _
  simp
/-- what the program's reader finds -/
def rdp (s : ByteArray) : Pa := (nm (spA s).data.toList, nm (spA (spB s)).data.toList, nm (spA (spB (spB s))).data.toList, nm (spA (spB (spB (spB s)))).data.toList)
theorem rdp_i64 (s : ByteArray) : pi64 (rdp s) := ⟨nm_rng _, nm_rng _, nm_rng _, nm_rng _⟩
/-- whether a text is read -/
def okp (s : ByteArray) : Bool := decide (txp (rdp s) = s)
theorem okp_yes {s : ByteArray} (h : txp (rdp s) = s) : okp s = true := decide_eq_true h
theorem okp_no {s : ByteArray} (h : ¬ txp (rdp s) = s) : okp s = false := decide_eq_false h
/-- the partial that is given back -/
def pa9 (s : ByteArray) : Pa := if okp s then rdp s else (0, 0, 0, 0)
theorem pa9_yes {s : ByteArray} (h : okp s = true) : pa9 s = rdp s := by unfold pa9; rw [if_pos h]
theorem pa9_no {s : ByteArray} (h : okp s = false) : pa9 s = (0, 0, 0, 0) := by unfold pa9; rw [h]; rfl
theorem sp_first (s : ByteArray) (a b : List UInt8) (h : ∀ c ∈ a, c ≠ 32) (e : s.data.toList = a ++ 32 :: b) : (spA s).data.toList = a ∧ (spB s).data.toList = b := by
  unfold spA spB; rw [e, cut_sp a b h]; exact ⟨rfl, rfl⟩
theorem sp_last (s : ByteArray) (a : List UInt8) (h : ∀ c ∈ a, c ≠ 32) (e : s.data.toList = a) : (spA s).data.toList = a := by
  rcases sp_cases s with ⟨hi, hn⟩ | ⟨i, _, _, hs, _⟩
  · rw [(sp_no hn hi).1, e]
  · have h2 : (32 : UInt8) ∈ s.data.toList := by rw [hs]; simp
    rw [e] at h2
    exact absurd rfl (h 32 h2)
/-- the reader finds the partial that was written -/
theorem rdp_txp (s : ByteArray) (p : Pa) (hp : pi64 p) (h : txp p = s) : rdp s = p := by
  obtain ⟨x, v, c, z⟩ := p
  obtain ⟨h1, h2, h3, h4⟩ := hp
  have e0 : s.data.toList = Lib.itoa x ++ 32 :: (Lib.itoa v ++ 32 :: (Lib.itoa c ++ 32 :: Lib.itoa z)) := by rw [← h, txp_list]
  obtain ⟨a1, b1⟩ := sp_first s _ _ (itoa_sp x) e0
  obtain ⟨a2, b2⟩ := sp_first (spB s) _ _ (itoa_sp v) b1
  obtain ⟨a3, b3⟩ := sp_first (spB (spB s)) _ _ (itoa_sp c) b2
  have a4 := sp_last (spB (spB (spB s))) _ (itoa_sp z) b3
  unfold rdp
  rw [a1, a2, a3, a4, nm_itoa x h1, nm_itoa v h2, nm_itoa c h3, nm_itoa z h4]
theorem okp_txp (s : ByteArray) (p : Pa) (hp : pi64 p) (h : txp p = s) : okp s = true ∧ pa9 s = p := by
  have e := rdp_txp s p hp h
  have k : okp s = true := okp_yes (by rw [e, h])
  exact ⟨k, by rw [pa9_yes k, e]⟩
/-- a word as the reference reads it: the word and ".0" as the text of a proof -/
def wd (w : ByteArray) : ByteArray := w ++ ⟨#[46, 48]⟩
def wok (w : ByteArray) : Bool := rdOk (wd w)
def wvl (w : ByteArray) : Int := nmA (wd w)
theorem wvl_i64 (w : ByteArray) : i64 (wvl w) := nm_rng _
/-- a word's end: none where it is no number, or the fifth -/
def fin9 (w : ByteArray) (l : List Int) : Option (List Int) := if wok w = true ∧ ¬ 3 < l.length then some (l ++ [wvl w]) else none
theorem fin9_yes {w : ByteArray} {l : List Int} (h : wok w = true) (k : ¬ 3 < l.length) : fin9 w l = some (l ++ [wvl w]) := if_pos ⟨h, k⟩
theorem fin9_bad {w : ByteArray} (l : List Int) (h : wok w = false) : fin9 w l = none := if_neg (fun k => by rw [h] at k; cases k.1)
theorem fin9_full (w : ByteArray) {l : List Int} (h : 3 < l.length) : fin9 w l = none := if_neg (fun k => k.2 h)
/-- the words of a text, read one after another -/
def wds : List UInt8 → ByteArray → List Int → Option (List Int)
  | [], w, l => fin9 w l
  | c :: r, w, l => if c = 32 then (match fin9 w l with | none => none | some m => wds r ⟨#[]⟩ m) else wds r (w ++ ⟨#[c]⟩) l
theorem wds_end (w : ByteArray) (l : List Int) : wds [] w l = fin9 w l := rfl
theorem wds_byte (c : UInt8) (r : List UInt8) (w : ByteArray) (l : List Int) (h : c ≠ 32) : wds (c :: r) w l = wds r (w ++ ⟨#[c]⟩) l := by rw [wds, if_neg h]
theorem wds_none (r : List UInt8) (w : ByteArray) (l : List Int) (h : fin9 w l = none) : wds (32 :: r) w l = none := by rw [wds, if_pos rfl, h]
theorem wds_some (r : List UInt8) (w : ByteArray) (l m : List Int) (h : fin9 w l = some m) : wds (32 :: r) w l = wds r ⟨#[]⟩ m := by rw [wds, if_pos rfl, h]
theorem wd_itoa (x : Int) (h : i64 x) : wok ⟨(Lib.itoa x).toArray⟩ = true ∧ wvl ⟨(Lib.itoa x).toArray⟩ = x := by
  have hl : (wd ⟨(Lib.itoa x).toArray⟩).data.toList = Lib.itoa x ++ 46 :: Lib.itoa 0 := by
    unfold wd
    rw [ByteArray.data_append, Array.toList_append]
    have : Lib.itoa 0 = [48] := by decide +kernel
    rw [this]
  obtain ⟨h1, h2⟩ := rd_both _ x 0 h (by decide) hl
  refine ⟨h1, ?_⟩
  unfold rdv at h2
  rw [h1, if_pos rfl] at h2
  unfold pfv at h2
  injection h2 with h2
  have := congrArg (fun a => a[0]?) h2
  simp at this
  exact this
theorem wds_word (a : List UInt8) (h : ∀ c ∈ a, c ≠ 32) : ∀ (w : ByteArray) (r : List UInt8) (l : List Int), wds (a ++ r) w l = wds r (w ++ ⟨a.toArray⟩) l := by
  induction a with
  | nil => intro w r l; congr 1; exact (ba_ext (by simp [ByteArray.data_append])).symm
  | cons c a ih =>
    intro w r l
    rw [List.cons_append, wds_byte _ _ _ _ (h c (by simp)), ih (fun x hx => h x (by simp [hx]))]
    congr 1
    exact ba_ext (by simp [ByteArray.data_append])
theorem nil_app (a : ByteArray) : (⟨#[]⟩ : ByteArray) ++ a = a := ba_ext (by simp [ByteArray.data_append])
theorem wds_step (x : Int) (hx : i64 x) (r : List UInt8) (l : List Int) (hl : ¬ 3 < l.length) : wds (Lib.itoa x ++ 32 :: r) ⟨#[]⟩ l = wds r ⟨#[]⟩ (l ++ [x]) := by
  have h := wd_itoa x hx
  rw [wds_word _ (itoa_sp x), nil_app, wds_some _ _ _ (l ++ [x]) (by rw [fin9_yes h.1 hl, h.2])]
theorem wds_txp (x v c z : Int) (hx : i64 x) (hv : i64 v) (hc : i64 c) (hz : i64 z) : wds (txp (x, v, c, z)).data.toList ⟨#[]⟩ [] = some [x, v, c, z] := by
  have h := wd_itoa z hz
  rw [txp_list, wds_step x hx _ _ (by decide), wds_step v hv _ _ (by simp), wds_step c hc _ _ (by simp), ← List.append_nil (Lib.itoa z), wds_word _ (itoa_sp z), nil_app, wds_end, fin9_yes h.1 (by simp), h.2]
  rfl
/-- where the program reads a text, the reference's words are the four numbers -/
theorem wds_okp {s : ByteArray} (h : okp s = true) : wds s.data.toList ⟨#[]⟩ [] = some [(rdp s).1, (rdp s).2.1, (rdp s).2.2.1, (rdp s).2.2.2] := by
  have e : txp (rdp s) = s := of_decide_eq_true h
  have hi := rdp_i64 s
  have := wds_txp (rdp s).1 (rdp s).2.1 (rdp s).2.2.1 (rdp s).2.2.2 hi.1 hi.2.1 hi.2.2.1 hi.2.2.2
  rw [show ((rdp s).1, (rdp s).2.1, (rdp s).2.2.1, (rdp s).2.2.2) = rdp s from rfl, e] at this
  exact this
theorem ref_none {s : ByteArray} (h : wds s.data.toList ⟨#[]⟩ [] = none) : okp s = false := by
  cases e : okp s with
  | false => rfl
  | true => rw [wds_okp e] at h; cases h
theorem ref_few {s : ByteArray} {l : List Int} (h : wds s.data.toList ⟨#[]⟩ [] = some l) (hl : l.length ≠ 4) : okp s = false := by
  cases e : okp s with
  | false => rfl
  | true =>
    rw [wds_okp e] at h
    injection h with h
    exact absurd (by rw [← h]; rfl) hl
theorem ref_other {s : ByteArray} {x v c z : Int} (h : wds s.data.toList ⟨#[]⟩ [] = some [x, v, c, z]) (ht : ¬ txp (x, v, c, z) = s) : okp s = false := by
  cases e : okp s with
  | false => rfl
  | true =>
    rw [wds_okp e] at h
    injection h with h
    injection h with h1 h
    injection h with h2 h
    injection h with h3 h
    injection h with h4 h
    subst h1 h2 h3 h4
    exact absurd (of_decide_eq_true e) ht
end Go.Proofs.YtbfplapjjeeceaaGreatDoor.B9
