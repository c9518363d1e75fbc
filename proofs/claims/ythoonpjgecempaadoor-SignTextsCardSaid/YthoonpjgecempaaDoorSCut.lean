/-
  strings.Cut at a point, for strings of any size; sign.Read for strings of any size.
-/
import Derived.Test.YthoonpjgecempaaDoorSSan
import Derived.Test.YthoonpjgecempaaDoorDecM
namespace Go.Proofs.YthoonpjgecempaaDoor.S5
open Go.RowKit GM SH G4 DM
theorem ext_list (t : ByteArray) (a b : Nat) : (t.extract a b).data.toList = (t.data.toList.drop a).take (b - a) := by
  rw [ByteArray.data_extract, Array.toList_extract]
theorem size_list (t : ByteArray) : t.data.toList.length = t.size := by rw [size_toList]
/-- the first point of a text -/
theorem dot_cases (s : ByteArray) : Lib.indexByte s.data.toList 46 = -1 ∧ (∀ c ∈ s.data.toList, c ≠ 46) ∨ ∃ i : Nat, Lib.indexByte s.data.toList 46 = (i : Int) ∧ i < s.size ∧ s.data.toList = s.data.toList.take i ++ 46 :: s.data.toList.drop (i+1) ∧ (∀ c ∈ s.data.toList.take i, c ≠ 46) := by
  by_cases h : Lib.indexByte s.data.toList 46 = -1
  · refine .inl ⟨h, fun c hc e => ?_⟩
    subst e
    obtain ⟨k, hk⟩ := List.mem_iff_getElem?.1 hc
    exact Lib.indexByte_none h k hk
  · have h1 := Lib.indexByte_ge s.data.toList 46
    obtain ⟨i, hi⟩ : ∃ i : Nat, Lib.indexByte s.data.toList 46 = (i : Int) := ⟨(Lib.indexByte s.data.toList 46).toNat, by omega⟩
    obtain ⟨h2, h3⟩ := Lib.indexByte_some hi
    have hlt : i < s.data.toList.length := (List.getElem?_eq_some_iff.1 h2).1
    have h4 : s.data.toList[i] = 46 := (List.getElem?_eq_some_iff.1 h2).2
    refine .inr ⟨i, hi, by rw [size_list] at hlt; exact hlt, ?_, fun c hc e => ?_⟩
    · conv => lhs; rw [← List.take_append_drop i s.data.toList, List.drop_eq_getElem_cons hlt, h4]
    · subst e
      obtain ⟨k, hk⟩ := List.mem_iff_getElem?.1 hc
      have hk2 : k < i := by
        have := (List.getElem?_eq_some_iff.1 hk).1
        rw [List.length_take] at this; omega
      rw [List.getElem?_take_of_lt hk2] at hk
      exact h3 k hk2 hk
theorem pt_no {s : ByteArray} (h : ∀ c ∈ s.data.toList, c ≠ 46) (hi : Lib.indexByte s.data.toList 46 = -1) : ptA s = s ∧ ptB s = ⟨#[]⟩ := by
  unfold ptA ptB Lib.cut
  rw [Lib.index_one, hi, if_neg (by omega)]
  exact ⟨rfl, rfl⟩
theorem pt_yes {s : ByteArray} {i : Nat} (hi : Lib.indexByte s.data.toList 46 = (i : Int)) (hs : i < s.size) : ptA s = s.extract 0 i ∧ ptB s = s.extract (i + 1) s.size := by
  unfold ptA ptB Lib.cut
  rw [Lib.index_one, hi, if_pos (by omega), Int.toNat_natCast]
  refine ⟨ba_ext ?_, ba_ext ?_⟩
  · rw [ext_list]; simp
  · rw [ext_list]
    show s.data.toList.drop (i + 1) = _
    rw [List.take_of_length_le]
    rw [List.length_drop, size_list]; omega
set_option maxRecDepth 100000 in
set_option maxHeartbeats 2000000 in
theorem cut0_any (w : World) (s : ByteArray) (hs : s.size ≤ 281474976710656) :
    Calls Tryd.prog 27 #[.string s, .string ⟨#[46]⟩] w fun e w' => ∃ b : Bool, e = .returned (.tuple #[.string (ptA s), .string (ptB s), .bool b]) ∧ Below w.heap.size w w' := by
  have R := Lib.hid fun W => Tryd.stringslite_Index_one s 46 W
  rcases dot_cases s with ⟨hi, hn⟩ | ⟨i, hi, hlt, -, -⟩
  · obtain ⟨e1, e2⟩ := pt_no hn hi
    rw [hi] at R
    rw [e1, e2]
    clear hn e1 e2
    go_enter Tryd.func27, Tryd.ntmps27
    go_wp2_with fail
    refine (R.out _).mono ?_
    rintro e w1 ⟨rfl, rfl⟩
    go_wp2
    go_ret3
    exact ⟨false, rfl, Below.refl _ _⟩
  · obtain ⟨e1, e2⟩ := pt_yes hi hlt
    rw [hi] at R
    rw [e1, e2]
    have c1 : (0 : Int) ≤ (i : Int) := by omega
    have c2 : (i : Int) ≤ (s.size : Int) := by omega
    have c3 : (0 : Int) ≤ (i : Int) + 1 := by omega
    have c4 : (i : Int) + 1 ≤ (s.size : Int) := by omega
    clear e1 e2
    go_enter Tryd.func27, Tryd.ntmps27
    go_wp2_with fail
    refine (R.out _).mono ?_
    rintro e w1 ⟨rfl, rfl⟩
    go_wp2_with fail
    have c5 : (i : Int) + 1 ≤ 281474976710656 := by omega
    clear hi hlt hs R
    go_region
    all_goals go_wp2
    all_goals go_ret3
    all_goals exact ⟨true, rfl, (Below.refl _ _).drew⟩
theorem cut_any (w : World) (s : ByteArray) (hs : s.size ≤ 281474976710656) :
    Calls Tryd.prog 13 #[.string s, .string ⟨#[46]⟩] w fun e w' => ∃ b : Bool, e = .returned (.tuple #[.string (ptA s), .string (ptB s), .bool b]) ∧ Below w.heap.size w w' := by
  have R := Lib.hid (cut0_any w s hs)
  clear hs
  go_enter Tryd.func13, Tryd.ntmps13
  go_wp2_with fail
  refine R.out.mono ?_
  rintro e w1 ⟨b, rfl, hb⟩
  have HB := Lib.hid hb; clear hb
  go_wp2
  go_ret3
  exact ⟨b, rfl, HB.out⟩
set_option maxRecDepth 100000 in
set_option maxHeartbeats 2000000 in
theorem Read_big (w : World) (s : ByteArray) (hs : s.size ≤ 281474976710656) (hT : TS w) :
    Calls Tryd.prog 6 #[.string s] w fun e w' => e = .returned (.tuple #[rdv s, .bool (rdOk s)]) ∧ Below w.heap.size w w' := by
  obtain ⟨W, hW⟩ : ∃ W, w.alloc (.cells #[.int .i64 0, .int .i64 0] 26) = W := ⟨_, rfl⟩
  have h1 : SM W w.heap.size 0 0 := by rw [← hW]; exact SM.new _ _ _
  have hb : Below w.heap.size w W := by rw [← hW]; exact (Below.refl w.heap.size w).alloc (Nat.le_refl _) _
  have HK := Lib.hid (And.intro (hT.below hb) (And.intro hb h1)); clear h1 hb hT
  have C1 := Lib.hid (show ∀ W, TS W → Calls Tryd.prog 13 #[.string s, .string ⟨#[46]⟩] W fun e w' => ∃ b : Bool, e = .returned (.tuple #[.string (ptA s), .string (ptB s), .bool b]) ∧ Below W.heap.size W w' from fun W _ => cut_any W s hs)
  have hz := pt_size s
  have A1 := Lib.hid fun W (h : TS W) => atoi_any W (ptA s) (by omega) h
  have A2 := Lib.hid fun W (h : TS W) => atoi_any W (ptB s) (by omega) h
  have n1 := nm_rng (ptA s).data.toList
  have n2 := nm_rng (ptB s).data.toList
  have T1 := Lib.hid fun W (h : TS W) => Text_any W (nm (ptA s).data.toList) (nm (ptB s).data.toList) n1 n2 h
  have E := Lib.hid (show (txt (nm (ptA s).data.toList) (nm (ptB s).data.toList) = s → (rdv s = sgv (nm (ptA s).data.toList) (nm (ptB s).data.toList) ∧ rdOk s = true)) ∧ (¬ txt (nm (ptA s).data.toList) (nm (ptB s).data.toList) = s → (rdv s = sgv 0 0 ∧ rdOk s = false)) from ⟨fun h => by
      have : rdOk s = true := decide_eq_true h
      exact ⟨by unfold rdv; rw [if_pos this]; rfl, this⟩, fun h => by
      have : rdOk s = false := decide_eq_false h
      exact ⟨by unfold rdv; rw [this]; rfl, this⟩⟩)
  generalize nm (ptA s).data.toList = x at *
  generalize nm (ptB s).data.toList = y at *
  generalize ptA s = A at *
  generalize ptB s = B at *
  generalize txt x y = T at *
  clear hz
  have hi := infoS x y
  have h0 := infoS 0 0
  have hs2 : Hid ((#[Value.int .i64 0, Value.int .i64 0]).size = (#[Value.int .i64 x, .int .i64 y]).size) := Lib.hid (two_size _ _ _ _)
  have HN := Lib.hid (And.intro n1 n2); clear n1 n2
  go_enter Tryd.func6, Tryd.ntmps6
  go_upto_region 1 with fail
  clear hW
  go_wp2_with fail
  refine (C1.out _ HK.out.1).mono ?_
  rintro e w1 ⟨bb, rfl, b1⟩
  have K1 := Lib.hid (And.intro (HK.out.1.below b1) (And.intro (HK.out.2.1.trans (b1.mono HK.out.2.1.size)) (HK.out.2.2.next b1))); clear b1 HK
  go_wp2_with fail
  refine (A1.out _ K1.out.1).mono ?_
  rintro e w2 ⟨V1, rfl, b2⟩
  have K2 := Lib.hid (And.intro (K1.out.1.below b2) (And.intro (K1.out.2.1.trans (b2.mono K1.out.2.1.size)) (K1.out.2.2.next b2))); clear b2 K1
  go_wp2_with fail
  refine (A2.out _ K2.out.1).mono ?_
  rintro e w3 ⟨V2, rfl, b3⟩
  have K3 := Lib.hid (And.intro (K2.out.1.below b3) (And.intro (K2.out.2.1.trans (b3.mono K2.out.2.1.size)) (K2.out.2.2.next b3))); clear b3 K2
  go_upto_region 4 with fail
  obtain ⟨W4, hW4⟩ : ∃ W4, w3.alloc (.cells #[.int .i64 0, .int .i64 0] 26) = W4 := ⟨_, rfl⟩
  have a4 : Below w3.heap.size w3 W4 := by rw [← hW4]; exact (Below.refl w3.heap.size w3).alloc (Nat.le_refl _) _
  have h4 : SM W4 w3.heap.size 0 0 := by rw [← hW4]; exact SM.new _ _ _
  have hne : w.heap.size ≠ w3.heap.size := by have := K3.out.2.2.lt; omega
  have m4 : SM (W4.setRow w3.heap.size #[.int .i64 x, .int .i64 y]) w3.heap.size x y := setRow_heap _ _ _ _ _ _ h4
  go_upto_region 5 with (refine wpList_store_row rfl 26 (.tmp 11) (.tmp 30) rfl w3.heap.size #[.int .i64 x, .int .i64 y] rfl rfl 26 _ h4 hi.out hs2.out (sg_one _ _) ?_)
  have b5 : Below w3.heap.size w3 (W4.setRow w3.heap.size #[.int .i64 x, .int .i64 y]) := Below.setRow' a4 (Nat.le_refl _) _
  clear hW4 a4 h4
  generalize W4.setRow w3.heap.size #[.int .i64 x, .int .i64 y] = W5 at *
  have K5 := Lib.hid (And.intro (K3.out.1.below b5) (And.intro (K3.out.2.1.trans (b5.mono K3.out.2.1.size)) (K3.out.2.2.next b5)))
  clear b5 K3
  go_wp2_with (refine wpList_load_row rfl 26 (.tmp 11) rfl w3.heap.size rfl 26 #[.int .i64 x, .int .i64 y] (0, 0) _ m4 Tryd.underlying26 rfl hi.out ?_)
  refine (T1.out _ K5.out.1).mono ?_
  rintro e w6 ⟨rfl, b6⟩
  have m6 : SM w6 w3.heap.size x y := m4.next b6
  have z6 : SM w6 w.heap.size 0 0 := K5.out.2.2.next b6
  have B6 := Lib.hid (K5.out.2.1.trans (b6.mono K5.out.2.1.size))
  clear b6 K5 m4 C1 A1 A2 T1
  by_cases hts : T = s
  · have E1 := Lib.hid (E.out.1 hts)
    clear E
    subst hts
    go_wp2_with (first | (refine wpList_load_row rfl 26 (.tmp 11) rfl w3.heap.size rfl 26 #[.int .i64 x, .int .i64 y] (0, 0) _ m6 Tryd.underlying26 rfl hi.out ?_) | (refine wpList_store_row rfl 26 (.tmp 2) (.tmp 35) rfl w.heap.size #[.int .i64 x, .int .i64 y] rfl rfl 26 _ z6 hi.out hs2.out (sg_one _ _) ?_))
    refine bodyPost_ret (results_row_tmp rfl _ _ w.heap.size _ #[.int .i64 x, .int .i64 y] _ _ rfl (setRow_heap _ _ _ _ _ _ z6) Tryd.underlying26 rfl hi.out) rfl ?_
    exact ⟨by rw [E1.out.1, E1.out.2]; rfl, Below.setRow' B6.out (Nat.le_refl _) _⟩
  · have E1 := Lib.hid (E.out.2 hts)
    have hne2 : (T.toList == s.toList) = false := beq_eq_false_iff_ne.2 fun h => hts (ba_ext (by rw [← Lib.toList_data, ← Lib.toList_data]; exact h))
    clear E hts
    go_wp2_with (refine wpList_store_row rfl 26 (.tmp 2) (.tmp 36) rfl w.heap.size #[.int .i64 0, .int .i64 0] rfl rfl 26 _ z6 h0.out (two_size _ _ _ _) (sg_one _ _) ?_)
    refine bodyPost_ret (results_row_tmp rfl _ _ w.heap.size _ #[.int .i64 0, .int .i64 0] _ _ rfl (setRow_heap _ _ _ _ _ _ z6) Tryd.underlying26 rfl h0.out) rfl ?_
    exact ⟨by rw [E1.out.1, E1.out.2]; rfl, Below.setRow' B6.out (Nat.le_refl _) _⟩
end Go.Proofs.YthoonpjgecempaaDoor.S5
