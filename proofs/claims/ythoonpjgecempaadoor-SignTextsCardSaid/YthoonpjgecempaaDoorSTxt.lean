/-
  The walks of the reference's Text and Read.
-/
import Derived.Test.YthoonpjgecempaaDoorSNum
namespace Go.Proofs.YthoonpjgecempaaDoor.S5
open Go.RowKit GM SH G4 DM
set_option maxRecDepth 100000 in
set_option maxHeartbeats 2000000 in
theorem refText_any (w : World) (R S : Int) (hR : -9223372036854775808 ≤ R ∧ R ≤ 9223372036854775807) (hS : -9223372036854775808 ≤ S ∧ S ≤ 9223372036854775807) (hT : TS w) :
    Calls Tryd.prog 7 #[sgv R S] w fun e w' => e = .returned (.string (txt R S)) ∧ Below w.heap.size w w' := by
  obtain ⟨W, hW⟩ : ∃ W, w.alloc (.cells #[.int .i64 R, .int .i64 S] 26) = W := ⟨_, rfl⟩
  have h1 : SM W w.heap.size R S := by rw [← hW]; exact SM.new _ _ _
  have hb : Below w.heap.size w W := by rw [← hW]; exact (Below.refl w.heap.size w).alloc (Nat.le_refl _) _
  have hTW : TS W := hT.below hb
  have c0 := h1.c0
  have c1 := h1.c1
  have I1 := Lib.hid fun W (h : TS W) => decimal_any W R hR
  have I2 := Lib.hid fun W (h : TS W) => decimal_any W S hS
  have E := Lib.hid (show txt R S = dcm R ++ (⟨#[46]⟩ : ByteArray) ++ dcm S from rfl)
  have z1 := dcm_size R hR
  have z2 := dcm_size S hS
  generalize txt R S = T at *
  generalize dcm R = X at *
  generalize dcm S = Y at *
  have b1 : (9223372036854775807 < X.size + 1) = False := eq_false (by omega)
  have b2 : (9223372036854775807 < X.size + 1 + Y.size) = False := eq_false (by omega)
  clear h1 hT z1 z2
  have HR := Lib.hid (And.intro hR hS); clear hR hS
  go_enter Tryd.func7, Tryd.ntmps7
  go_upto_region 1 with fail
  clear hW
  go_region_held3 (fun w' => TS w' ∧ Below w.heap.size w w' ∧ w'.cell? ⟨w.heap.size, 0, none⟩ = some (.int .i64 R) ∧ w'.cell? ⟨w.heap.size, 1, none⟩ = some (.int .i64 S))
    (first | assumption | exact ⟨hTW.below (Below.drew (Below.refl _ _)), hb.drew, c0, c1⟩ | exact ⟨hTW, hb, c0, c1⟩ | exact tx_next (by assumption) b)
    (first
      | (go_at_call_of 15 (Value.int .i64 R); refine (I1.out _ (And.left (by assumption))).mono ?_; rintro e w' ⟨rfl, b⟩)
      | (go_at_call_of 15 (Value.int .i64 S); refine (I2.out _ (And.left (by assumption))).mono ?_; rintro e w' ⟨rfl, b⟩))
  all_goals go_wp2
  all_goals go_ret
  all_goals exact ⟨by rw [E.out]; rfl, (And.left (And.right (by assumption)) : Below w.heap.size w _)⟩
theorem txt_list (x y : Int) : (txt x y).data.toList = Lib.itoa x ++ 46 :: Lib.itoa y := by
  unfold txt
  rw [ByteArray.data_append, Array.toList_append, ByteArray.data_append, Array.toList_append]
  show Lib.itoa x ++ [46] ++ Lib.itoa y = _
  simp
theorem nm_itoa (x : Int) (h : i64 x) : nm (Lib.itoa x) = x := by unfold nm; rw [atoi_itoa x h.1 h.2]
theorem rd_both (s : ByteArray) (x y : Int) (hx : i64 x) (hy : i64 y) (hs : s.data.toList = Lib.itoa x ++ 46 :: Lib.itoa y) : rdOk s = true ∧ rdv s = sgv x y := by
  have e : Lib.cut s.data.toList [46] = (Lib.itoa x, Lib.itoa y, true) := by rw [hs, cut_dot _ _ (itoa_dot x)]
  have a : nmA s = x := by
    unfold nmA ptA; rw [e]; exact nm_itoa x hx
  have b : nmB s = y := by
    unfold nmB ptB; rw [e]; exact nm_itoa y hy
  have k : rdOk s = true := by
    unfold rdOk; rw [a, b]
    exact decide_eq_true (ba_ext (by rw [txt_list, hs]))
  exact ⟨k, by unfold rdv; rw [k, if_pos rfl, a, b]⟩
theorem rd_is (s : ByteArray) (h : rdOk s = true) : ∃ x y, i64 x ∧ i64 y ∧ s.data.toList = Lib.itoa x ++ 46 :: Lib.itoa y := by
  unfold rdOk at h
  have h := of_decide_eq_true h
  exact ⟨nmA s, nmB s, nm_rng _, nm_rng _, by rw [← txt_list, h]⟩
theorem rd_no {s : ByteArray} (h : rdOk s = false) : rdv s = sgv 0 0 := by unfold rdv; rw [h]; rfl
theorem rd_none (s : ByteArray) (h : ∀ c ∈ s.data.toList, c ≠ 46) : rdOk s = false := by
  cases e : rdOk s with
  | false => rfl
  | true =>
    obtain ⟨x, y, _, _, hs⟩ := rd_is s e
    exact absurd rfl (h 46 (by rw [hs]; simp))
theorem rd_not (s : ByteArray) (k : Nat) (hk : s.data.toList = s.data.toList.take k ++ 46 :: s.data.toList.drop (k+1)) (hn : ∀ c ∈ s.data.toList.take k, c ≠ 46)
    (h : (∀ x, i64 x → s.extract 0 k ≠ dcm x) ∨ (∀ x, i64 x → s.extract (k+1) s.size ≠ dcm x)) : rdOk s = false := by
  cases e : rdOk s with
  | false => rfl
  | true =>
    obtain ⟨x, y, hx, hy, hs⟩ := rd_is s e
    obtain ⟨e1, e2⟩ := dot_unique _ _ _ _ hn (itoa_dot x) (hk.symm.trans hs)
    rcases h with h | h
    · exact absurd (ba_ext (by rw [ext_list, dcm_list]; simpa using e1)) (h x hx)
    · exact absurd (ba_ext (by
        rw [ext_list, List.take_of_length_le (by rw [List.length_drop, size_list]; omega)]; exact e2)) (h y hy)
theorem rd_yes (s : ByteArray) (k : Nat) (hk : s.data.toList = s.data.toList.take k ++ 46 :: s.data.toList.drop (k+1)) (x y : Int) (hx : i64 x) (hy : i64 y)
    (h1 : s.extract 0 k = dcm x) (h2 : s.extract (k+1) s.size = dcm y) : rdOk s = true ∧ rdv s = sgv x y := by
  refine rd_both s x y hx hy ?_
  have e1 : s.data.toList.take k = Lib.itoa x := by
    have := congrArg (fun b => b.data.toList) h1
    simp only [ext_list, dcm_list] at this
    simpa using this
  have e2 : s.data.toList.drop (k+1) = Lib.itoa y := by
    have := congrArg (fun b => b.data.toList) h2
    simp only [ext_list] at this
    rwa [List.take_of_length_le (by rw [List.length_drop, size_list]; omega)] at this
  rw [hk, e1, e2]
theorem ext_size (s : ByteArray) (a b : Nat) : (s.extract a b).size ≤ s.size := by
  have h := congrArg List.length (ext_list s a b)
  rw [List.length_take, List.length_drop, size_list, size_list] at h
  omega
set_option maxRecDepth 100000 in
set_option maxHeartbeats 4000000 in
theorem refRead_any (w : World) (s : ByteArray) (hs : s.size ≤ 281474976710656) :
    Calls Tryd.prog 8 #[.string s] w fun e w' => e = .returned (.tuple #[rdv s, .bool (rdOk s)]) ∧ Below w.heap.size w w' := by
  obtain ⟨W, hW⟩ : ∃ W, w.alloc (.cells #[.int .i64 0, .int .i64 0] 26) = W := ⟨_, rfl⟩
  have h1 : SM W w.heap.size 0 0 := by rw [← hW]; exact SM.new _ _ _
  have hb : Below w.heap.size w W := by rw [← hW]; exact (Below.refl w.heap.size w).alloc (Nat.le_refl _) _
  have HK := Lib.hid (And.intro hb h1); clear h1 hb
  have h0 := infoS 0 0
  have HS := Lib.hid hs
  go_enter Tryd.func8, Tryd.ntmps8
  go_upto_region 1 with fail
  clear hW
  go_wp2_with fail
  go_loop [4] (fun i => ∃ (k : Nat), k ≤ s.size ∧ i = .int .i64 (k : Int) ∧ Hid (∀ c ∈ s.data.toList.take k, c ≠ 46)) (fun i => s.size - (match i with | .int _ i => i.toNat | _ => 0))
  case atStart => exact ⟨0, Nat.zero_le _, rfl, Lib.hid (by simp)⟩
  case round =>
    obtain ⟨k, hk, rfl, hn⟩ := hrel
    by_cases hlt : k < s.size
    · have hl : k < s.data.toList.length := by rw [size_list]; exact hlt
      have hg : s.data.toList[k]? = some (s[k]'hlt) := by
        rw [List.getElem?_eq_getElem hl]; rfl
      obtain ⟨c, hc⟩ : ∃ c, s[k]'hlt = c := ⟨_, rfl⟩
      rw [hc] at hg
      have hbk : (k : Int) + 1 ≤ 281474976710656 := by omega
      by_cases h46 : c = 46
      · have e1 : ((c.toNat : Int) == 46) = true := by rw [h46]; rfl
        have HD := Lib.hid (show s.data.toList = s.data.toList.take k ++ 46 :: s.data.toList.drop (k+1) by
          have h4 : s.data.toList[k] = 46 := by
            have := (List.getElem?_eq_some_iff.1 hg).2
            rw [this, h46]
          conv => lhs; rw [← List.take_append_drop k s.data.toList, List.drop_eq_getElem_cons hl, h4])
        have N1 := Lib.hid fun W => number_any W (s.extract 0 k) (Nat.le_trans (ext_size s 0 k) HS.out)
        have N2 := Lib.hid fun W => number_any W (s.extract (k + 1) s.size) (Nat.le_trans (ext_size s (k+1) s.size) HS.out)
        have YY := Lib.hid fun x y hx hy => rd_yes s k HD.out x y hx hy
        have NN := Lib.hid (rd_not s k HD.out hn.out)
        clear hg h46 hl HD
        go_wp2_with fail
        refine (N1.out _).mono ?_
        rintro e w1 ⟨v1, q1, rfl, y1, n1, b1⟩
        have K1 := Lib.hid (And.intro (HK.out.1.trans (b1.mono HK.out.1.size)) (HK.out.2.next b1)); clear b1
        have Y1 := Lib.hid y1
        have M1 := Lib.hid n1
        clear y1 n1 N1
        go_wp2_with fail
        refine (N2.out _).mono ?_
        rintro e w2 ⟨v2, q2, rfl, y2, n2, b2⟩
        have K2 := Lib.hid (And.intro (K1.out.1.trans (b2.mono K1.out.1.size)) (K1.out.2.next b2)); clear b2 K1
        have Y2 := Lib.hid y2
        have M2 := Lib.hid n2
        clear y2 n2 N2
        have hi := infoS v1 v2
        cases q1 with
        | false =>
          have F := Lib.hid (show rdOk s = false ∧ rdv s = sgv 0 0 from ⟨NN.out (.inl (M1.out rfl)), rd_no (NN.out (.inl (M1.out rfl)))⟩)
          clear M1 M2 Y1 Y2 YY NN
          have h8 := K2.out.2
          go_wp2_with (refine wpList_store_row rfl 26 (.tmp 2) (.tmp 40) rfl w.heap.size #[.int .i64 0, .int .i64 0] rfl rfl 26 _ h8 h0.out (two_size _ _ _ _) (sg_one _ _) ?_)
          refine bodyPost_ret (results_row_tmp rfl _ _ w.heap.size _ #[.int .i64 0, .int .i64 0] _ _ rfl (setRow_heap _ _ _ _ _ _ h8) Tryd.underlying26 rfl h0.out) rfl ?_
          exact ⟨by rw [F.out.1, F.out.2]; rfl, Below.setRow' K2.out.1 (Nat.le_refl _) _⟩
        | true =>
        cases q2 with
        | false =>
          have F := Lib.hid (show rdOk s = false ∧ rdv s = sgv 0 0 from ⟨NN.out (.inr (M2.out rfl)), rd_no (NN.out (.inr (M2.out rfl)))⟩)
          clear M1 M2 Y1 Y2 YY NN
          have h8 := K2.out.2
          go_wp2_with (refine wpList_store_row rfl 26 (.tmp 2) (.tmp 40) rfl w.heap.size #[.int .i64 0, .int .i64 0] rfl rfl 26 _ h8 h0.out (two_size _ _ _ _) (sg_one _ _) ?_)
          refine bodyPost_ret (results_row_tmp rfl _ _ w.heap.size _ #[.int .i64 0, .int .i64 0] _ _ rfl (setRow_heap _ _ _ _ _ _ h8) Tryd.underlying26 rfl h0.out) rfl ?_
          exact ⟨by rw [F.out.1, F.out.2]; rfl, Below.setRow' K2.out.1 (Nat.le_refl _) _⟩
        | true =>
          have F := Lib.hid (YY.out v1 v2 (Y1.out rfl).2 (Y2.out rfl).2 (Y1.out rfl).1 (Y2.out rfl).1)
          clear M1 M2 Y1 Y2 YY NN
          have h8 := K2.out.2
          go_wp2_with (refine wpList_store_row rfl 26 (.tmp 2) (.tmp 43) rfl w.heap.size #[.int .i64 v1, .int .i64 v2] rfl rfl 26 _ h8 hi.out (two_size _ _ _ _) (sg_one _ _) ?_)
          refine bodyPost_ret (results_row_tmp rfl _ _ w.heap.size _ #[.int .i64 v1, .int .i64 v2] _ _ rfl (setRow_heap _ _ _ _ _ _ h8) Tryd.underlying26 rfl hi.out) rfl ?_
          exact ⟨by rw [F.out.1, F.out.2]; rfl, Below.setRow' K2.out.1 (Nat.le_refl _) _⟩
      · have e1 : ((c.toNat : Int) == 46) = false := beq_eq_false_iff_ne.2 fun h => h46 (UInt8.toNat_inj.1 (by
          show c.toNat = 46
          omega))
        have hn2 := Lib.hid (show ∀ x ∈ s.data.toList.take (k+1), x ≠ 46 by
          intro x hx
          rw [List.take_add_one, hg] at hx
          rcases List.mem_append.1 hx with hx | hx
          · exact hn.out x hx
          · simp at hx; rw [hx]; exact h46)
        clear hg h46 hl
        go_wp2
        exact ⟨⟨k + 1, by omega, by simp, hn2⟩, by simp; omega⟩
    · obtain rfl : k = s.size := by omega
      have F := Lib.hid (show rdOk s = false ∧ rdv s = sgv 0 0 by
        have := rd_none s (by have := hn.out; rwa [List.take_of_length_le (by rw [size_list]; omega)] at this)
        exact ⟨this, rd_no this⟩)
      have h8 := HK.out.2
      go_wp2_with (refine wpList_store_row rfl 26 (.tmp 2) (.tmp 44) rfl w.heap.size #[.int .i64 0, .int .i64 0] rfl rfl 26 _ h8 h0.out (two_size _ _ _ _) (sg_one _ _) ?_)
      refine bodyPost_ret (results_row_tmp rfl _ _ w.heap.size _ #[.int .i64 0, .int .i64 0] _ _ rfl (setRow_heap _ _ _ _ _ _ h8) Tryd.underlying26 rfl h0.out) rfl ?_
      exact ⟨by rw [F.out.1, F.out.2]; rfl, Below.setRow' HK.out.1 (Nat.le_refl _) _⟩
end Go.Proofs.YthoonpjgecempaaDoor.S5
