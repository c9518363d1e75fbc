/-
  The walks of the reference's Plan: its keys and its numbers.
-/
import Derived.Test.YtjfbpmpdcmealaaGreatDoorDTxtB
import Derived.Test.YtjfbpmpdcmealaaGreatDoorDDealNo
import Derived.Test.YtjfbpmpdcmealaaGreatDoorDRefA
import Derived.Test.YtjfbpmpdcmealaaGreatDoorDIn
namespace Go.Proofs.YtjfbpmpdcmealaaGreatDoor.D7
open Go.RowKit GM SH G4 E6 D7P
/-- the keys and the numbers of a plan -/
def KL (S : List Int) : List Int := (S.take 12).map fun s => pp 4 (ex s)
def NL (S C : List Int) : List Int := (C.take (min S.length 12)).map ex
theorem ex_i (s : Int) : i64 (ex s) := ⟨by have := ex_rng s; omega, by have := ex_rng s; omega⟩
theorem CK.grown {w u v : World} {L : List (Addr × Value)} {row : Option Nat} (h : CK w L [] u) (hg : u.grownBy v row) (hr : ∀ k, row = some k → w.heap.size ≤ k ∧ ∀ p ∈ L, p.1.block ≠ k) : CK w L [] v :=
  ⟨h.b.grown hg h.b.size (fun k hk => (hr k hk).1), fun p hp => by
    have hc := h.c p hp
    have hlt := World.block_lt_of_cell? _ _ hc
    have := hg.block p.1.block hlt (fun e => (hr _ e.symm).2 p hp rfl)
    rw [World.cell?_of_block this]; exact hc, fun p hp => by cases hp⟩
/-- what Keys and Numbers answer: a slice of the call's own -/
def OwnQ (w : World) (l : List Int) (e : Ending) (w' : World) : Prop := ∃ v, e = .returned v ∧ w'.ownsRow w.heap.size 3 1 v l.length (l.map (Value.int .i64)) ∧ Below w.heap.size w w'
theorem residue_c (W : World) (a r : Int) (h : ex a = r) (ha : i64 a) : Calls Tryz.prog 31 #[.int .i64 a, .int .i64 1152921504606845789] W fun e w' => e = .returned (.int .i64 r) ∧ w' = W := by
  subst h; rw [ex_mod]; exact refResidue_any W a _ ha.1 ha.2 (by decide) (by decide)
set_option maxRecDepth 100000 in
set_option maxHeartbeats 4000000 in
theorem Keys_any (w : World) (p q : Option Addr) (n c m e : Nat) (sd : ByteArray) (S : List Int) (hS : AL w (.slice p n c) S) :
    Calls Tryz.prog 9 #[.agg #[.slice p n c, .slice q m e, .string sd]] w (OwnQ w (KL S)) := by
  obtain ⟨i0, hi, hz0, hz1, hz2⟩ := info_parts infoI
  obtain ⟨p', n', c', e1, h1, h2, h3, h4, h5, h6⟩ := hS
  cases e1
  obtain ⟨p', c', e2, hc⟩ := h4.form
  injection e2 with e3 e4 e5
  subst e3 e5
  clear e4 h4
  obtain ⟨W, hW⟩ : ∃ W, w.alloc (.cells #[.slice p n c, .slice q m e, .string sd] 24) = W := ⟨_, rfl⟩
  have K0 : CK w [(⟨w.heap.size, 0, none⟩, .slice p n c)] [] W := by
    have := (CK.start w).cells #[.slice p n c, .slice q m e, .string sd] 24 _ rfl
    rw [hW] at this
    exact this.sub (by simp) (by simp)
  have hlt0 : w.heap.size + 1 ≤ W.heap.size := by rw [← hW]; simp
  have HK0 := Lib.hid K0
  obtain ⟨M, hM⟩ : ∃ M, min n 12 = M := ⟨_, rfl⟩
  have hKL : (KL S).length = M := by unfold KL; rw [List.length_map, List.length_take]; omega
  have HL := Lib.hid (And.intro h1 (And.intro hM (And.intro hKL (And.intro hc h5)))); clear h1 hc h5 hKL
  have hn9 : (n : Int) ≤ 9223372036854775807 := by unfold maxLen at h3; omega
  have hnM : M ≤ n := by omega
  have hM12 : M ≤ 12 := by omega
  have hMc : M = n ∨ (M = 12 ∧ 12 ≤ n) := by omega
  clear h2 h3 h6 hM K0
  go_enter Tryz.func9, Tryz.ntmps9
  go_upto_region 1 with fail
  clear hW
  go_wp2_with fail
  go_loopw [3, 4] (fun o i wr => ∃ (k : Nat) (v : Value), k ≤ M ∧ o = v ∧ i = .int .i64 (k : Int) ∧ wr.ownsRow (w.heap.size + 1) 3 1 v ((KL S).take k).length (((KL S).take k).map (Value.int .i64)) ∧ Hid (CK w [(⟨w.heap.size, 0, none⟩, .slice p n c)] [] wr ∧ w.heap.size + 1 ≤ wr.heap.size)) (fun _ i _ => 12 - (match i with | .int _ i => i.toNat | _ => 0))
  case atStart => exact ⟨0, _, Nat.zero_le _, rfl, rfl, World.ownsRow_nil _ _ _ _, Lib.hid ⟨HK0.out, hlt0⟩⟩
  case round =>
    clear HK0 hlt0
    obtain ⟨k, v, hk, rfl, rfl, hown, HK⟩ := hrel
    have c0 := HK.out.1.get ⟨w.heap.size, 0, none⟩ (.slice p n c) (by simp)
    by_cases hlt : k < M
    · obtain ⟨y, hy⟩ : ∃ y, S[k]? = some y := ⟨S[k]'(by rw [HL.out.1]; omega), List.getElem?_eq_getElem _⟩
      obtain ⟨b, o, hp, hcy⟩ := HL.out.2.2.2.1 k y hy
      subst hp
      have hcell := (HK.out.1.b.cell (p := ⟨b, o + k, none⟩) (World.block_lt_of_cell? _ _ hcy)).trans hcy
      have hiy := HL.out.2.2.2.2 y (List.mem_of_getElem? hy)
      have hKy : (KL S)[k]? = some (pp 4 (ex y)) := by
        unfold KL
        rw [List.getElem?_map, List.getElem?_take_of_lt (by omega), hy]; rfl
      have X1 := Lib.hid fun W => residue_c W y (ex y) rfl hiy
      have X2 := Lib.hid fun W => refPow_w W 4 (ex y) 2305843009213691579 (pp 4 (ex y)) rfl (by decide) (ex_i y).2 (by decide)
      have hts := Lib.hid (And.intro (take_snoc (KL S) k _ hKy) (show ((KL S).take k).length = k by rw [List.length_take, HL.out.2.2.1]; omega))
      generalize pp 4 (ex y) = t at *
      generalize ex y = z at *
      obtain ⟨l, hl⟩ : ∃ l, (KL S).take k = l := ⟨_, rfl⟩
      rw [hl] at hown hts
      have HO := Lib.hid hown
      have hkn : k < n := by omega
      have hk12 : k < 12 := by omega
      have hA := Lib.hid (And.intro (show l.length + 1 ≤ maxLen by have := hts.out.2; unfold maxLen; omega) (show (l.length + 1) * 8 ≤ 140737488355328 by have := hts.out.2; omega))
      clear hy hcy hiy hKy hown
      go_wp2_with fail
      refine (X1.out _).mono ?_
      rintro e w2 ⟨rfl, rfl⟩
      go_wp2_with fail
      refine (X2.out _).mono ?_
      rintro e w3 ⟨rfl, rfl⟩
      go_wp2_with (at_builtin; refine wpList_append_lies _ rfl _ _ 22 rfl (w.heap.size + 1) 3 i0 (.int .i64 0) 1 8 Tryz.underlying22 hi hz0 hz1 hz2 rfl (by decide) _ l.length (l.map (Value.int .i64)) rfl (HO.out.alloc _) ⟨w3.heap.size, 0, none⟩ 1 1 [.int .i64 t] rfl rfl (news_one _ _ _) (by simp [Value.oneCell']) Nat.zero_lt_one hA.out.1 hA.out.2 (by rw [World.size_alloc]; exact Nat.le_succ_of_le HK.out.2) _ rfl ?_; intro g9 c9 w9 hown9 hgrow9 hat9 hlt9)
      have K9 := Lib.hid (show CK w [(⟨w.heap.size, 0, none⟩, .slice (some ⟨b, o, none⟩) n c)] [] w9 ∧ w.heap.size + 1 ≤ w9.heap.size from ⟨(HK.out.1.next ((Below.refl _ w3).alloc (Nat.le_refl _) _)).grown hgrow9 (fun k hk => ⟨by have := (HO.out.lt k hk).1; omega, fun p hp => by
        have := (HO.out.lt k hk).1
        obtain rfl := List.mem_singleton.1 hp
        show w.heap.size ≠ k
        omega⟩), by have := hgrow9.size; simp at this; have := HK.out.2; omega⟩)
      have hown9 := Lib.hid hown9
      clear hgrow9 hat9 hlt9 HK HO X1 X2 c0 hcell
      go_wp2
      exact ⟨⟨k + 1, _, by omega, rfl, by go_num, by rw [hts.out.1, List.length_append, List.map_append]; exact hown9.out, K9⟩, by simp; omega⟩
    · obtain rfl : k = M := by omega
      have hE : (KL S).take k = KL S := List.take_of_length_le (by rw [HL.out.2.2.1]; exact Nat.le_refl _)
      rw [hE] at hown
      have HO := Lib.hid (And.intro (own_base hown (Nat.le_succ _)) HK.out.1.b)
      clear hown hE hlt
      rcases hMc with h | ⟨h, h'⟩
      · have hkn : ¬ (k : Int) < (n : Int) := by omega
        clear hM12 hnM
        subst h
        go_wp2
        go_ret
        exact ⟨_, rfl, HO.out.1, HO.out.2⟩
      · subst h
        have hk12 : decide (12 < n) = decide (12 < n) := rfl
        clear hk12
        cases hd : decide (12 < n) with
        | false =>
          have : ¬ 12 < n := of_decide_eq_false hd
          obtain rfl : n = 12 := by omega
          go_wp2
          go_ret
          exact ⟨_, rfl, HO.out.1, HO.out.2⟩
        | true =>
          have h12 : 12 < n := of_decide_eq_true hd
          have h12i : (12 : Int) < (n : Int) := by omega
          clear hd
          go_wp2
          go_ret
          exact ⟨_, rfl, HO.out.1, HO.out.2⟩
set_option maxRecDepth 100000 in
set_option maxHeartbeats 4000000 in
theorem Numbers_any (w : World) (p q : Option Addr) (n c s e : Nat) (sd : ByteArray) (S C : List Int) (hSl : S.length = s) (hs9 : (s : Int) ≤ 9223372036854775807) (hS : AL w (.slice p n c) C) :
    Calls Tryz.prog 10 #[.agg #[.slice q s e, .slice p n c, .string sd]] w (OwnQ w (NL S C)) := by
  obtain ⟨i0, hi, hz0, hz1, hz2⟩ := info_parts infoI
  obtain ⟨p', n', c', e1, h1, h2, h3, h4, h5, h6⟩ := hS
  cases e1
  obtain ⟨p', c', e2, hc⟩ := h4.form
  injection e2 with e3 e4 e5
  subst e3 e5
  clear e4 h4
  obtain ⟨W, hW⟩ : ∃ W, w.alloc (.cells #[.slice q s e, .slice p n c, .string sd] 24) = W := ⟨_, rfl⟩
  have K0 : CK w [(⟨w.heap.size, 0, none⟩, .slice q s e), (⟨w.heap.size, 1, none⟩, .slice p n c)] [] W := by
    have := (CK.start w).cells #[.slice q s e, .slice p n c, .string sd] 24 _ rfl
    rw [hW] at this
    exact this.sub (by simp) (by simp)
  have hlt0 : w.heap.size + 1 ≤ W.heap.size := by rw [← hW]; simp
  have HK0 := Lib.hid K0
  obtain ⟨M, hM⟩ : ∃ M, min n (min s 12) = M := ⟨_, rfl⟩
  have HS := Lib.hid hSl
  have hKL : (NL S C).length = M := by unfold NL; rw [List.length_map, List.length_take, hSl]; omega
  have HL := Lib.hid (And.intro h1 (And.intro hM (And.intro hKL (And.intro hc h5)))); clear h1 hc h5 hKL
  have hn9 : (n : Int) ≤ 9223372036854775807 := by unfold maxLen at h3; omega
  have hnM : M ≤ n := by omega
  have hM12 : M ≤ 12 := by omega
  have hMc : M = n ∨ (M < n ∧ M = s) ∨ (M < n ∧ M < s ∧ M = 12) := by omega
  have hMs : M ≤ s := by omega
  clear h2 h3 h6 hM K0 hSl
  go_enter Tryz.func10, Tryz.ntmps10
  go_upto_region 1 with fail
  clear hW
  go_wp2_with fail
  go_loopw [3, 4] (fun o i wr => ∃ (k : Nat) (v : Value), k ≤ M ∧ o = v ∧ i = .int .i64 (k : Int) ∧ wr.ownsRow (w.heap.size + 1) 3 1 v ((NL S C).take k).length (((NL S C).take k).map (Value.int .i64)) ∧ Hid (CK w [(⟨w.heap.size, 0, none⟩, .slice q s e), (⟨w.heap.size, 1, none⟩, .slice p n c)] [] wr ∧ w.heap.size + 1 ≤ wr.heap.size)) (fun _ i _ => 12 - (match i with | .int _ i => i.toNat | _ => 0))
  case atStart => exact ⟨0, _, Nat.zero_le _, rfl, rfl, World.ownsRow_nil _ _ _ _, Lib.hid ⟨HK0.out, hlt0⟩⟩
  case round =>
    clear HK0 hlt0
    obtain ⟨k, v, hk, rfl, rfl, hown, HK⟩ := hrel
    have c0 := HK.out.1.get ⟨w.heap.size, 0, none⟩ (.slice q s e) (by simp)
    have c1 := HK.out.1.get ⟨w.heap.size, 1, none⟩ (.slice p n c) (by simp)
    by_cases hlt : k < M
    · obtain ⟨y, hy⟩ : ∃ y, C[k]? = some y := ⟨C[k]'(by rw [HL.out.1]; omega), List.getElem?_eq_getElem _⟩
      obtain ⟨b, o, hp, hcy⟩ := HL.out.2.2.2.1 k y hy
      subst hp
      have hcell := (HK.out.1.b.cell (p := ⟨b, o + k, none⟩) (World.block_lt_of_cell? _ _ hcy)).trans hcy
      have hiy := HL.out.2.2.2.2 y (List.mem_of_getElem? hy)
      have hKy : (NL S C)[k]? = some (ex y) := by
        unfold NL
        rw [List.getElem?_map, List.getElem?_take_of_lt (by have := HS.out; omega), hy]; rfl
      have X1 := Lib.hid fun W => residue_c W y (ex y) rfl hiy
      have hts := Lib.hid (And.intro (take_snoc (NL S C) k _ hKy) (show ((NL S C).take k).length = k by rw [List.length_take, HL.out.2.2.1]; omega))
      generalize ex y = t at *
      obtain ⟨l, hl⟩ : ∃ l, (NL S C).take k = l := ⟨_, rfl⟩
      rw [hl] at hown hts
      have HO := Lib.hid hown
      have hkn : k < n := by omega
      have hk12 : k < 12 := by omega
      have hks : k < s := by omega
      have hA := Lib.hid (And.intro (show l.length + 1 ≤ maxLen by have := hts.out.2; unfold maxLen; omega) (show (l.length + 1) * 8 ≤ 140737488355328 by have := hts.out.2; omega))
      clear hy hcy hiy hKy hown
      go_wp2_with fail
      refine (X1.out _).mono ?_
      rintro e w3 ⟨rfl, rfl⟩
      go_wp2_with (at_builtin; refine wpList_append_lies _ rfl _ _ 22 rfl (w.heap.size + 1) 3 i0 (.int .i64 0) 1 8 Tryz.underlying22 hi hz0 hz1 hz2 rfl (by decide) _ l.length (l.map (Value.int .i64)) rfl (HO.out.alloc _) ⟨w3.heap.size, 0, none⟩ 1 1 [.int .i64 t] rfl rfl (news_one _ _ _) (by simp [Value.oneCell']) Nat.zero_lt_one hA.out.1 hA.out.2 (by rw [World.size_alloc]; exact Nat.le_succ_of_le HK.out.2) _ rfl ?_; intro g9 c9 w9 hown9 hgrow9 hat9 hlt9)
      have K9 := Lib.hid (show CK w [(⟨w.heap.size, 0, none⟩, .slice q s e), (⟨w.heap.size, 1, none⟩, .slice (some ⟨b, o, none⟩) n c)] [] w9 ∧ w.heap.size + 1 ≤ w9.heap.size from ⟨(HK.out.1.next ((Below.refl _ w3).alloc (Nat.le_refl _) _)).grown hgrow9 (fun k hk => ⟨by have := (HO.out.lt k hk).1; omega, fun p hp => by
        have := (HO.out.lt k hk).1
        have hb : p.1.block = w.heap.size := by
          simp only [List.mem_cons, List.not_mem_nil, or_false] at hp
          rcases hp with rfl | rfl <;> rfl
        omega⟩), by have := hgrow9.size; simp at this; have := HK.out.2; omega⟩)
      have hown9 := Lib.hid hown9
      clear hgrow9 hat9 hlt9 HK HO X1 c0 c1 hcell
      go_wp2
      exact ⟨⟨k + 1, _, by omega, rfl, by go_num, by rw [hts.out.1, List.length_append, List.map_append]; exact hown9.out, K9⟩, by simp; omega⟩
    · obtain rfl : k = M := by omega
      have hE : (NL S C).take k = NL S C := List.take_of_length_le (by rw [HL.out.2.2.1]; exact Nat.le_refl _)
      rw [hE] at hown
      have HO := Lib.hid (And.intro (own_base hown (Nat.le_succ _)) HK.out.1.b)
      clear hown hE hlt
      rcases hMc with h | ⟨h, h'⟩ | ⟨h, h', h''⟩
      · have hkn : ¬ (k : Int) < (n : Int) := by omega
        clear hM12 hnM hMs
        subst h
        go_wp2
        go_ret
        exact ⟨_, rfl, HO.out.1, HO.out.2⟩
      · have hkn : k < n := h
        clear hM12 hnM hMs h
        subst h'
        go_wp2
        go_ret
        exact ⟨_, rfl, HO.out.1, HO.out.2⟩
      · subst h''
        have h12 : 12 < n := h
        have h12i : (12 : Int) < (n : Int) := by omega
        have s12 : 12 < s := h'
        have s12i : (12 : Int) < (s : Int) := by omega
        clear h h' hM12 hnM hMs
        go_wp2
        go_ret
        exact ⟨_, rfl, HO.out.1, HO.out.2⟩
end Go.Proofs.YtjfbpmpdcmealaaGreatDoor.D7
