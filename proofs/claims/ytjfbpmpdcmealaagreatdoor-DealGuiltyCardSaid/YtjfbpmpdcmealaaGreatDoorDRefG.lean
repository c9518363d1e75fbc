/-
  The reference's Deal.
  The reference's Deal, where the numbers and keys are right.
-/
import Derived.Test.YtjfbpmpdcmealaaGreatDoorDRefF
namespace Go.Proofs.YtjfbpmpdcmealaaGreatDoor.D7
open Go.RowKit GM SH G4 E6 D7P
set_option maxRecDepth 100000 in
set_option maxHeartbeats 8000000 in
theorem refDeal_core (w : World) (p q : Option Addr) (n c m e : Nat) (coefs keys : List Int) (seed : ByteArray) (K pt : Int) (CC : List Int) (BB : Nat → ByteArray) (ks : Nat → Int) (vs : Nat → Int)
    (hn : coefs.length = n) (hm : keys.length = m) (h60 : m ≤ 60) (h1 : 1 ≤ n) (hnm : n ≤ m) (hsz : seed.size ≤ 140737488355300)
    (hC : Hid (∀ (j : Nat) (x : Int), coefs[j]? = some x → ∃ b o, p = some ⟨b, o, none⟩ ∧ w.cell? ⟨b, o + j, none⟩ = some (.int .i64 x)))
    (hKy : Hid (∀ (j : Nat) (x : Int), keys[j]? = some x → ∃ b o, q = some ⟨b, o, none⟩ ∧ w.cell? ⟨b, o + j, none⟩ = some (.int .i64 x)))
    (hq : Hid (∀ (j : Nat) (x : Int), coefs[j]? = some x → 0 ≤ x ∧ x < 1152921504606845789))
    (A2 : Hid (∀ W, Below w.heap.size w W → Calls Tryz.prog 60 #[.slice q m e] W fun e w' => e = .returned (.bool true) ∧ Below W.heap.size W w'))
    (S1 : Hid (∀ W, Below w.heap.size w W → Calls Tryz.prog 61 #[.string ((⟨#[112, 111, 105, 110, 116, 47]⟩ : ByteArray) ++ seed)] W fun e w' => e = .returned (.int .i64 K) ∧ Below W.heap.size W w'))
    (P0 : Hid (∀ W, Calls Tryz.prog 28 #[.int .i64 4, .int .i64 K, .int .i64 2305843009213691579] W fun e w' => e = .returned (.int .i64 pt) ∧ Below W.heap.size W w'))
    (PC : Hid (∀ (j : Nat) (x : Int), coefs[j]? = some x → ∃ y, CC[j]? = some y ∧ ∀ W, Calls Tryz.prog 28 #[.int .i64 4, .int .i64 x, .int .i64 2305843009213691579] W fun e w' => e = .returned (.int .i64 y) ∧ Below W.heap.size W w'))
    (PK : Hid (∀ (j : Nat) (x : Int), keys[j]? = some x → ∀ W, Calls Tryz.prog 28 #[.int .i64 x, .int .i64 K, .int .i64 2305843009213691579] W fun e w' => e = .returned (.int .i64 (ks j)) ∧ Below W.heap.size W w'))
    (PV : Hid (∀ (j : Nat), j < m → ∀ W, Below w.heap.size w W → Calls Tryz.prog 63 #[.slice p n c, .int .i64 ((j : Int) + 1)] W fun e w' => e = .returned (.int .i64 (vs j)) ∧ Below W.heap.size W w'))
    (PS : Hid (∀ (j : Nat), j < m → ∀ W, Calls Tryz.prog 62 #[.int .i64 (vs j), .int .i64 (ks j), .int .i64 (j : Int)] W fun e w' => e = .returned (.string (BB j)) ∧ Below W.heap.size W w'))
    (hCC : CC.length = n) :
    Calls Tryz.prog 27 #[.slice p n c, .slice q m e, .string seed] w (DealtQ w CC pt ((List.range m).map BB)) := by
  obtain ⟨i0, hi, hz0, hz1, hz2⟩ := info_parts infoI
  obtain ⟨j0, hj, hy0, hy1, hy2⟩ := info_parts infoZ
  obtain ⟨W, hW⟩ : ∃ W, w.alloc (.cells #[.slice none 0 0, .int .i64 0, .slice none 0 0] 34) = W := ⟨_, rfl⟩
  have HB0 := Lib.hid (show Below w.heap.size w W by rw [← hW]; exact (Below.refl _ w).alloc (Nat.le_refl _) _)
  have HR0 := Lib.hid (show W.heap[w.heap.size]? = some (.cells #[.slice none 0 0, .int .i64 0, .slice none 0 0] 34 (0, 0)) by rw [← hW]; exact heap_alloc_new _ _)
  have t1 : (9223372036854775807 < 6 + seed.size) = False := eq_false (by omega)
  have HL := Lib.hid (And.intro hn (And.intro hm hCC)); clear hn hm hCC
  have d1 : decide ((m : Int) < 1) = false := decide_eq_false (by omega)
  have d2 : decide (60 < (m : Int)) = false := decide_eq_false (by omega)
  have d3 : decide ((n : Int) < 1) = false := decide_eq_false (by omega)
  have d4 : decide ((m : Int) < (n : Int)) = false := decide_eq_false (by omega)
  go_enter Tryz.func27, Tryz.ntmps27
  go_upto_region 1 with fail
  clear hW
  go_wp2_with fail
  refine (A2.out _ HB0.out).mono ?_
  rintro e w2 ⟨rfl, b2⟩
  have HB2 := Lib.hid (HB0.out.trans (b2.mono HB0.out.size))
  have HR2 := Lib.hid ((b2.block _ (Array.getElem?_eq_some_iff.1 HR0.out).1).trans HR0.out)
  clear b2 HB0 HR0
  go_wp2_with fail
  clear d1 d2 d3 d4
  go_loopw [9] (fun i wr => ∃ k : Nat, k ≤ n ∧ i = .int .i64 (k : Int) ∧ w2 = wr) (fun i _ => n - (match i with | .int _ i => i.toNat | _ => 0))
  case atStart => exact ⟨0, Nat.zero_le _, rfl, rfl⟩
  case round =>
    obtain ⟨k, hk, rfl, rfl⟩ := hrel
    by_cases hlt : k < n
    · obtain ⟨x, hx⟩ : ∃ x, coefs[k]? = some x := ⟨coefs[k]'(by rw [HL.out.1]; exact hlt), List.getElem?_eq_getElem _⟩
      obtain ⟨b, o, hp, hcx⟩ := hC.out k x hx
      subst hp
      obtain ⟨q0, q1⟩ := hq.out k x hx
      have hcell := (HB2.out.cell (p := ⟨b, o + k, none⟩) (World.block_lt_of_cell? _ _ hcx)).trans hcx
      have d5 : decide (x < 0) = false := decide_eq_false (by omega)
      have d6 : decide (1152921504606845789 ≤ x) = false := decide_eq_false (by omega)
      clear hx hcx
      go_wp2
      exact ⟨⟨k + 1, by omega, by go_num, trivial⟩, by simp; omega⟩
    · obtain rfl : n = k := by omega
      clear hlt hk
      go_wp2_with fail
      refine (S1.out _ HB2.out).mono ?_
      rintro e w3 ⟨rfl, b3⟩
      have HB3 := Lib.hid (HB2.out.trans (b3.mono HB2.out.size))
      have HR3 := Lib.hid ((b3.block _ (Array.getElem?_eq_some_iff.1 HR2.out).1).trans HR2.out)
      clear b3 HB2 HR2
      go_wp2_with fail
      refine (P0.out _).mono ?_
      rintro e w4 ⟨rfl, b4⟩
      have HB4 := Lib.hid (HB3.out.trans (b4.mono HB3.out.size))
      have HR4 := Lib.hid ((b4.block _ (Array.getElem?_eq_some_iff.1 HR3.out).1).trans HR3.out)
      clear b4 HB3 HR3 t1
      have HD := Lib.hid (ds_start w w4 pt HB4.out HR4.out)
      have hw4 : w.heap.size < w4.heap.size := (Array.getElem?_eq_some_iff.1 HR4.out).1
      go_upto_region 11 with fail
      obtain ⟨d, hd⟩ : ∃ d, w4.heap.size = d := ⟨_, rfl⟩
      rw [hd] at HD hw4
      have HD4 := Lib.hid hd; clear hd
      rw [HD4.out]
      change Code.wp _ _ _ _ (w4.alloc (.cells #[.slice none 0 0, .int .i64 pt, .slice none 0 0] 34))
      clear HB4 HR4
      generalize w4.alloc (.cells #[.slice none 0 0, .int .i64 pt, .slice none 0 0] 34) = W5 at *
      clear HD4
      go_wp2_with fail
      go_loopw [12] (fun i wr => ∃ (k : Nat) (cv : Value), k ≤ n ∧ i = .int .i64 (k : Int) ∧ Hid (DS w d pt cv (.slice none 0 0) (CC.take k) [] wr)) (fun i _ => n - (match i with | .int _ i => i.toNat | _ => 0))
      case atStart => exact ⟨0, _, Nat.zero_le _, rfl, HD⟩
      case round =>
        obtain ⟨k, cv, hk, rfl, HS⟩ := hrel
        by_cases hlt : k < n
        · obtain ⟨x, hx⟩ : ∃ x, coefs[k]? = some x := ⟨coefs[k]'(by rw [HL.out.1]; exact hlt), List.getElem?_eq_getElem _⟩
          obtain ⟨b, o, hp, hcx⟩ := hC.out k x hx
          subst hp
          obtain ⟨y, hy, hpow⟩ := PC.out k x hx
          have hcell := (HS.out.b.cell (p := ⟨b, o + k, none⟩) (World.block_lt_of_cell? _ _ hcx)).trans hcx
          have HP := Lib.hid hpow
          have c0 := HS.out.drew.c0
          have HT := Lib.hid (And.intro (take_snoc CC k y hy) (show (CC.take k).length = k by rw [List.length_take, HL.out.2.2]; omega))
          clear hx hcx hy hpow
          obtain ⟨l, hl⟩ : ∃ l, CC.take k = l := ⟨_, rfl⟩
          rw [hl] at HS HT
          have HS2 := HS.out.drew
          go_wp2_with fail
          go_region_law (first
            | (refine step_append_lies _ rfl (.tmp 73) (.tmp 79) 22 rfl (d+1) 3 i0 (.int .i64 0) 1 8 Tryz.underlying22 hi hz0 hz1 hz2 rfl (by decide) cv l.length (l.map (Value.int .i64)) (by simp [Act.eval, Act.put]) (HS3.alloc _).oc ⟨w'.heap.size, 0, none⟩ 1 1 [.int .i64 y] (by simp [Act.eval, Act.put]) rfl (news_one _ _ _) (by simp [Value.oneCell']) (by omega) (by have := HT.out.2; unfold maxLen; omega) (by have := HT.out.2; omega) (by have := HS3.lt; simp; omega) _ rfl ?_; intro g9 c9 w9 hown9 hgrow9 hat9 hlt9; obtain ⟨e0, f0, S9⟩ := (HS3.alloc _).appC y rfl hown9 hgrow9 hat9)
            | (rw [if_pos (by rfl)]; go_simp; (with_reducible refine (HP.out _).mono ?_); rintro e w' ⟨rfl, b⟩; have HS3 := HS2.next b; have c1 := HS3.c0; have c2 := (HS3.alloc (.cells #[.int .i64 y] 3)).c0))
          all_goals
            have S10 := Lib.hid (show DS w d pt (.slice (some ⟨g9, 0, none⟩) (l.length + 1) c9) (.slice none 0 0) (CC.take (k+1)) [] (w9.setCell ⟨d, 0, none⟩ (.slice (some ⟨g9, 0, none⟩) (l.length + 1) c9)) by rw [HT.out.1]; exact S9)
            clear S9 e0 f0 hown9 hgrow9 hat9 hlt9
            go_wp2
            exact ⟨⟨k + 1, _, by omega, by go_num, S10⟩, by simp; omega⟩
        · obtain rfl : k = n := by omega
          have hC2 := Lib.hid (show CC.take k = CC from List.take_of_length_le (by rw [HL.out.2.2]; exact Nat.le_refl _))
          rw [hC2.out] at HS
          clear PC P0 S1 A2 hC2
          obtain ⟨cp, cc, hcv⟩ := own_nil cv HS.out.oc
          subst hcv
          go_wp2_with fail
          go_loopw [13] (fun i wr => ∃ (j : Nat) (bv : Value), j ≤ m ∧ i = .int .i64 (j : Int) ∧ Hid (DS w d pt (.slice cp CC.length cc) bv CC ((List.range j).map BB) wr)) (fun i _ => m - (match i with | .int _ i => i.toNat | _ => 0))
          case atStart => exact ⟨0, _, Nat.zero_le _, rfl, HS⟩
          case round =>
            clear HS HD
            obtain ⟨j, bv, hjm, rfl, HS⟩ := hrel
            by_cases hlt2 : j < m
            · obtain ⟨x, hx⟩ : ∃ x, keys[j]? = some x := ⟨keys[j]'(by rw [HL.out.2.1]; exact hlt2), List.getElem?_eq_getElem _⟩
              obtain ⟨kb, ko, hp, hcx⟩ := hKy.out j x hx
              subst hp
              have HCX := Lib.hid hcx
              have hcell := (HS.out.b.cell (p := ⟨kb, ko + j, none⟩) (World.block_lt_of_cell? _ _ hcx)).trans hcx
              have X1 := Lib.hid (PK.out j x hx)
              have X3 := Lib.hid (PV.out j hlt2)
              have X4 := Lib.hid (PS.out j hlt2)
              have HT := Lib.hid (And.intro (show (List.range (j+1)).map BB = (List.range j).map BB ++ [BB j] by rw [List.range_succ, List.map_append]; rfl) (show ((List.range j).map BB).length = j by simp))
              clear hx hcx
              obtain ⟨l, hl⟩ : ∃ l, (List.range j).map BB = l := ⟨_, rfl⟩
              rw [hl] at HS HT
              generalize BB j = y at *
              generalize ks j = xk at *
              generalize vs j = xv at *
              have HS2 := HS.out.drew
              have c0 := HS.out.drew.c2
              go_wp2_with fail
              have HA := Lib.hid (And.intro (show ∀ u ∈ [Value.string y], u.oneCell' = true by simp [Value.oneCell']) (And.intro (show l.length + 1 ≤ maxLen by have := HT.out.2; unfold maxLen; omega) (show (l.length + 1) * 16 ≤ 140737488355328 by have := HT.out.2; omega)))
              have x1 : IntKind.i64.wrap ((j : Int) + 1) = (j : Int) + 1 := IntWalk.i64_in _ ⟨by omega, by omega⟩
              have x2 : wrap64 ((j : Int) + 1) = (j : Int) + 1 := by unfold wrap64; omega
              go_region_law (first
                | (refine step_append_lies _ rfl (.tmp 89) (.tmp 102) 32 rfl (d+1) 9 j0 (.string ⟨#[]⟩) 1 16 Tryz.underlying32 hj hy0 hy1 hy2 rfl (by decide) bv l.length (l.map Value.string) (by simp [Act.eval, Act.put]) (HS3.alloc _).ob ⟨w'.heap.size, 0, none⟩ 1 1 [.string y] (by simp [Act.eval, Act.put]) rfl (news_one _ _ _) HA.out.1 Nat.zero_lt_one HA.out.2.1 HA.out.2.2 (by rw [World.size_alloc]; exact Nat.le_succ_of_le HS3.lt) _ rfl ?_; intro g9 c9 w9 hown9 hgrow9 hat9 hlt9; obtain ⟨e0, f0, S9⟩ := (HS3.alloc _).appB y rfl hown9 hgrow9 hat9)
                | (rw [if_pos (by rfl)]; go_simp; (with_reducible refine (X1.out _).mono ?_); rintro e w' ⟨rfl, b⟩; have HS3 := DS.next (w := w) (d := d) (pt := pt) (cv := .slice cp CC.length cc) (bv := bv) (C := CC) (B := l) (by assumption) b; have c1 := HS3.c2; have hk1 := (HS3.b.cell (p := ⟨kb, ko + j, none⟩) (World.block_lt_of_cell? _ _ HCX.out)).trans HCX.out; clear b)
                | (rw [if_pos (by rfl)]; go_simp; (with_reducible refine (X3.out _ (DS.b (d := d) (pt := pt) (cv := .slice cp CC.length cc) (bv := bv) (C := CC) (B := l) (by assumption))).mono ?_); rintro e w' ⟨rfl, b⟩; have HS3 := DS.next (w := w) (d := d) (pt := pt) (cv := .slice cp CC.length cc) (bv := bv) (C := CC) (B := l) (by assumption) b; have c1 := HS3.c2; have hk1 := (HS3.b.cell (p := ⟨kb, ko + j, none⟩) (World.block_lt_of_cell? _ _ HCX.out)).trans HCX.out; clear b)
                | (rw [if_pos (by rfl)]; go_simp; (with_reducible refine (X4.out _).mono ?_); rintro e w' ⟨rfl, b⟩; have HS3 := DS.next (w := w) (d := d) (pt := pt) (cv := .slice cp CC.length cc) (bv := bv) (C := CC) (B := l) (by assumption) b; have c1 := HS3.c2; have c2 := (HS3.alloc (.cells #[.string y] 9)).c2; clear b))
              all_goals
                have S10 := Lib.hid (show DS w d pt (.slice cp CC.length cc) (.slice (some ⟨g9, 0, none⟩) (l.length + 1) c9) CC ((List.range (j+1)).map BB) (w9.setCell ⟨d, 2, none⟩ (.slice (some ⟨g9, 0, none⟩) (l.length + 1) c9)) by rw [HT.out.1]; exact S9)
                clear S9 e0 f0 hown9 hgrow9 hat9 hlt9 x1 x2
                go_wp2
                exact ⟨⟨j + 1, _, by omega, by go_num, S10⟩, by simp; omega⟩
            · obtain rfl : j = m := by omega
              obtain ⟨bp, bc, hbv⟩ := own_nil bv HS.out.ob
              rw [show ((List.range j).map BB).length = j by simp] at hbv
              subst hbv
              have hrow := HS.out.row
              have hz := HS.out.z
              have hi3 := infoD (.slice cp CC.length cc) (.int .i64 pt) (.slice bp j bc)
              go_wp2_with (first | (refine wpList_load_row rfl 34 (.tmp 11) rfl d rfl 34 #[.slice cp CC.length cc, .int .i64 pt, .slice bp j bc] (0, 0) _ hrow Tryz.underlying34 rfl hi3.out ?_) | (refine wpList_store_row rfl 34 (.tmp 6) (.tmp 105) rfl w.heap.size #[.slice cp CC.length cc, .int .i64 pt, .slice bp j bc] rfl rfl 34 #[.slice none 0 0, .int .i64 0, .slice none 0 0] hz hi3.out (three_size _ _ _ _ _ _) (by simp [Value.oneCell']) ?_))
              refine bodyPost_ret (results_row_tmp rfl _ _ w.heap.size _ #[.slice cp CC.length cc, .int .i64 pt, .slice bp j bc] _ _ rfl (setRow_heap _ _ _ _ _ _ hz) Tryz.underlying34 rfl hi3.out) rfl ?_
              have hne := HS.out.hd
              have o1 := own_base (base' := w.heap.size) (own_row HS.out.oc w.heap.size #[.slice cp CC.length cc, .int .i64 pt, .slice bp j bc] (by omega)) (by omega)
              have o2 := own_base (base' := w.heap.size) (own_row HS.out.ob w.heap.size #[.slice cp CC.length cc, .int .i64 pt, .slice bp j bc] (by omega)) (by omega)
              exact ⟨_, _, rfl, o1, o2, HS.out.ne, Below.setRow' HS.out.b (Nat.le_refl _) _⟩
end Go.Proofs.YtjfbpmpdcmealaaGreatDoor.D7
namespace Go.Proofs.YtjfbpmpdcmealaaGreatDoor.D7
open Go.RowKit GM SH G4 E6 D7P
theorem seed_size' (s : ByteArray) (h : s.size ≤ 140737488355300) : (wP s).size ≤ 199999999999998 := by
  unfold wP; rw [ByteArray.size_append]; show 6 + s.size ≤ _; omega
theorem refDeal_yes (w : World) (cv kv : Value) (coefs keys : List Int) (seed : ByteArray) (hC : SL w cv coefs) (hK : SL w kv keys) (hrc : ∀ x ∈ coefs, i64 x) (hrk : ∀ x ∈ keys, i64 x) (hsz : seed.size ≤ 140737488355300) (h60 : keys.length ≤ 60) (h1 : 1 ≤ coefs.length) (hnm : coefs.length ≤ keys.length) (hq : ∀ x ∈ coefs, 0 ≤ x ∧ x < 1152921504606845789) (hm : keys.all mem = true) :
    Calls Tryz.prog 27 #[cv, kv, .string seed] w (DealtQ w (coefs.map (pp 4)) (pp 4 (dk seed)) (dbs coefs keys (dk seed) keys.length)) := by
  have hC' := hC; have hK' := hK
  obtain ⟨p, c, rfl, hc⟩ := hC.form
  obtain ⟨q, e, rfl, hk⟩ := hK.form
  refine refDeal_core w p q coefs.length c keys.length e coefs keys seed (dk seed) (pp 4 (dk seed)) (coefs.map (pp 4)) (dbx coefs keys (dk seed)) (fun j => pp (keys[j]?.getD 0) (dk seed)) (fun j => vl coefs ((j : Int) + 1)) rfl rfl h60 h1 hnm hsz (Lib.hid hc) (Lib.hid hk)
    (Lib.hid fun j x hx => hq x (List.mem_of_getElem? hx))
    (Lib.hid fun W b => by have := refMembers_any W _ keys (hK'.below b) hrk (by omega); rwa [hm] at this)
    (Lib.hid fun W b => refScalar_any W (wP seed) (seed_size' seed hsz)) (Lib.hid fun W => same_b (refPow_w W 4 _ _ _ rfl (by decide) (dk_i64 _).2 (by decide)))
    (Lib.hid fun j x hx => ⟨pp 4 x, by rw [List.getElem?_map, hx]; rfl, fun W => same_b (refPow_w W 4 x _ _ rfl (by decide) (hrc x (List.mem_of_getElem? hx)).2 (by decide))⟩)
    (Lib.hid fun j x hx W => same_b (refPow_w W x (dk seed) _ _ (by rw [hx]; rfl) (hrk x (List.mem_of_getElem? hx)) (dk_i64 _).2 (by decide)))
    (Lib.hid fun j hj W b => refValue_any W _ coefs _ (hC'.below b) hrc ⟨by omega, by omega⟩ (by omega)) (Lib.hid fun j hj W => refSeal_any W _ _ j (vl_i64 _ _) (pp_i _ _) ⟨by omega, by omega⟩) (by simp)
end Go.Proofs.YtjfbpmpdcmealaaGreatDoor.D7
