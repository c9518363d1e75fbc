/-
  The law DealJoins: where no dealing comes out; the law.
-/
import Derived.Test.YtjfbpmpdcmealaaDoorDJoinW
import Derived.Test.YtjfbpmpdcmealaaDoorDFactsA
namespace Go.Proofs.YtjfbpmpdcmealaaDoor.D7
open Go.RowKit GM SH G4 E6 D7P
set_option maxRecDepth 100000 in
set_option maxHeartbeats 8000000 in
theorem join_no (w : World) (p q : Option Addr) (n c m e : Nat) (sd : ByteArray) (fr : Int) (K N : List Int) (hT : TS w)
    (S0 : Hid (∀ W, TS W → Calls Tryd.prog 5 #[] W fun e w' => e = .returned (.bool true) ∧ Below W.heap.size W w'))
    (K1 : Hid (∀ W, Below w.heap.size w W → Calls Tryd.prog 6 #[.agg #[.slice p n c, .slice q m e, .string sd]] W (OwnQ W K)))
    (N1 : Hid (∀ W, Below w.heap.size w W → Calls Tryd.prog 7 #[.agg #[.slice p n c, .slice q m e, .string sd]] W (OwnQ W N)))
    (D1 : Hid (∀ W v1 v2, Below w.heap.size w W → SL W v1 K → SL W v2 N → Calls Tryd.prog 8 #[v2, v1, .string sd] W (NoQ W))) :
    Calls Tryd.prog 3 #[.agg #[.slice p n c, .slice q m e, .string sd], .int .u8 fr] w fun e w' => e = .returned (.bool true) ∧ Below w.heap.size w w' := by
  obtain ⟨W, hW⟩ : ∃ W, w.alloc (.cells #[.slice p n c, .slice q m e, .string sd] 24) = W := ⟨_, rfl⟩
  have K0 : CK w [(⟨w.heap.size, 0, none⟩, .slice p n c), (⟨w.heap.size, 1, none⟩, .slice q m e), (⟨w.heap.size, 2, none⟩, .string sd)] [] W := by
    have a1 := (CK.start w).cells #[.slice p n c, .slice q m e, .string sd] 24 _ rfl
    rw [hW] at a1
    exact a1.sub (by simp) (by simp)
  have HK := Lib.hid K0; clear K0
  have HT0 := Lib.hid hT; clear hT
  go_enter Tryd.func3, Tryd.ntmps3
  go_upto_region 1 with fail
  clear hW
  go_wp2_with fail
  refine (S0.out _ (HT0.out.below HK.out.b)).mono ?_
  rintro e w1 ⟨rfl, b⟩
  have H1 := Lib.hid (HK.out.next b); clear b HK S0
  go_upto_region 2 with fail
  refine wp_region_held_drew (S := CK w [(⟨w.heap.size, 0, none⟩, .slice p n c), (⟨w.heap.size, 1, none⟩, .slice q m e), (⟨w.heap.size, 2, none⟩, .string sd)] []) (by kernel_rfl) H1.out.drew (fun hS => ?_)
  clear H1
  refine wpAnyH_take (i := 0) (oi := { dst := some 24, op := Op.load 24 (Operand.tmp 2), type := 24, pos := "more.go:62", after := #[], guard := none }) (v := .agg #[.slice p n c, .slice q m e, .string sd]) rfl (by kernel_rfl) (by kernel_rfl) (by kernel_rfl) (fun _ _ _ h => h) (Or.inl ⟨by rfl, ?yna0⟩) hS ?rna0
  case yna0 => (intro w' hS; have cf := (show w'.cell? ⟨w.heap.size, 0, none⟩ = some (.slice p n c) ∧ w'.cell? ⟨w.heap.size, 1, none⟩ = some (.slice q m e) ∧ w'.cell? ⟨w.heap.size, 2, none⟩ = some (.string sd) from ⟨hS.get _ _ (by simp), hS.get _ _ (by simp), hS.get _ _ (by simp)⟩); go_simp; try with_reducible rfl)
  refine wpAnyH_take (i := 2) (oi := { dst := some 26, op := Op.load 24 (Operand.tmp 2), type := 24, pos := "more.go:62", after := #[], guard := none }) (v := .agg #[.slice p n c, .slice q m e, .string sd]) rfl (by kernel_rfl) (by kernel_rfl) (by kernel_rfl) (fun _ _ _ h => h) (Or.inl ⟨by rfl, ?yna2⟩) hS ?rna2
  case yna2 => (intro w' hS; have cf := (show w'.cell? ⟨w.heap.size, 0, none⟩ = some (.slice p n c) ∧ w'.cell? ⟨w.heap.size, 1, none⟩ = some (.slice q m e) ∧ w'.cell? ⟨w.heap.size, 2, none⟩ = some (.string sd) from ⟨hS.get _ _ (by simp), hS.get _ _ (by simp), hS.get _ _ (by simp)⟩); go_simp; try with_reducible rfl)
  go_simp
  refine wpAnyH_ready (rs := [1]) (by kernel_rfl) (by simp) ?_
  refine AllReadyH.cons (o := { dst := some 25, op := Op.call { callee := Callee.value (Operand.func 6), args := #[Operand.tmp 24], argTypes := #[24] }, type := 22, pos := "more.go:62", after := #[{ on := 0, ground := Ground.data }], guard := none }) rfl (fun K hK => ?_) AllReadyH.nil
  go_simp
  go_at_call 6
  refine (K1.out _ hS.b).mono ?_
  rintro e w' ⟨v1, rfl, o1, b⟩
  have o1 := own_base o1 hS.b.size
  have hS2 := hS.next b
  clear b hS
  try go_simp
  refine hK.out _ _ hS2 (fun hS => ?_)
  clear hK K hS2
  refine wpAnyH_ready (rs := [3]) (by kernel_rfl) (by simp) ?_
  refine AllReadyH.cons (o := { dst := some 27, op := Op.call { callee := Callee.value (Operand.func 7), args := #[Operand.tmp 26], argTypes := #[24] }, type := 22, pos := "more.go:62", after := #[{ on := 2, ground := Ground.data }, { on := 1, ground := Ground.chain }], guard := none }) rfl (fun K hK => ?_) AllReadyH.nil
  go_simp
  go_at_call 7
  refine (N1.out _ hS.b).mono ?_
  rintro e w' ⟨v2, rfl, o2, b⟩
  have o2 := own_base o2 hS.b.size; have o1 := own_below o1 b
  have hS2 := hS.next b
  clear b hS
  try go_simp
  refine hK.out _ _ hS2 (fun hS => ?_)
  clear hK K hS2
  refine wpAnyH_take (i := 4) (oi := { dst := some 6, op := Op.assign (Operand.tmp 25), type := 22, pos := "more.go:62", after := #[{ on := 1, ground := Ground.data }, { on := 3, ground := Ground.chain }, { on := 0, ground := Ground.phase }, { on := 1, ground := Ground.phase }, { on := 2, ground := Ground.textOnly Departure.lateStores }, { on := 3, ground := Ground.textOnly Departure.lateStoresUnsure }], guard := none }) (v := ?vna4) rfl (by kernel_rfl) (by kernel_rfl) (by kernel_rfl) (fun _ _ _ h => h) (Or.inl ⟨by rfl, ?yna4⟩) hS ?rna4
  case yna4 => (intro w hS; go_simp; try with_reducible rfl)
  go_simp
  refine wpAnyH_take (i := 5) (oi := { dst := some 7, op := Op.assign (Operand.tmp 27), type := 22, pos := "more.go:62", after := #[{ on := 3, ground := Ground.data }, { on := 4, ground := Ground.chain }, { on := 0, ground := Ground.phase }, { on := 1, ground := Ground.phase }, { on := 2, ground := Ground.phase }, { on := 3, ground := Ground.phase }, { on := 4, ground := Ground.phase }], guard := none }) (v := ?vna5) rfl (by kernel_rfl) (by kernel_rfl) (by kernel_rfl) (fun _ _ _ h => h) (Or.inl ⟨by rfl, ?yna5⟩) hS ?rna5
  case yna5 => (intro w hS; go_simp; try with_reducible rfl)
  refine wpAnyH_done (by kernel_rfl) ?_ _
  have H2 := Lib.hid hS; clear hS
  have O1 := Lib.hid o1; clear o1
  have O2 := Lib.hid o2; clear o2
  try dsimp only [Act.put]
  have p2 := H2.out.get ⟨w.heap.size, 2, none⟩ (.string sd) (by simp)
  go_wp2_with fail
  refine (D1.out _ _ _ H2.out.b (own_VL O1.out) (own_VL O2.out)).mono ?_
  rintro e w3 ⟨rfl, b⟩
  have H3 := Lib.hid ((H2.out.next b).next ((Below.refl _ w3).alloc (Nat.le_refl _) (.cells #[.slice none 0 0, .int .i64 0, .slice none 0 0] 29))); clear b H2 O1 O2 p2 D1
  go_wp2
  go_ret
  exact ⟨rfl, H3.out.b⟩
theorem join_law (w : World) (v0 v1 : Value) (S C : List Int) (sd : ByteArray) (fr : Int) (hS : AL w v0 S) (hC : AL w v1 C) (hsd : sd.size ≤ 140737488355300) (hf : 0 ≤ fr ∧ fr ≤ 255) (hT : TS w) :
    Calls Tryd.prog 3 #[.agg #[v0, v1, .string sd], .int .u8 fr] w fun e w' => e = .returned (.bool true) ∧ Below w.heap.size w w' := by
  have hS' := hS
  have hC' := hC
  obtain ⟨p, n, c, rfl, a1, a2, a3, a4, a5, a6⟩ := hS
  obtain ⟨q, m, e, rfl, b1, b2, b3, b4, b5, b6⟩ := hC
  have hn9 : (n : Int) ≤ 9223372036854775807 := by unfold maxLen at a3; omega
  have al : ∀ {W : World} {v : Value} {l : List Int}, AL w v l → Below w.heap.size w W → AL W v l := fun {W v l} h b => by
    obtain ⟨p, n, c, e, h1, h2, h3, h4, h5, h6⟩ := h
    exact ⟨p, n, c, e, h1, h2, h3, h4.below b, h5, h6⟩
  have K1 : Hid (∀ W, Below w.heap.size w W → Calls Tryd.prog 6 #[.agg #[.slice p n c, .slice q m e, .string sd]] W (OwnQ W (KL S))) := Lib.hid fun W b => Keys_any W p q n c m e sd S (al hS' b)
  have N1 : Hid (∀ W, Below w.heap.size w W → Calls Tryd.prog 7 #[.agg #[.slice p n c, .slice q m e, .string sd]] W (OwnQ W (NL S C))) := Lib.hid fun W b => Numbers_any W q p m e n c sd S C a1 hn9 (al hC' b)
  have hKl := KL_len S
  have hNl := NL_len S C
  by_cases hN : (NL S C).length < 1
  · exact join_no w p q n c m e sd fr (KL S) (NL S C) hT (Lib.hid fun W h => sanity_any W h) K1 N1
      (Lib.hid fun W v1 v2 _ h1 h2 => Deal_no W v2 v1 (NL S C) (KL S) sd h2 h1 (NL_i S C) (KL_i S) (by omega) (by omega) (gd_none S C hN))
  · have hN1 : 1 ≤ (NL S C).length := by omega
    have hK1 : 1 ≤ (KL S).length := by omega
    obtain ⟨f, rfl⟩ : ∃ f : Nat, fr = (f : Int) := ⟨fr.toNat, by omega⟩
    obtain ⟨n0, hn0⟩ : ∃ s, (NL S C)[0]? = some s := ⟨(NL S C)[0]'(by omega), List.getElem?_eq_getElem _⟩
    have hr0 := NL_0 S C n0 (List.mem_of_getElem? hn0)
    have hhd : (NL S C).headD 0 = n0 := by
      cases hl : NL S C with
      | nil => rw [hl] at hn0; simp at hn0
      | cons x l => rw [hl] at hn0; simpa using hn0
    obtain ⟨p', c', e1, hcell⟩ := a4.form
    injection e1 with e2 e3 e4
    subst e2 e4
    obtain ⟨s0, hs0⟩ : ∃ s, S[0]? = some s := ⟨S[0]'(by omega), List.getElem?_eq_getElem _⟩
    obtain ⟨sb, so, rfl, _⟩ := hcell 0 s0 hs0
    have hsum := join_sum (NL S C) (jxs f (KL S).length (NL S C).length) (jxs_apart f _ _ (by omega) (by omega)) (by rw [jxs_len]; exact Nat.le_refl _) (by rw [hhd]; exact hr0)
    rw [hhd] at hsum
    refine join_core w sb so n c m e f q sd (pp 4 (dk sd)) n0 (KL S) (NL S C) ((NL S C).map (pp 4)) (dbs (NL S C) (KL S) (dk sd) (KL S).length) (by omega) (by omega) (by omega) hN1 (by omega) hn9 (List.length_map _) hT hr0 hn0 (by rw [List.getElem?_map, hn0]; rfl) hsum
      (Lib.hid fun W h => sanity_any W h) K1 N1
      (Lib.hid fun W v1 v2 b h1 h2 => Deal_yes W v2 v1 (NL S C) (KL S) sd h2 h1 (NL_i S C) (KL_i S) hsd (by omega) hN1 (by omega) (NL_q S C) (KL_mem S) (hT.below b))
      (Lib.hid fun j hj => ?_) (Lib.hid fun a b ha hb hne W => ?_)
      (Lib.hid fun W a b ha hb => refMul_any W a b _ ha.1 ha.2 hb.1 hb.2 (by decide)) (Lib.hid fun W a b ha hb => refAdd_any W a b _ ha.1 ha.2 hb.1 hb.2 (by decide))
      (Lib.hid fun W => (refPow_w W 4 n0 2305843009213691579 _ rfl (by decide) (by omega) (by decide)).mono fun e w' hh => ⟨hh.1, hh.2 ▸ Below.refl _ _⟩)
    · obtain ⟨sec, hsec⟩ : ∃ s, S[j]? = some s := ⟨S[j]'(by omega), List.getElem?_eq_getElem _⟩
      obtain ⟨sb', so', e5, hc⟩ := hcell j sec hsec
      cases e5
      refine ⟨sec, hc, fun W cp cc bp bc b h2 h3 => ?_⟩
      rw [dbs_len] at h3 ⊢
      exact open_own W sec (dk sd) j cp bp cc bc _ _ (NL S C) (KL S) (List.length_map _).symm rfl h2 h3 (fun x hx => (NL_0 S C x hx).1) (a5 sec (List.mem_of_getElem? hsec)) hj (KL_get S j sec hsec hj) (dk_rng sd).1 (by omega) (by rw [List.length_map]; omega) (hT.below b)
    · have hd := jx_dvd f (KL S).length a b (by omega) (by omega) (by omega) hne
      have ra := jx_rng f (KL S).length a (by omega)
      have rb := jx_rng f (KL S).length b (by omega)
      refine (refInv_any W _ 1152921504606845789 (by omega) (by omega) (by decide)).mono ?_
      rintro e w' ⟨i, ok, hI, rfl, rfl⟩
      have h1 := IsInv.ofQ (show IsInv _ (gQ : Int) i ok from hI)
      have h2 : ga (jx f (KL S).length a - jx f (KL S).length b) 0 (gQ : Int) ≠ 0 := by
        unfold ga; rw [if_neg (by decide), Int.add_zero]; exact hd
      rw [decide_eq_false h2] at h1
      subst h1
      exact ⟨by rw [(IsInv.unique (show IsInv _ (gQ : Int) i true from hI) (iv_is _ hd)).1]; rfl, rfl⟩
end Go.Proofs.YtjfbpmpdcmealaaDoor.D7
