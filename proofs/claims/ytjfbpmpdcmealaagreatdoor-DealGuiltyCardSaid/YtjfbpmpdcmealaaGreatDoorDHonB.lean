/-
  What holds of a plan's keys and numbers, and of the dealing that they give.
  The law DealHonest: where no dealing comes out; the law.
-/
import Derived.Test.YtjfbpmpdcmealaaGreatDoorDRefC
import Derived.Test.YtjfbpmpdcmealaaGreatDoorDSanW
import Derived.Test.YtjfbpmpdcmealaaGreatDoorDHonest
namespace Go.Proofs.YtjfbpmpdcmealaaGreatDoor.D7
open Go.RowKit GM SH G4 E6 D7P
theorem KL_len (S : List Int) : (KL S).length = min 12 S.length := by unfold KL; rw [List.length_map, List.length_take]
theorem NL_len (S C : List Int) : (NL S C).length = min (min S.length 12) C.length := by unfold NL; rw [List.length_map, List.length_take]
theorem KL_i (S : List Int) : ∀ x ∈ KL S, i64 x := fun x hx => by
  unfold KL at hx
  obtain ⟨s, _, rfl⟩ := List.mem_map.1 hx
  exact pp_i _ _
theorem NL_0 (S C : List Int) : ∀ x ∈ NL S C, 0 ≤ x ∧ x < 1152921504606845789 := fun x hx => by
  unfold NL at hx
  obtain ⟨s, _, rfl⟩ := List.mem_map.1 hx
  exact ex_rng s
theorem NL_i (S C : List Int) : ∀ x ∈ NL S C, i64 x := fun x hx => by have := NL_0 S C x hx; exact ⟨by omega, by omega⟩
theorem NL_q (S C : List Int) : (NL S C).all inQ = true := List.all_eq_true.2 fun x hx => inQ_t (NL_0 S C x hx)
theorem KL_mem (S : List Int) : (KL S).all mem = true := List.all_eq_true.2 fun x hx => by
  unfold KL at hx
  obtain ⟨s, _, rfl⟩ := List.mem_map.1 hx
  exact pp_mem mem4 _ (ex_rng s).1
theorem KL_get (S : List Int) (k : Nat) (s : Int) (h : S[k]? = some s) (hk : k < (KL S).length) : (KL S)[k]? = some (pp 4 (ex s)) := by
  have hk12 : k < 12 := by rw [KL_len] at hk; omega
  unfold KL
  rw [List.getElem?_map, List.getElem?_take_of_lt hk12, h]; rfl
theorem pt_mem (sd : ByteArray) : mem (pp 4 (dk sd)) = true := pp_mem mem4 _ (dk_rng sd).1
theorem CM_mem (S C : List Int) : ((NL S C).map (pp 4)).all mem = true := List.all_eq_true.2 fun x hx => by
  obtain ⟨s, hs, rfl⟩ := List.mem_map.1 hx
  exact pp_mem mem4 _ (NL_0 S C s hs).1
theorem dbx_size (coefs keys : List Int) (K : Int) (i : Nat) : (dbx coefs keys K i).size = 16 := by
  have := bx_len (vl coefs ((i : Int) + 1)) (pd (pp (keys[i]?.getD 0) K) i) (pd_len _ _)
  show (List.toArray _).size = 16
  simpa using this
theorem BX_all (coefs keys : List Int) (K : Int) (n : Nat) : (dbs coefs keys K n).all (fun b => b.size == 16) = true := List.all_eq_true.2 fun x hx => by
  unfold dbs at hx
  obtain ⟨i, _, rfl⟩ := List.mem_map.1 hx
  rw [dbx_size]; rfl
theorem gd_plan (S C : List Int) (h : 1 ≤ (NL S C).length) : gd (NL S C) (KL S) = true := by
  have h1 := NL_len S C
  have h2 := KL_len S
  unfold gd
  rw [NL_q, KL_mem, decide_eq_false (by omega), decide_eq_false (by omega), decide_eq_false (by omega)]; rfl
theorem gd_none (S C : List Int) (h : (NL S C).length < 1) : gd (NL S C) (KL S) = false := by
  unfold gd; rw [decide_eq_true h]; simp
theorem chk_plan (S C : List Int) (sd : ByteArray) (h : 1 ≤ (NL S C).length) : chk ((NL S C).map (pp 4)) (pp 4 (dk sd)) (dbs (NL S C) (KL S) (dk sd) (KL S).length) (KL S).length = true := by
  have h1 := NL_len S C
  have h2 := KL_len S
  unfold chk
  rw [dbs_len, List.length_map, BX_all, pt_mem, CM_mem, decide_eq_false (by omega), decide_eq_false (by omega)]
  simp
/-- the box of an owner -/
theorem dbx_own (coefs keys : List Int) (K sec : Int) (i : Nat) (hk : keys[i]? = some (pp 4 (ex sec))) : (dbx coefs keys K i).data.toList = bx (vl coefs ((i : Int) + 1)) (pd (pp (pp 4 (ex sec)) K) i) := by
  unfold dbx; rw [hk]; rfl
theorem own_fits (S C : List Int) (sd : ByteArray) (sec : Int) (k : Nat) (hk : (KL S)[k]? = some (pp 4 (ex sec))) : tk (pp (pp 4 (dk sd)) (ex sec)) (k : Int) (dbx (NL S C) (KL S) (dk sd) k).data.toList ((NL S C).map (pp 4)) = true := by
  rw [dbx_own _ _ _ sec k hk]
  exact (tk_own (NL S C) (dk sd) (ex sec) k (dk_rng sd).1 (ex_rng sec).1 (fun c hc => (NL_0 S C c hc).1)).1
end Go.Proofs.YtjfbpmpdcmealaaGreatDoor.D7
namespace Go.Proofs.YtjfbpmpdcmealaaGreatDoor.D7
open Go.RowKit GM SH G4 E6 D7P
set_option maxRecDepth 100000 in
set_option maxHeartbeats 8000000 in
theorem honest_no (w : World) (p q : Option Addr) (n c m e : Nat) (sd : ByteArray) (ix ky Cp Z q0 q1 : Int) (K N : List Int) (hT : TS w)
    (S0 : Hid (∀ W, TS W → Calls Tryz.prog 8 #[] W fun e w' => e = .returned (.bool true) ∧ Below W.heap.size W w'))
    (K1 : Hid (∀ W, Below w.heap.size w W → Calls Tryz.prog 9 #[.agg #[.slice p n c, .slice q m e, .string sd]] W (OwnQ W K)))
    (N1 : Hid (∀ W, Below w.heap.size w W → Calls Tryz.prog 10 #[.agg #[.slice p n c, .slice q m e, .string sd]] W (OwnQ W N)))
    (D1 : Hid (∀ W v1 v2, Below w.heap.size w W → SL W v1 K → SL W v2 N → Calls Tryz.prog 11 #[v2, v1, .string sd] W (NoQ W)))
    (J1 : Hid (∀ W kp kc, Calls Tryz.prog 12 #[.slice kp K.length kc, .agg #[.slice none 0 0, .int .i64 0, .slice none 0 0], .agg #[.int .i64 ix, .int .i64 ky, .int .i64 Cp, .int .i64 Z]] W fun e w' => e = .returned (.int .i64 0) ∧ Below W.heap.size W w')) :
    Calls Tryz.prog 3 #[.agg #[.slice p n c, .slice q m e, .string sd], .agg #[.int .i64 ix, .int .i64 ky, .int .i64 Cp, .int .i64 Z], .agg #[.int .i64 q0, .int .i64 q1]] w fun e w' => e = .returned (.bool true) ∧ Below w.heap.size w w' := by
  obtain ⟨W, hW⟩ : ∃ W, ((w.alloc (.cells #[.slice p n c, .slice q m e, .string sd] 24)).alloc (.cells #[.int .i64 ix, .int .i64 ky, .int .i64 Cp, .int .i64 Z] 28)).alloc (.cells #[.int .i64 q0, .int .i64 q1] 29) = W := ⟨_, rfl⟩
  have K0 : HB w [(⟨w.heap.size, 0, none⟩, .slice p n c), (⟨w.heap.size, 1, none⟩, .slice q m e), (⟨w.heap.size, 2, none⟩, .string sd), (⟨w.heap.size + 1 + 1, 0, none⟩, .int .i64 q0), (⟨w.heap.size + 1 + 1, 1, none⟩, .int .i64 q1)] #[.int .i64 ix, .int .i64 ky, .int .i64 Cp, .int .i64 Z] W := by
    have a1 := (CK.start w).cells #[.slice p n c, .slice q m e, .string sd] 24 _ rfl
    have a2 := a1.next ((Below.refl _ _).alloc (Nat.le_refl _) (.cells #[.int .i64 ix, .int .i64 ky, .int .i64 Cp, .int .i64 Z] 28))
    have a3 := a2.cells #[.int .i64 q0, .int .i64 q1] 29 _ rfl
    have r1 := heap_alloc_new (w.alloc (.cells #[.slice p n c, .slice q m e, .string sd] 24)) (.cells #[.int .i64 ix, .int .i64 ky, .int .i64 Cp, .int .i64 Z] 28)
    have s3 : w.heap.size + 3 ≤ W.heap.size := by rw [← hW]; simp
    rw [World.size_alloc] at r1
    rw [World.size_alloc, World.size_alloc] at a3
    rw [hW] at a3
    refine ⟨a3.sub (by simp) (by simp), s3, ?_⟩
    rw [← hW]
    exact (((Below.refl _ _).alloc (Nat.le_refl _) _).block _ (by simp)).trans r1
  have HK := Lib.hid K0; clear K0
  have HT0 := Lib.hid hT; clear hT
  go_enter Tryz.func3, Tryz.ntmps3
  go_upto_region 1 with fail
  clear hW
  go_wp2_with fail
  refine (S0.out _ (HT0.out.below HK.out.b)).mono ?_
  rintro e w1 ⟨rfl, b⟩
  have H1 := Lib.hid (HK.out.next b); clear b HK S0
  go_upto_region 2 with fail
  refine wp_region_held_drew (S := HB w [(⟨w.heap.size, 0, none⟩, .slice p n c), (⟨w.heap.size, 1, none⟩, .slice q m e), (⟨w.heap.size, 2, none⟩, .string sd), (⟨w.heap.size + 1 + 1, 0, none⟩, .int .i64 q0), (⟨w.heap.size + 1 + 1, 1, none⟩, .int .i64 q1)] #[.int .i64 ix, .int .i64 ky, .int .i64 Cp, .int .i64 Z]) (by kernel_rfl) H1.out.drew (fun hS => ?_)
  clear H1
  refine wpAnyH_take (i := 0) (oi := { dst := some 20, op := Op.load 24 (Operand.tmp 3), type := 24, pos := "more.go:15", after := #[], guard := none }) (v := .agg #[.slice p n c, .slice q m e, .string sd]) rfl (by kernel_rfl) (by kernel_rfl) (by kernel_rfl) (fun _ _ _ h => h) (Or.inl ⟨by rfl, ?yna0⟩) hS ?rna0
  case yna0 => (intro w' hS; have cf := (show w'.cell? ⟨w.heap.size, 0, none⟩ = some (.slice p n c) ∧ w'.cell? ⟨w.heap.size, 1, none⟩ = some (.slice q m e) ∧ w'.cell? ⟨w.heap.size, 2, none⟩ = some (.string sd) from ⟨hS.get _ _ (by simp), hS.get _ _ (by simp), hS.get _ _ (by simp)⟩); go_simp; try with_reducible rfl)
  refine wpAnyH_take (i := 2) (oi := { dst := some 22, op := Op.load 24 (Operand.tmp 3), type := 24, pos := "more.go:15", after := #[], guard := none }) (v := .agg #[.slice p n c, .slice q m e, .string sd]) rfl (by kernel_rfl) (by kernel_rfl) (by kernel_rfl) (fun _ _ _ h => h) (Or.inl ⟨by rfl, ?yna2⟩) hS ?rna2
  case yna2 => (intro w' hS; have cf := (show w'.cell? ⟨w.heap.size, 0, none⟩ = some (.slice p n c) ∧ w'.cell? ⟨w.heap.size, 1, none⟩ = some (.slice q m e) ∧ w'.cell? ⟨w.heap.size, 2, none⟩ = some (.string sd) from ⟨hS.get _ _ (by simp), hS.get _ _ (by simp), hS.get _ _ (by simp)⟩); go_simp; try with_reducible rfl)
  go_simp
  refine wpAnyH_ready (rs := [1]) (by kernel_rfl) (by simp) ?_
  refine AllReadyH.cons (o := { dst := some 21, op := Op.call { callee := Callee.value (Operand.func 9), args := #[Operand.tmp 20], argTypes := #[24] }, type := 22, pos := "more.go:15", after := #[{ on := 0, ground := Ground.data }], guard := none }) rfl (fun K hK => ?_) AllReadyH.nil
  go_simp
  go_at_call 9
  refine (K1.out _ hS.b).mono ?_
  rintro e w' ⟨v1, rfl, o1, b⟩
  have o1 := own_base o1 hS.s
  have hS2 := hS.next b
  clear b hS
  try go_simp
  refine hK.out _ _ hS2 (fun hS => ?_)
  clear hK K hS2
  refine wpAnyH_ready (rs := [3]) (by kernel_rfl) (by simp) ?_
  refine AllReadyH.cons (o := { dst := some 23, op := Op.call { callee := Callee.value (Operand.func 10), args := #[Operand.tmp 22], argTypes := #[24] }, type := 22, pos := "more.go:15", after := #[{ on := 2, ground := Ground.data }, { on := 1, ground := Ground.chain }], guard := none }) rfl (fun K hK => ?_) AllReadyH.nil
  go_simp
  go_at_call 10
  refine (N1.out _ hS.b).mono ?_
  rintro e w' ⟨v2, rfl, o2, b⟩
  have o2 := own_base o2 hS.s; have o1 := own_below o1 b
  have hS2 := hS.next b
  clear b hS
  try go_simp
  refine hK.out _ _ hS2 (fun hS => ?_)
  clear hK K hS2
  refine wpAnyH_take (i := 4) (oi := { dst := some 8, op := Op.assign (Operand.tmp 21), type := 22, pos := "more.go:15", after := #[{ on := 1, ground := Ground.data }, { on := 3, ground := Ground.chain }, { on := 0, ground := Ground.phase }, { on := 1, ground := Ground.phase }, { on := 2, ground := Ground.textOnly Departure.lateStores }, { on := 3, ground := Ground.textOnly Departure.lateStoresUnsure }], guard := none }) (v := ?vna4) rfl (by kernel_rfl) (by kernel_rfl) (by kernel_rfl) (fun _ _ _ h => h) (Or.inl ⟨by rfl, ?yna4⟩) hS ?rna4
  case yna4 => (intro w hS; go_simp; try with_reducible rfl)
  go_simp
  refine wpAnyH_take (i := 5) (oi := { dst := some 9, op := Op.assign (Operand.tmp 23), type := 22, pos := "more.go:15", after := #[{ on := 3, ground := Ground.data }, { on := 4, ground := Ground.chain }, { on := 0, ground := Ground.phase }, { on := 1, ground := Ground.phase }, { on := 2, ground := Ground.phase }, { on := 3, ground := Ground.phase }, { on := 4, ground := Ground.phase }], guard := none }) (v := ?vna5) rfl (by kernel_rfl) (by kernel_rfl) (by kernel_rfl) (fun _ _ _ h => h) (Or.inl ⟨by rfl, ?yna5⟩) hS ?rna5
  case yna5 => (intro w hS; go_simp; try with_reducible rfl)
  refine wpAnyH_done (by kernel_rfl) ?_ _
  have H2 := Lib.hid hS; clear hS
  have O1 := Lib.hid o1; clear o1
  have O2 := Lib.hid o2; clear o2
  try dsimp only [Act.put]
  have p2 := H2.out.get ⟨w.heap.size, 2, none⟩ (.string sd) (by simp)
  go_wp2_with fail
  refine (D1.out _ _ _ H2.out.b (own_VL O1.out) (own_VL O2.out)).mono ?_
  rintro e w3 ⟨rfl, b⟩
  obtain ⟨kp, kc, rfl⟩ := own_nil _ O1.out
  have H3 := Lib.hid (H2.out.next b); clear b H2 O1 O2 p2 D1
  go_upto_region 4 with fail
  have H4 := Lib.hid (And.intro (H3.out.next ((Below.refl _ w3).alloc (Nat.le_refl _) (.cells #[.slice none 0 0, .int .i64 0, .slice none 0 0] 34))) (heap_alloc_new w3 (.cells #[.slice none 0 0, .int .i64 0, .slice none 0 0] 34))); clear H3
  have d0 := cell_of_row _ w3.heap.size 0 _ _ _ H4.out.2
  have d1 := cell_of_row _ w3.heap.size 1 _ _ _ H4.out.2
  have d2 := cell_of_row _ w3.heap.size 2 _ _ _ H4.out.2
  have c0 := cell_of_row _ (w.heap.size + 1) 0 _ _ _ H4.out.1.rc
  have c1 := cell_of_row _ (w.heap.size + 1) 1 _ _ _ H4.out.1.rc
  have c2 := cell_of_row _ (w.heap.size + 1) 2 _ _ _ H4.out.1.rc
  have c3 := cell_of_row _ (w.heap.size + 1) 3 _ _ _ H4.out.1.rc
  obtain ⟨D, hD⟩ : ∃ D, w3.heap.size = D := ⟨_, rfl⟩
  obtain ⟨W4, hW4⟩ : ∃ W4, w3.alloc (.cells #[.slice none 0 0, .int .i64 0, .slice none 0 0] 34) = W4 := ⟨_, rfl⟩
  rw [hW4] at H4 d0 d1 d2 c0 c1 c2 c3 ⊢
  rw [hD] at d0 d1 d2 ⊢
  clear hD hW4
  go_wp2_with fail
  refine (J1.out _ _ _).mono ?_
  rintro e w5 ⟨rfl, b⟩
  have H5 := Lib.hid (H4.out.1.b.trans (b.mono H4.out.1.b.size)); clear b H4 d0 d1 d2 c0 c1 c2 c3
  go_wp2
  go_ret
  exact ⟨rfl, H5.out⟩
/-- what DealHonest's four complaints are -/
def pick4 (a b c d : Int) (j : Nat) : Int := if j = 0 then a else if j = 1 then b else if j = 2 then c else d
theorem pick4_i {a b c d : Int} (ha : i64 a) (hb : i64 b) (hc : i64 c) (hd : i64 d) (j : Nat) : i64 (pick4 a b c d j) := by
  unfold pick4
  split
  · exact ha
  · split
    · exact hb
    · split
      · exact hc
      · exact hd
theorem pick4_0 (a b c d : Int) : pick4 a b c d 0 = a := rfl
theorem pick4_1 (a b c d : Int) : pick4 a b c d 1 = b := rfl
theorem pick4_2 (a b c d : Int) : pick4 a b c d 2 = c := rfl
theorem pick4_3 (a b c d : Int) : pick4 a b c d 3 = d := rfl
theorem honest_law (w : World) (v0 v1 : Value) (S C : List Int) (sd : ByteArray) (ix ky Cp Z q0 q1 : Int) (hS : AL w v0 S) (hC : AL w v1 C) (hsd : sd.size ≤ 140737488355300)
    (hix : i64 ix) (hky : i64 ky) (hCp : i64 Cp) (hZ : i64 Z) (hq0 : i64 q0) (hq1 : i64 q1) (hT : TS w) :
    Calls Tryz.prog 3 #[.agg #[v0, v1, .string sd], .agg #[.int .i64 ix, .int .i64 ky, .int .i64 Cp, .int .i64 Z], .agg #[.int .i64 q0, .int .i64 q1]] w fun e w' => e = .returned (.bool true) ∧ Below w.heap.size w w' := by
  have hS' := hS
  have hC' := hC
  obtain ⟨p, n, c, rfl, a1, a2, a3, a4, a5, a6⟩ := hS
  obtain ⟨q, m, e, rfl, b1, b2, b3, b4, b5, b6⟩ := hC
  have hn9 : (n : Int) ≤ 9223372036854775807 := by unfold maxLen at a3; omega
  have al : ∀ {W : World} {v : Value} {l : List Int}, AL w v l → Below w.heap.size w W → AL W v l := fun {W v l} h b => by
    obtain ⟨p, n, c, e, h1, h2, h3, h4, h5, h6⟩ := h
    exact ⟨p, n, c, e, h1, h2, h3, h4.below b, h5, h6⟩
  have K1 : Hid (∀ W, Below w.heap.size w W → Calls Tryz.prog 9 #[.agg #[.slice p n c, .slice q m e, .string sd]] W (OwnQ W (KL S))) := Lib.hid fun W b => Keys_any W p q n c m e sd S (al hS' b)
  have N1 : Hid (∀ W, Below w.heap.size w W → Calls Tryz.prog 10 #[.agg #[.slice p n c, .slice q m e, .string sd]] W (OwnQ W (NL S C))) := Lib.hid fun W b => Numbers_any W q p m e n c sd S C a1 hn9 (al hC' b)
  have hKl := KL_len S
  have hNl := NL_len S C
  by_cases hN : (NL S C).length < 1
  · exact honest_no w p q n c m e sd ix ky Cp Z q0 q1 (KL S) (NL S C) hT (Lib.hid fun W h => sanity_any W h) K1 N1
      (Lib.hid fun W v1 v2 _ h1 h2 => Deal_no W v2 v1 (NL S C) (KL S) sd h2 h1 (NL_i S C) (KL_i S) (by omega) (by omega) (gd_none S C hN))
      (Lib.hid fun W kp kc => Judge_zero W ix ky Cp Z kp (KL S).length kc (by omega))
  · have hN1 : 1 ≤ (NL S C).length := by omega
    have hK1 : 1 ≤ (KL S).length := by omega
    obtain ⟨k, hk⟩ : ∃ k : Nat, q0 % ((KL S).length : Int) = (k : Int) := ⟨(q0 % ((KL S).length : Int)).toNat, by
      have := Int.emod_nonneg q0 (b := ((KL S).length : Int)) (by omega); omega⟩
    have hkl : k < (KL S).length := by
      have := Int.emod_lt_of_pos q0 (b := ((KL S).length : Int)) (by omega); omega
    have hkn : k < n := by omega
    obtain ⟨sec, hsec⟩ : ∃ s, S[k]? = some s := ⟨S[k]'(by omega), List.getElem?_eq_getElem _⟩
    have hKk := KL_get S k sec hsec hkl
    obtain ⟨p', c', e1, hcell⟩ := a4.form
    injection e1 with e2 e3 e4
    subst e2 e4
    obtain ⟨sb, so, rfl, hc⟩ := hcell k sec hsec
    have hs := a5 sec (List.mem_of_getElem? hsec)
    have hBk := dbs_get (NL S C) (KL S) (dk sd) (KL S).length k hkl
    have hown := own_fits S C sd sec k hKk
    have hky3 : i64 (gm (pp (pp 4 (dk sd)) (ex sec)) (mdv q1) 2305843009213691579) := gmP_i64 _ _
    have hkyF := pick4_i hky (pp_i (pp 4 (dk sd)) (ex q1)) (pp_i (pp 4 (dk sd)) (ex sec)) hky3
    have hCF := pick4_i hCp (prC_i64 q1 4 (pp 4 (dk sd))) (prC_i64 sec 4 (pp 4 (dk sd))) (prC_i64 sec 4 (pp 4 (dk sd)))
    have hZF := pick4_i hZ (prZ_i64 q1 4 (pp 4 (dk sd))) (prZ_i64 sec 4 (pp 4 (dk sd))) (prZ_i64 sec 4 (pp 4 (dk sd)))
    have hvf := vf_holds sec 4 (pp 4 (dk sd)) mem4 (pt_mem sd)
    refine honest_core w sb so n c m e k q sd ix ky Cp Z q0 q1 sec (pp 4 (ex sec)) (pp 4 (dk sd)) (pp (pp 4 (dk sd)) (ex q1)) (prC q1 4 (pp 4 (dk sd))) (prZ q1 4 (pp 4 (dk sd))) (pp (pp 4 (dk sd)) (ex sec)) (prC sec 4 (pp 4 (dk sd))) (prZ sec 4 (pp 4 (dk sd))) (mdv q1) (gm (pp (pp 4 (dk sd)) (ex sec)) (mdv q1) 2305843009213691579) (pp (pp 4 (dk sd)) (ex sec))
      (pick4 ky (pp (pp 4 (dk sd)) (ex q1)) (pp (pp 4 (dk sd)) (ex sec)) (gm (pp (pp 4 (dk sd)) (ex sec)) (mdv q1) 2305843009213691579))
      (pick4 Cp (prC q1 4 (pp 4 (dk sd))) (prC sec 4 (pp 4 (dk sd))) (prC sec 4 (pp 4 (dk sd))))
      (pick4 Z (prZ q1 4 (pp 4 (dk sd))) (prZ sec 4 (pp 4 (dk sd))) (prZ sec 4 (pp 4 (dk sd))))
      (fun j => jd ((NL S C).map (pp 4)) (pp 4 (ex sec)) (pp 4 (dk sd)) (dbx (NL S C) (KL S) (dk sd) k).data.toList k (pick4 ky (pp (pp 4 (dk sd)) (ex q1)) (pp (pp 4 (dk sd)) (ex sec)) (gm (pp (pp 4 (dk sd)) (ex sec)) (mdv q1) 2305843009213691579) j) (pick4 Cp (prC q1 4 (pp 4 (dk sd))) (prC sec 4 (pp 4 (dk sd))) (prC sec 4 (pp 4 (dk sd))) j) (pick4 Z (prZ q1 4 (pp 4 (dk sd))) (prZ sec 4 (pp 4 (dk sd))) (prZ sec 4 (pp 4 (dk sd))) j))
      (fun j => E6.vf 4 (pp 4 (ex sec)) (pp 4 (dk sd)) (pick4 ky (pp (pp 4 (dk sd)) (ex q1)) (pp (pp 4 (dk sd)) (ex sec)) (gm (pp (pp 4 (dk sd)) (ex sec)) (mdv q1) 2305843009213691579) j) (pick4 Cp (prC q1 4 (pp 4 (dk sd))) (prC sec 4 (pp 4 (dk sd))) (prC sec 4 (pp 4 (dk sd))) j) (pick4 Z (prZ q1 4 (pp 4 (dk sd))) (prZ sec 4 (pp 4 (dk sd))) (prZ sec 4 (pp 4 (dk sd))) j))
      (KL S) (NL S C) ((NL S C).map (pp 4)) (dbs (NL S C) (KL S) (dk sd) (KL S).length) hkn hn9 hKk (by omega) (dbs_len _ _ _ _) hc hT (Lib.hid fun W h => sanity_any W h) K1 N1
      (Lib.hid fun W v1 v2 b h1 h2 => Deal_yes W v2 v1 (NL S C) (KL S) sd h2 h1 (NL_i S C) (KL_i S) hsd (by omega) hN1 (by omega) (NL_q S C) (KL_mem S) (hT.below b))
      (Lib.hid fun W => mod_c W q0 (KL S).length k hk hK1 (by omega) hq0)
      (Lib.hid fun W cp cc bp bc b => Complain_any W q1 _ k cp bp _ cc _ bc (by rw [dbs_len]; exact hkl) hq1 (pt_mem sd) (hT.below b))
      (Lib.hid fun W cp cc bp bc b => Complain_any W sec _ k cp bp _ cc _ bc (by rw [dbs_len]; exact hkl) hs (pt_mem sd) (hT.below b))
      (Lib.hid fun W => same_b (made_c W q1 _ rfl hq1)) (Lib.hid fun W => same_b (refMul_k W _ _ _ _ rfl (pp_i _ _) (mdv_i q1) (by decide)))
      (Lib.hid fun j _ W b => refVerify_any W 4 _ _ _ _ _ (by decide) (pp_i _ _) (pp_i _ _) (hkyF j) (hZF j))
      (Lib.hid fun j _ W kp kc cp cc bp bc b h1 h2 h3 => Judge_any W k _ _ _ _ _ kp cp bp _ kc _ cc _ bc (KL S) _ _ _ h1 h2 h3 hKk hBk (KL_i S) (pp4_i _) (pp_i _ _) (hkyF j) (hCF j) (hZF j) (chk_plan S C sd hN1) (by omega) (by rw [dbs_len]; omega) (by rw [List.length_map]; omega) (hT.below b))
      (Lib.hid ⟨⟨⟨pick4_0 _ _ _ _, pick4_0 _ _ _ _, pick4_0 _ _ _ _⟩, ⟨pick4_1 _ _ _ _, pick4_1 _ _ _ _, pick4_1 _ _ _ _⟩, ⟨pick4_2 _ _ _ _, pick4_2 _ _ _ _, pick4_2 _ _ _ _⟩, ⟨pick4_3 _ _ _ _, pick4_3 _ _ _ _, pick4_3 _ _ _ _⟩⟩, fun j _ => ⟨fun h => ?_, fun h => ?_⟩, ?_⟩)
      (Lib.hid fun W cp cc bp bc => refShared_any W sec _ cp bp _ cc _ bc _ rfl hs (pp_i _ _))
    · show jd _ _ _ _ _ _ _ _ ≠ 1
      rw [h]
      unfold jd
      rw [hown]
      simp only [if_true]
      split <;> decide
    · show jd _ _ _ _ _ _ _ _ ≠ 1
      unfold jd
      rw [h, if_neg (by decide)]
      decide
    · show jd _ _ _ _ _ _ _ _ = 2
      unfold jd
      rw [pick4_2, pick4_2, pick4_2, hvf, hown]
      rfl
end Go.Proofs.YtjfbpmpdcmealaaGreatDoor.D7
