/-
  The walk of the law DealGuilty.
  The law DealGuilty: where no dealing comes out; the law.
-/
import Derived.Test.YtjfbpmpdcmealaaGreatDoorDGlA
namespace Go.Proofs.YtjfbpmpdcmealaaGreatDoor.D7
open Go.RowKit GM SH G4 E6 D7P
set_option maxRecDepth 100000 in
set_option maxHeartbeats 16000000 in
theorem guilty_core (w : World) (sb so n c m e : Nat) (q : Option Addr) (sd : ByteArray) (wh at_ : Int) (K N C : List Int) (pt : Int) (B : List ByteArray) (n0 a : Nat) (s0 : ByteArray) (x : UInt8) (sF oX oY kyF CF ZF jF : Nat → Int) (oB : Nat → Bool)
    (hn9 : (n : Int) ≤ 9223372036854775807) (hln : K.length ≤ n) (hK12 : K.length ≤ 12) (hn0 : n0 < K.length) (hwh : Int.tmod wh (K.length : Int) = (n0 : Int)) (hwb : 0 ≤ wh ∧ wh ≤ 255)
    (hat : Int.tmod at_ 16 = (a : Int)) (ha : a < 16) (hx : 1 + at_ / 16 = (x.toNat : Int)) (hab : 0 ≤ at_ ∧ at_ ≤ 255) (hN1 : 1 ≤ N.length) (hBl : B.length = K.length) (hs0 : B[n0]? = some s0) (h16 : s0.size = 16)
    (hsec : ∀ k, k < K.length → w.cell? ⟨sb, so + k, none⟩ = some (.int .i64 (sF k))) (hT : TS w)
    (S0 : Hid (∀ W, TS W → Calls Tryz.prog 8 #[] W fun e w' => e = .returned (.bool true) ∧ Below W.heap.size W w'))
    (K1 : Hid (∀ W, Below w.heap.size w W → Calls Tryz.prog 9 #[.agg #[.slice (some ⟨sb, so, none⟩) n c, .slice q m e, .string sd]] W (OwnQ W K)))
    (N1 : Hid (∀ W, Below w.heap.size w W → Calls Tryz.prog 10 #[.agg #[.slice (some ⟨sb, so, none⟩) n c, .slice q m e, .string sd]] W (OwnQ W N)))
    (D1 : Hid (∀ W cv kv, SL W cv N → SL W kv K → Calls Tryz.prog 27 #[cv, kv, .string sd] W (PairO W true C pt B)))
    (O1 : Hid (∀ k, k < K.length → ∀ W cp cc bp bc, Below w.heap.size w W → SL W (.slice cp C.length cc) C → ZL W (.slice bp B.length bc) (B.set n0 ⟨(s0.data.toList.set a (s0.data.toList[a]?.getD 0 ^^^ x)).toArray⟩) → Calls Tryz.prog 26 #[.int .i64 (sF k), .agg #[.slice cp C.length cc, .int .i64 pt, .slice bp B.length bc], .int .i64 (k : Int)] W fun e w' => e = .returned (.tuple #[.agg #[.int .i64 (oX k), .int .i64 (oY k)], .bool (oB k)]) ∧ Below W.heap.size W w'))
    (C1 : Hid (∀ k, k < K.length → ∀ W cp cc bp bc, Below w.heap.size w W → Calls Tryz.prog 14 #[.int .i64 (sF k), .agg #[.slice cp C.length cc, .int .i64 pt, .slice bp B.length bc], .int .i64 (k : Int)] W fun e w' => e = .returned (.agg #[.int .i64 (k : Int), .int .i64 (kyF k), .int .i64 (CF k), .int .i64 (ZF k)]) ∧ Below W.heap.size W w'))
    (J1 : Hid (∀ k, k < K.length → ∀ W kp kc cp cc bp bc, Below w.heap.size w W → SL W (.slice kp K.length kc) K → SL W (.slice cp C.length cc) C → ZL W (.slice bp B.length bc) (B.set n0 ⟨(s0.data.toList.set a (s0.data.toList[a]?.getD 0 ^^^ x)).toArray⟩) → Calls Tryz.prog 12 #[.slice kp K.length kc, .agg #[.slice cp C.length cc, .int .i64 pt, .slice bp B.length bc], .agg #[.int .i64 (k : Int), .int .i64 (kyF k), .int .i64 (CF k), .int .i64 (ZF k)]] W fun e w' => e = .returned (.int .i64 (jF k)) ∧ Below W.heap.size W w'))
    (HF : Hid (∀ k, k < K.length → (k = n0 → oB k = false ∧ jF k = 1) ∧ (k ≠ n0 → oB k = true ∧ jF k = 2))) :
    Calls Tryz.prog 7 #[.agg #[.slice (some ⟨sb, so, none⟩) n c, .slice q m e, .string sd], .int .u8 wh, .int .u8 at_] w fun e w' => e = .returned (.bool true) ∧ Below w.heap.size w w' := by
  obtain ⟨s2, hs2⟩ : ∃ s2, ByteArray.mk ((s0.data.toList.set a (s0.data.toList[a]?.getD 0 ^^^ x)).toArray) = s2 := ⟨_, rfl⟩
  rw [hs2] at O1 J1
  have HS2 := Lib.hid hs2; clear hs2
  obtain ⟨W, hW⟩ : ∃ W, w.alloc (.cells #[.slice (some ⟨sb, so, none⟩) n c, .slice q m e, .string sd] 24) = W := ⟨_, rfl⟩
  have hsb : sb < w.heap.size := World.block_lt_of_cell? _ _ (hsec n0 hn0)
  have K0 : GQ w [(⟨w.heap.size, 0, none⟩, .slice (some ⟨sb, so, none⟩) n c), (⟨w.heap.size, 1, none⟩, .slice q m e), (⟨w.heap.size, 2, none⟩, .string sd)] sb so K.length sF W := by
    have a1 := (CK.start w).cells #[.slice (some ⟨sb, so, none⟩) n c, .slice q m e, .string sd] 24 _ rfl
    rw [hW] at a1
    refine ⟨a1.b, by rw [← hW]; simp, fun x hx => ?_, fun k hk => (a1.b.cell (p := ⟨sb, so + k, none⟩) hsb).trans (hsec k hk)⟩
    simp only [List.mem_cons, List.not_mem_nil, or_false] at hx
    rcases hx with rfl | rfl | rfl
    all_goals exact ⟨by dsimp only; omega, a1.c _ (by simp)⟩
  have HK := Lib.hid K0; clear K0
  have HT0 := Lib.hid hT
  have HSB := Lib.hid hsb
  have HX := Lib.hid (And.intro hwh (And.intro hwb (And.intro hat (And.intro ha (And.intro hx hab)))))
  have HB0 := Lib.hid (And.intro hBl (And.intro hs0 h16))
  clear hT hsec hsb hwh hwb hat ha hx hab hs0 h16 hBl
  go_enter Tryz.func7, Tryz.ntmps7
  go_upto_region 1 with fail
  clear hW
  go_wp2_with fail
  refine (S0.out _ (HT0.out.below HK.out.b)).mono ?_
  rintro e w1 ⟨rfl, b⟩
  have H1 := Lib.hid (HK.out.next b); clear b HK S0
  go_upto_region 2 with fail
  refine wp_region_held_drew (S := GQ w [(⟨w.heap.size, 0, none⟩, .slice (some ⟨sb, so, none⟩) n c), (⟨w.heap.size, 1, none⟩, .slice q m e), (⟨w.heap.size, 2, none⟩, .string sd)] sb so K.length sF) (by kernel_rfl) H1.out.drew (fun hS => ?_)
  clear H1
  refine wpAnyH_take (i := 0) (oi := { dst := some 19, op := Op.load 24 (Operand.tmp 3), type := 24, pos := "law.go:148", after := #[], guard := none }) (v := .agg #[.slice (some ⟨sb, so, none⟩) n c, .slice q m e, .string sd]) rfl (by kernel_rfl) (by kernel_rfl) (by kernel_rfl) (fun _ _ _ h => h) (Or.inl ⟨by rfl, ?yhaa0⟩) hS ?rhaa0
  case yhaa0 => (intro w' hS; have cf := (show w'.cell? ⟨w.heap.size, 0, none⟩ = some (.slice (some ⟨sb, so, none⟩) n c) ∧ w'.cell? ⟨w.heap.size, 1, none⟩ = some (.slice q m e) ∧ w'.cell? ⟨w.heap.size, 2, none⟩ = some (.string sd) from ⟨hS.get _ _ (by simp), hS.get _ _ (by simp), hS.get _ _ (by simp)⟩); go_simp; try with_reducible rfl)
  refine wpAnyH_take (i := 2) (oi := { dst := some 21, op := Op.load 24 (Operand.tmp 3), type := 24, pos := "law.go:148", after := #[], guard := none }) (v := .agg #[.slice (some ⟨sb, so, none⟩) n c, .slice q m e, .string sd]) rfl (by kernel_rfl) (by kernel_rfl) (by kernel_rfl) (fun _ _ _ h => h) (Or.inl ⟨by rfl, ?yhaa2⟩) hS ?rhaa2
  case yhaa2 => (intro w' hS; have cf := (show w'.cell? ⟨w.heap.size, 0, none⟩ = some (.slice (some ⟨sb, so, none⟩) n c) ∧ w'.cell? ⟨w.heap.size, 1, none⟩ = some (.slice q m e) ∧ w'.cell? ⟨w.heap.size, 2, none⟩ = some (.string sd) from ⟨hS.get _ _ (by simp), hS.get _ _ (by simp), hS.get _ _ (by simp)⟩); go_simp; try with_reducible rfl)
  go_simp
  refine wpAnyH_ready (rs := [1]) (by kernel_rfl) (by simp) ?_
  refine AllReadyH.cons (o := { dst := some 20, op := Op.call { callee := Callee.value (Operand.func 9), args := #[Operand.tmp 19], argTypes := #[24] }, type := 22, pos := "law.go:148", after := #[{ on := 0, ground := Ground.data }], guard := none }) rfl (fun K hK => ?_) AllReadyH.nil
  go_simp
  go_at_call 9
  refine (K1.out _ hS.b).mono ?_
  rintro e w' ⟨v1, rfl, o1, b⟩
  have o1 := own_base o1 hS.s
  have hS2 := hS.next b
  clear b hS
  try go_simp
  refine hK.out _ _ hS2 (fun hS => ?_)
  clear hK K hS2
  refine wpAnyH_ready (rs := [3]) (by kernel_rfl) (by simp) ?_
  refine AllReadyH.cons (o := { dst := some 22, op := Op.call { callee := Callee.value (Operand.func 10), args := #[Operand.tmp 21], argTypes := #[24] }, type := 22, pos := "law.go:148", after := #[{ on := 2, ground := Ground.data }, { on := 1, ground := Ground.chain }], guard := none }) rfl (fun K hK => ?_) AllReadyH.nil
  go_simp
  go_at_call 10
  refine (N1.out _ hS.b).mono ?_
  rintro e w' ⟨v2, rfl, o2, b⟩
  have o2 := own_base o2 hS.s
  have o1 := own_below o1 b
  have hS2 := hS.next b
  clear b hS
  try go_simp
  refine hK.out _ _ hS2 (fun hS => ?_)
  clear hK K hS2
  refine wpAnyH_take (i := 4) (oi := { dst := some 8, op := Op.assign (Operand.tmp 20), type := 22, pos := "law.go:148", after := #[{ on := 1, ground := Ground.data }, { on := 3, ground := Ground.chain }, { on := 0, ground := Ground.phase }, { on := 1, ground := Ground.phase }, { on := 2, ground := Ground.textOnly Departure.lateStores }, { on := 3, ground := Ground.textOnly Departure.lateStoresUnsure }], guard := none }) (v := ?vhaa4) rfl (by kernel_rfl) (by kernel_rfl) (by kernel_rfl) (fun _ _ _ h => h) (Or.inl ⟨by rfl, ?yhaa4⟩) hS ?rhaa4
  case yhaa4 => (intro w hS; go_simp; try with_reducible rfl)
  go_simp
  refine wpAnyH_take (i := 5) (oi := { dst := some 9, op := Op.assign (Operand.tmp 22), type := 22, pos := "law.go:148", after := #[{ on := 3, ground := Ground.data }, { on := 4, ground := Ground.chain }, { on := 0, ground := Ground.phase }, { on := 1, ground := Ground.phase }, { on := 2, ground := Ground.phase }, { on := 3, ground := Ground.phase }, { on := 4, ground := Ground.phase }], guard := none }) (v := ?vhaa5) rfl (by kernel_rfl) (by kernel_rfl) (by kernel_rfl) (fun _ _ _ h => h) (Or.inl ⟨by rfl, ?yhaa5⟩) hS ?rhaa5
  case yhaa5 => (intro w hS; go_simp; try with_reducible rfl)
  refine wpAnyH_done (by kernel_rfl) ?_ _
  obtain ⟨kp, kc, rfl⟩ := own_nil _ o1
  obtain ⟨np, nc, rfl⟩ := own_nil _ o2
  have H2 := Lib.hid hS; clear hS
  have O1k := Lib.hid o1; clear o1
  have O2n := Lib.hid o2; clear o2
  try dsimp only [Act.put]
  have hNe : ((N.length : Int) == 0) = false := by simp; intro h; subst h; simp at hN1
  have p2 := H2.out.get ⟨w.heap.size, 2, none⟩ (.string sd) (by simp)
  go_wp2_with fail
  refine (D1.out _ _ _ (own_VL O2n.out) (own_VL O1k.out)).mono ?_
  rintro e w3 ⟨cp, cc, bp, bc, rfl, b, so2, zo⟩
  have so2 := own_base so2 H2.out.s
  have zo := own_base zo H2.out.s
  have hk := own_below O1k.out b
  have H3 := Lib.hid (H2.out.next b)
  clear b H2 p2 D1 O1k O2n hNe
  go_upto_region 6 with fail
  have al := (Below.refl _ w3).alloc (Nat.le_refl _) (.cells #[.slice cp C.length cc, .int .i64 pt, .slice bp B.length bc] 34)
  have H4 := Lib.hid (GV.mk (H3.out.next al) (own_below hk al) (own_below so2 al) (own_below zo al) (heap_alloc_new w3 (.cells #[.slice cp C.length cc, .int .i64 pt, .slice bp B.length bc] 34)))
  clear H3 hk so2 zo al
  obtain ⟨D, hD⟩ : ∃ D, w3.heap.size = D := ⟨_, rfl⟩
  obtain ⟨W4, hW4⟩ : ∃ W4, w3.alloc (.cells #[.slice cp C.length cc, .int .i64 pt, .slice bp B.length bc] 34) = W4 := ⟨_, rfl⟩
  rw [hW4] at H4 ⊢
  rw [hD] at H4 ⊢
  clear hD hW4
  obtain ⟨g, bc', hbv, _, _⟩ := H4.out.hB.form (by have := HB0.out.1; omega)
  injection hbv with e1 _ e3
  subst e1 e3
  have d2 := H4.out.d.2.2
  have hcb : W4.cell? ⟨g, n0, none⟩ = some (.string s0) := by
    rw [H4.out.hB.cellAt n0 (by have := HB0.out.1; omega), List.getElem?_map, HB0.out.2.1]; rfl
  have hm := HX.out.1
  have hw1 := HX.out.2.1.1
  have hw2 := HX.out.2.1.2
  go_upto_region 7 with fail
  clear hm hw1 hw2
  have hnB : n0 < B.length := by have := HB0.out.1; omega
  obtain ⟨bcap, w5, hrun, b5, hcap, hby, hbf⟩ := bytes_box W4 s0 HB0.out.2.2
  have HBF := Lib.hid (And.intro b5 (And.intro hcap (And.intro hby hbf)))
  clear b5 hcap hby hbf
  go_upto_region 8 with fail
  clear hrun d2 hcb
  obtain ⟨gb, hgb⟩ : ∃ gb, W4.heap.size = gb := ⟨_, rfl⟩
  have ca := HBF.out.2.2.1 a HX.out.2.2.2.1
  have fa := HBF.out.2.2.2 a HX.out.2.2.2.1
  rw [hgb] at ca fa ⊢
  have hat := HX.out.2.2.1
  have ha := HX.out.2.2.2.1
  have ha0 := HX.out.2.2.2.2.2.1
  have ha1 := HX.out.2.2.2.2.2.2
  go_upto_region 9 with fail
  have hz : bits .xor .u8 ((s0.data[a]?.getD 0).toNat : Nat) (1 + at_ / 16) = ((s0.data.toList[a]?.getD 0 ^^^ x).toNat : Int) := by
    rw [HX.out.2.2.2.2.1, xor8']; simp
  rw [hz]
  have hrun := box_back w5 gb bcap a s0 x ha HB0.out.2.2 (by rw [← hgb]; exact HBF.out.2.2.1) _ rfl
  have H6 := Lib.hid (H4.out.next (HBF.out.1.setCell (p := ⟨gb, a, none⟩) (show W4.heap.size ≤ gb by omega) (.int .u8 ((s0.data.toList[a]?.getD 0 ^^^ x).toNat : Nat))))
  clear ca fa hat ha ha0 ha1 hz HBF H4 hgb
  rw [HS2.out] at hrun
  obtain ⟨W6, hW6⟩ : ∃ W6, w5.setCell ⟨gb, a, none⟩ (.int .u8 ((s0.data.toList[a]?.getD 0 ^^^ x).toNat : Nat)) = W6 := ⟨_, rfl⟩
  rw [hW6] at hrun H6 ⊢
  clear hW6 HS2
  have d2 := H6.out.d.2.2
  have cB : W6.cell? ⟨g, n0, none⟩ = some (.string s0) := by
    rw [H6.out.hB.cellAt n0 (by omega), List.getElem?_map, HB0.out.2.1]; rfl
  have h7 := GV.setB HSB.out H6.out n0 s2
  have fB := h7.1
  have H7 := Lib.hid h7.2
  clear h7 H6
  go_upto_region 10 with fail
  clear hrun d2 cB fB hnB
  obtain ⟨W7, hW7⟩ : ∃ W7, W6.setCell ⟨g, n0, none⟩ (.string s2) = W7 := ⟨_, rfl⟩
  obtain ⟨B2, hB2⟩ : ∃ B2, B.set n0 s2 = B2 := ⟨_, rfl⟩
  obtain ⟨bp, hbp⟩ : ∃ bp : Option Addr, some ⟨g, 0, none⟩ = bp := ⟨_, rfl⟩
  rw [hW7, hB2, hbp] at H7
  rw [hW7, hbp]
  rw [hB2] at O1 J1
  clear hW7 hB2 hbp
  go_wp2_with fail
  go_loopw [67] (fun i wx => ∃ k : Nat, k ≤ K.length ∧ i = .int .i64 (k : Int) ∧ Hid (GV w [(⟨w.heap.size, 0, none⟩, .slice (some ⟨sb, so, none⟩) n c), (⟨w.heap.size, 1, none⟩, .slice q m e), (⟨w.heap.size, 2, none⟩, .string sd)] sb so K.length sF (.slice kp K.length kc) (.slice cp C.length cc) (.slice bp B.length bc) K C B2 D pt wx)) (fun i _ => K.length - (match i with | .int _ i => i.toNat | _ => 0))
  case atStart => exact ⟨0, Nat.zero_le _, rfl, H7⟩
  case round =>
    clear H7
    obtain ⟨k, hk, rfl, HR⟩ := hrel
    by_cases hlt : k < K.length
    · have hkln : k < n := by omega
      by_cases hkn : k = n0
      · obtain ⟨hb, hj⟩ := (HF.out k hlt).1 hkn
        have Ok := O1.out k hlt
        have Ck := Lib.hid (C1.out k hlt)
        have Jk := J1.out k hlt
        rw [hb] at Ok
        rw [hj] at Jk
        replace Ok := Lib.hid Ok
        replace Jk := Lib.hid Jk
        have hbe : ((k : Int) == (n0 : Int)) = true := by simp; omega
        clear hb hj hkn
        go_upto_region 13 with fail
        refine wp_region_held_drew (S := GV w [(⟨w.heap.size, 0, none⟩, .slice (some ⟨sb, so, none⟩) n c), (⟨w.heap.size, 1, none⟩, .slice q m e), (⟨w.heap.size, 2, none⟩, .string sd)] sb so K.length sF (.slice kp K.length kc) (.slice cp C.length cc) (.slice bp B.length bc) K C B2 D pt) (by kernel_rfl) HR.out.drew (fun hS => ?_)
        clear HR
        refine wpAnyH_take (i := 0) (oi := { dst := some 71, op := Op.fieldAddr 24 (Operand.tmp 3) 0, type := 0, pos := "law.go:158", after := #[], guard := none }) (v := ?vhxb0) rfl (by kernel_rfl) (by kernel_rfl) (by kernel_rfl) (fun _ _ _ h => h) (Or.inl ⟨by rfl, ?yhxb0⟩) hS ?rhxb0
        case yhxb0 => (intro w hS; go_simp; try with_reducible rfl)
        refine wpAnyH_take (i := 2) (oi := { dst := some 73, op := Op.move (Operand.tmp 14), type := 3, pos := "law.go:158", after := #[], guard := none }) (v := ?vhxb2) rfl (by kernel_rfl) (by kernel_rfl) (by kernel_rfl) (fun _ _ _ h => h) (Or.inl ⟨by rfl, ?yhxb2⟩) hS ?rhxb2
        case yhxb2 => (intro w hS; go_simp; try with_reducible rfl)
        refine wpAnyH_take (i := 5) (oi := { dst := some 76, op := Op.load 34 (Operand.tmp 10), type := 34, pos := "law.go:158", after := #[], guard := none }) (v := .agg #[.slice cp C.length cc, .int .i64 pt, .slice bp B.length bc]) rfl (by kernel_rfl) (by kernel_rfl) (by kernel_rfl) (fun _ _ _ h => h) (Or.inl ⟨by rfl, ?yhxb5⟩) hS ?rhxb5
        case yhxb5 => (intro w' hS; have cf := hS.d; go_simp; try with_reducible rfl)
        refine wpAnyH_take (i := 6) (oi := { dst := some 77, op := Op.move (Operand.tmp 14), type := 3, pos := "law.go:158", after := #[], guard := none }) (v := ?vhxb6) rfl (by kernel_rfl) (by kernel_rfl) (by kernel_rfl) (fun _ _ _ h => h) (Or.inl ⟨by rfl, ?yhxb6⟩) hS ?rhxb6
        case yhxb6 => (intro w hS; go_simp; try with_reducible rfl)
        go_simp
        refine wpAnyH_take (i := 1) (oi := { dst := some 72, op := Op.load 22 (Operand.tmp 71), type := 22, pos := "law.go:158", after := #[{ on := 0, ground := Ground.data }], guard := none }) (v := .slice (some ⟨sb, so, none⟩) n c) rfl (by kernel_rfl) (by kernel_rfl) (by kernel_rfl) (fun _ _ _ h => h) (Or.inl ⟨by rfl, ?yhxb1⟩) hS ?rhxb1
        case yhxb1 => (intro w' hS; have cf := hS.get ⟨w.heap.size, 0, none⟩ (.slice (some ⟨sb, so, none⟩) n c) (by simp); go_simp; try with_reducible rfl)
        go_simp
        refine wpAnyH_take (i := 3) (oi := { dst := some 74, op := Op.indexAddr 22 (Operand.tmp 72) (Operand.tmp 73), type := 0, pos := "law.go:158", after := #[{ on := 1, ground := Ground.data }, { on := 2, ground := Ground.data }], guard := none }) (v := ?vhxb3) rfl (by kernel_rfl) (by kernel_rfl) (by kernel_rfl) (fun _ _ _ h => h) (Or.inl ⟨by rfl, ?yhxb3⟩) hS ?rhxb3
        case yhxb3 => (intro w hS; go_simp; try with_reducible rfl)
        go_simp
        refine wpAnyH_take (i := 4) (oi := { dst := some 75, op := Op.load 3 (Operand.tmp 74), type := 3, pos := "law.go:158", after := #[{ on := 3, ground := Ground.data }], guard := none }) (v := .int .i64 (sF k)) rfl (by kernel_rfl) (by kernel_rfl) (by kernel_rfl) (fun _ _ _ h => h) (Or.inl ⟨by rfl, ?yhxb4⟩) hS ?rhxb4
        case yhxb4 => (intro w' hS; have cf := hS.q.sec k hlt; go_simp; try with_reducible rfl)
        go_simp
        refine wpAnyH_ready (rs := [7, 11]) (by kernel_rfl) (by simp) ?_
        refine AllReadyH.cons (o := { dst := some 78, op := Op.call { callee := Callee.value (Operand.func 26), args := #[Operand.tmp 75, Operand.tmp 76, Operand.tmp 77], argTypes := #[3, 34, 3] }, type := 56, pos := "law.go:158", after := #[{ on := 4, ground := Ground.data }, { on := 5, ground := Ground.data }, { on := 6, ground := Ground.data }], guard := none }) rfl (fun Ka hKa => ?_) (AllReadyH.cons (o := { dst := some 15, op := Op.alloc 55, type := 0, pos := "law.go:158", after := #[], guard := none }) rfl (fun Kb hKb => ?_) AllReadyH.nil)
        ·
          go_simp
          go_at_call 26
          refine (Ok.out _ _ _ _ _ hS.b (own_VL hS.hC) (own_VL hS.hB)).mono ?_
          rintro e w' ⟨rfl, b⟩
          have hS2 := hS.next b
          try go_simp
          clear hS b
          refine hKa.out _ _ hS2 (fun hS => ?_)
          clear hKa Ka hS2
          refine wpAnyH_take (i := 8) (oi := { dst := some 70, op := Op.move (Operand.tmp 78), type := 56, pos := "law.go:158", after := #[{ on := 7, ground := Ground.data }], guard := none }) (v := ?vhxd8) rfl (by kernel_rfl) (by kernel_rfl) (by kernel_rfl) (fun _ _ _ h => h) (Or.inl ⟨by rfl, ?yhxd8⟩) hS ?rhxd8
          case yhxd8 => (intro w hS; go_simp; try with_reducible rfl)
          go_simp
          refine wpAnyH_take (i := 9) (oi := { dst := some 79, op := Op.extract (Operand.tmp 70) 0, type := 55, pos := "law.go:158", after := #[{ on := 8, ground := Ground.data }], guard := none }) (v := ?vhxd9) rfl (by kernel_rfl) (by kernel_rfl) (by kernel_rfl) (fun _ _ _ h => h) (Or.inl ⟨by rfl, ?yhxd9⟩) hS ?rhxd9
          case yhxd9 => (intro w hS; go_simp; try with_reducible rfl)
          refine wpAnyH_take (i := 10) (oi := { dst := some 80, op := Op.extract (Operand.tmp 70) 1, type := 4, pos := "law.go:158", after := #[{ on := 8, ground := Ground.data }, { on := 12, ground := Ground.gcOnly Departure.lateStores }], guard := none }) (v := ?vhxd10) rfl (by kernel_rfl) (by kernel_rfl) (by kernel_rfl) (fun _ _ _ h => h) (Or.inl ⟨by rfl, ?yhxd10⟩) hS ?rhxd10
          case yhxd10 => (intro w hS; go_simp; try with_reducible rfl)
          go_simp
          refine wpAnyH_ready (rs := [11]) (by kernel_rfl) (by simp) ?_
          refine AllReadyH.cons (o := { dst := some 15, op := Op.alloc 55, type := 0, pos := "law.go:158", after := #[], guard := none }) rfl (fun Kb hKb => ?_) AllReadyH.nil
          go_simp
          have hrow := heap_alloc_new w' (.cells #[.int .i64 0, .int .i64 0] 55)
          have hS2 := hS.next ((Below.refl _ w').alloc (Nat.le_refl _) (.cells #[.int .i64 0, .int .i64 0] 55))
          refine hKb.out _ _ hS2 (fun _ => ?_)
          clear hKb Kb hS2
          refine wpAnyH_ready (rs := [12]) (by kernel_rfl) (by simp) ?_
          refine AllReadyH.cons (o := { dst := none, op := Op.store 55 (Operand.tmp 15) (Operand.tmp 79), type := 0, pos := "law.go:158", after := #[{ on := 11, ground := Ground.data }, { on := 9, ground := Ground.data }, { on := 7, ground := Ground.chain }, { on := 0, ground := Ground.phase }, { on := 1, ground := Ground.phase }, { on := 2, ground := Ground.phase }, { on := 3, ground := Ground.phase }, { on := 4, ground := Ground.phase }, { on := 5, ground := Ground.phase }, { on := 6, ground := Ground.phase }, { on := 7, ground := Ground.phase }, { on := 8, ground := Ground.phase }, { on := 9, ground := Ground.phase }, { on := 10, ground := Ground.textOnly Departure.lateStores }, { on := 11, ground := Ground.phase }], guard := none }) rfl (fun K9 hK9 => ?_) AllReadyH.nil
          rw [if_pos (by rfl)]
          refine wp_store_row 55 (.tmp 15) (.tmp 79) rfl w'.heap.size (#[.int .i64 (oX k), .int .i64 (oY k)]) (by first | rfl | (simp [Act.eval])) (by first | rfl | (simp [Act.eval])) 55 _ hrow (infoSh2 _ _).out (sh_sz2 _ _ rfl) (sh_one2 _ _) ?_
          clear hrow
          have hS3 := hS.next (Below.setRow' ((Below.refl _ w').alloc (Nat.le_refl _) (.cells #[.int .i64 0, .int .i64 0] 55)) (Nat.le_refl w'.heap.size) (#[.int .i64 (oX k), .int .i64 (oY k)]))
          clear hS
          refine hK9.out _ _ hS3 (fun hS => ?_)
          clear hK9 K9 hS3
          refine wpAnyH_take (i := 13) (oi := { dst := some 16, op := Op.assign (Operand.tmp 80), type := 4, pos := "law.go:158", after := #[{ on := 10, ground := Ground.data }, { on := 12, ground := Ground.chain }, { on := 0, ground := Ground.phase }, { on := 1, ground := Ground.phase }, { on := 2, ground := Ground.phase }, { on := 3, ground := Ground.phase }, { on := 4, ground := Ground.phase }, { on := 5, ground := Ground.phase }, { on := 6, ground := Ground.phase }, { on := 7, ground := Ground.phase }, { on := 8, ground := Ground.phase }, { on := 9, ground := Ground.phase }, { on := 10, ground := Ground.phase }, { on := 11, ground := Ground.phase }, { on := 12, ground := Ground.phase }], guard := none }) (v := ?vhxd13) rfl (by kernel_rfl) (by kernel_rfl) (by kernel_rfl) (fun _ _ _ h => h) (Or.inl ⟨by rfl, ?yhxd13⟩) hS ?rhxd13
          case yhxd13 => (intro w hS; go_simp; try with_reducible rfl)
          go_simp
          refine wpAnyH_done (by kernel_rfl) ?_ _
          have HS13 := Lib.hid hS; clear hS
          try dsimp only [Act.put]
          go_upto_region 17 with fail
          refine wp_region_held_drew (S := GV w [(⟨w.heap.size, 0, none⟩, .slice (some ⟨sb, so, none⟩) n c), (⟨w.heap.size, 1, none⟩, .slice q m e), (⟨w.heap.size, 2, none⟩, .string sd)] sb so K.length sF (.slice kp K.length kc) (.slice cp C.length cc) (.slice bp B.length bc) K C B2 D pt) (by kernel_rfl) HS13.out.drew (fun hS => ?_)
          clear HS13
          refine wpAnyH_take (i := 0) (oi := { dst := some 82, op := Op.move (Operand.tmp 16), type := 4, pos := "law.go:163", after := #[], guard := none }) (v := ?vhzh0) rfl (by kernel_rfl) (by kernel_rfl) (by kernel_rfl) (fun _ _ _ h => h) (Or.inl ⟨by rfl, ?yhzh0⟩) hS ?rhzh0
          case yhzh0 => (intro w hS; go_simp; try with_reducible rfl)
          refine wpAnyH_take (i := 1) (oi := { dst := some 83, op := Op.move (Operand.tmp 14), type := 3, pos := "law.go:163", after := #[], guard := none }) (v := ?vhzh1) rfl (by kernel_rfl) (by kernel_rfl) (by kernel_rfl) (fun _ _ _ h => h) (Or.inl ⟨by rfl, ?yhzh1⟩) hS ?rhzh1
          case yhzh1 => (intro w hS; go_simp; try with_reducible rfl)
          refine wpAnyH_take (i := 2) (oi := { dst := some 84, op := Op.move (Operand.tmp 12), type := 3, pos := "law.go:163", after := #[], guard := none }) (v := ?vhzh2) rfl (by kernel_rfl) (by kernel_rfl) (by kernel_rfl) (fun _ _ _ h => h) (Or.inl ⟨by rfl, ?yhzh2⟩) hS ?rhzh2
          case yhzh2 => (intro w hS; go_simp; try with_reducible rfl)
          go_simp
          refine wpAnyH_take (i := 3) (oi := { dst := some 85, op := Op.binOp BinOp.eql 3 (Operand.tmp 83) (Operand.tmp 84) 3, type := 4, pos := "law.go:163", after := #[{ on := 1, ground := Ground.data }, { on := 2, ground := Ground.data }], guard := none }) (v := ?vhzh3) rfl (by kernel_rfl) (by kernel_rfl) (by kernel_rfl) (fun _ _ _ h => h) (Or.inl ⟨by rfl, ?yhzh3⟩) hS ?rhzh3
          case yhzh3 => (intro w hS; go_simp; try with_reducible rfl)
          go_simp
          refine wpAnyH_take (i := 4) (oi := { dst := some 86, op := Op.binOp BinOp.eql 4 (Operand.tmp 82) (Operand.tmp 85) 4, type := 4, pos := "law.go:163", after := #[{ on := 0, ground := Ground.data }, { on := 3, ground := Ground.data }], guard := none }) (v := ?vhzh4) rfl (by kernel_rfl) (by kernel_rfl) (by kernel_rfl) (fun _ _ _ h => h) (Or.inl ⟨by rfl, ?yhzh4⟩) hS ?rhzh4
          case yhzh4 => (intro w hS; go_simp; try with_reducible rfl)
          go_simp
          refine wpAnyH_take (i := 5) (oi := { dst := some 87, op := Op.move (Operand.tmp 86), type := 4, pos := "law.go:163", after := #[{ on := 4, ground := Ground.data }], guard := none }) (v := ?vhzh5) rfl (by kernel_rfl) (by kernel_rfl) (by kernel_rfl) (fun _ _ _ h => h) (Or.inl ⟨by rfl, ?yhzh5⟩) hS ?rhzh5
          case yhzh5 => (intro w hS; go_simp; try with_reducible rfl)
          go_simp
          refine wpAnyH_take (i := 6) (oi := { dst := some 88, op := Op.move (Operand.tmp 8), type := 22, pos := "law.go:163", after := #[{ on := 5, ground := Ground.guard }], guard := some (5, false) }) (v := ?vhzh6) rfl (by kernel_rfl) (by kernel_rfl) (by kernel_rfl) (fun _ _ _ h => h) (Or.inl ⟨by rfl, ?yhzh6⟩) hS ?rhzh6
          case yhzh6 => (intro w hS; go_simp; try with_reducible rfl)
          refine wpAnyH_take (i := 7) (oi := { dst := some 89, op := Op.load 34 (Operand.tmp 10), type := 34, pos := "law.go:163", after := #[{ on := 5, ground := Ground.guard }], guard := some (5, false) }) (v := .agg #[.slice cp C.length cc, .int .i64 pt, .slice bp B.length bc]) rfl (by kernel_rfl) (by kernel_rfl) (by kernel_rfl) (fun _ _ _ h => h) (Or.inl ⟨by rfl, ?yhzh7⟩) hS ?rhzh7
          case yhzh7 => (intro w' hS; have cf := hS.d; go_simp; try with_reducible rfl)
          refine wpAnyH_take (i := 8) (oi := { dst := some 90, op := Op.fieldAddr 24 (Operand.tmp 3) 0, type := 0, pos := "law.go:163", after := #[{ on := 5, ground := Ground.guard }], guard := some (5, false) }) (v := ?vhzh8) rfl (by kernel_rfl) (by kernel_rfl) (by kernel_rfl) (fun _ _ _ h => h) (Or.inl ⟨by rfl, ?yhzh8⟩) hS ?rhzh8
          case yhzh8 => (intro w hS; go_simp; try with_reducible rfl)
          refine wpAnyH_take (i := 10) (oi := { dst := some 92, op := Op.move (Operand.tmp 14), type := 3, pos := "law.go:163", after := #[{ on := 5, ground := Ground.guard }], guard := some (5, false) }) (v := ?vhzh10) rfl (by kernel_rfl) (by kernel_rfl) (by kernel_rfl) (fun _ _ _ h => h) (Or.inl ⟨by rfl, ?yhzh10⟩) hS ?rhzh10
          case yhzh10 => (intro w hS; go_simp; try with_reducible rfl)
          refine wpAnyH_take (i := 13) (oi := { dst := some 95, op := Op.load 34 (Operand.tmp 10), type := 34, pos := "law.go:163", after := #[{ on := 5, ground := Ground.guard }], guard := some (5, false) }) (v := .agg #[.slice cp C.length cc, .int .i64 pt, .slice bp B.length bc]) rfl (by kernel_rfl) (by kernel_rfl) (by kernel_rfl) (fun _ _ _ h => h) (Or.inl ⟨by rfl, ?yhzh13⟩) hS ?rhzh13
          case yhzh13 => (intro w' hS; have cf := hS.d; go_simp; try with_reducible rfl)
          refine wpAnyH_take (i := 14) (oi := { dst := some 96, op := Op.move (Operand.tmp 14), type := 3, pos := "law.go:163", after := #[{ on := 5, ground := Ground.guard }], guard := some (5, false) }) (v := ?vhzh14) rfl (by kernel_rfl) (by kernel_rfl) (by kernel_rfl) (fun _ _ _ h => h) (Or.inl ⟨by rfl, ?yhzh14⟩) hS ?rhzh14
          case yhzh14 => (intro w hS; go_simp; try with_reducible rfl)
          refine wpAnyH_take (i := 17) (oi := { dst := some 99, op := Op.move (Operand.tmp 17), type := 3, pos := "law.go:163", after := #[{ on := 5, ground := Ground.guard }], guard := some (5, false) }) (v := ?vhzh17) rfl (by kernel_rfl) (by kernel_rfl) (by kernel_rfl) (fun _ _ _ h => h) (Or.inl ⟨by rfl, ?yhzh17⟩) hS ?rhzh17
          case yhzh17 => (intro w hS; go_simp; try with_reducible rfl)
          go_simp
          refine wpAnyH_take (i := 9) (oi := { dst := some 91, op := Op.load 22 (Operand.tmp 90), type := 22, pos := "law.go:163", after := #[{ on := 8, ground := Ground.data }, { on := 5, ground := Ground.guard }], guard := some (5, false) }) (v := .slice (some ⟨sb, so, none⟩) n c) rfl (by kernel_rfl) (by kernel_rfl) (by kernel_rfl) (fun _ _ _ h => h) (Or.inl ⟨by rfl, ?yhzh9⟩) hS ?rhzh9
          case yhzh9 => (intro w' hS; have cf := hS.get ⟨w.heap.size, 0, none⟩ (.slice (some ⟨sb, so, none⟩) n c) (by simp); go_simp; try with_reducible rfl)
          go_simp
          refine wpAnyH_take (i := 11) (oi := { dst := some 93, op := Op.indexAddr 22 (Operand.tmp 91) (Operand.tmp 92), type := 0, pos := "law.go:163", after := #[{ on := 9, ground := Ground.data }, { on := 10, ground := Ground.data }, { on := 5, ground := Ground.guard }], guard := some (5, false) }) (v := ?vhzh11) rfl (by kernel_rfl) (by kernel_rfl) (by kernel_rfl) (fun _ _ _ h => h) (Or.inl ⟨by rfl, ?yhzh11⟩) hS ?rhzh11
          case yhzh11 => (intro w hS; go_simp; try with_reducible rfl)
          go_simp
          refine wpAnyH_take (i := 12) (oi := { dst := some 94, op := Op.load 3 (Operand.tmp 93), type := 3, pos := "law.go:163", after := #[{ on := 11, ground := Ground.data }, { on := 5, ground := Ground.guard }], guard := some (5, false) }) (v := .int .i64 (sF k)) rfl (by kernel_rfl) (by kernel_rfl) (by kernel_rfl) (fun _ _ _ h => h) (Or.inl ⟨by rfl, ?yhzh12⟩) hS ?rhzh12
          case yhzh12 => (intro w' hS; have cf := hS.q.sec k hlt; go_simp; try with_reducible rfl)
          go_simp
          refine wpAnyH_ready (rs := [15]) (by kernel_rfl) (by simp) ?_
          refine AllReadyH.cons (o := { dst := some 97, op := Op.call { callee := Callee.value (Operand.func 14), args := #[Operand.tmp 94, Operand.tmp 95, Operand.tmp 96], argTypes := #[3, 34, 3] }, type := 28, pos := "law.go:163", after := #[{ on := 12, ground := Ground.data }, { on := 13, ground := Ground.data }, { on := 14, ground := Ground.data }, { on := 5, ground := Ground.chain }, { on := 5, ground := Ground.guard }], guard := some (5, false) }) rfl (fun K hK => ?_) AllReadyH.nil
          go_simp
          go_at_call 14
          refine (Ck.out _ _ _ _ _ hS.b).mono ?_
          rintro e w' ⟨rfl, b⟩
          have hS2 := hS.next b
          clear b hS
          try go_simp
          refine hK.out _ _ hS2 (fun hS => ?_)
          clear hK K hS2
          refine wpAnyH_ready (rs := [16]) (by kernel_rfl) (by simp) ?_
          refine AllReadyH.cons (o := { dst := some 98, op := Op.call { callee := Callee.value (Operand.func 12), args := #[Operand.tmp 88, Operand.tmp 89, Operand.tmp 97], argTypes := #[22, 34, 28] }, type := 3, pos := "law.go:163", after := #[{ on := 6, ground := Ground.data }, { on := 7, ground := Ground.data }, { on := 15, ground := Ground.data }, { on := 15, ground := Ground.chain }, { on := 5, ground := Ground.guard }], guard := some (5, false) }) rfl (fun K hK => ?_) AllReadyH.nil
          go_simp
          go_at_call 12
          refine (Jk.out _ _ _ _ _ _ _ hS.b (own_VL hS.hK) (own_VL hS.hC) (own_VL hS.hB)).mono ?_
          rintro e w' ⟨rfl, b⟩
          have hS2 := hS.next b
          clear b hS
          try go_simp
          refine hK.out _ _ hS2 (fun hS => ?_)
          clear hK K hS2
          refine wpAnyH_take (i := 18) (oi := { dst := some 100, op := Op.binOp BinOp.neq 3 (Operand.tmp 98) (Operand.tmp 99) 3, type := 4, pos := "law.go:163", after := #[{ on := 16, ground := Ground.data }, { on := 17, ground := Ground.data }, { on := 5, ground := Ground.guard }], guard := some (5, false) }) (v := ?vhzh18) rfl (by kernel_rfl) (by kernel_rfl) (by kernel_rfl) (fun _ _ _ h => h) (Or.inl ⟨by rfl, ?yhzh18⟩) hS ?rhzh18
          case yhzh18 => (intro w hS; go_simp; try with_reducible rfl)
          go_simp
          refine wpAnyH_take (i := 19) (oi := { dst := some 101, op := Op.pick (Operand.tmp 87) (Operand.const (Value.bool true)) (Operand.tmp 100), type := 4, pos := "law.go:163", after := #[{ on := 5, ground := Ground.data }, { on := 18, ground := Ground.data }], guard := none }) (v := ?vhzh19) rfl (by kernel_rfl) (by kernel_rfl) (by kernel_rfl) (fun _ _ _ h => h) (Or.inl ⟨by rfl, ?yhzh19⟩) hS ?rhzh19
          case yhzh19 => (intro w hS; go_simp; try with_reducible rfl)
          refine wpAnyH_done (by kernel_rfl) ?_ _
          have H17 := Lib.hid hS; clear hS
          try dsimp only [Act.put]
          go_wp2
          exact ⟨⟨k + 1, by omega, by go_num, H17⟩, by simp; omega⟩
        ·
          go_simp
          have hrow := heap_alloc_new wr.drew (.cells #[.int .i64 0, .int .i64 0] 55)
          have hlt2 := (Array.getElem?_eq_some_iff.1 hrow).1
          have hS2 := hS.next ((Below.refl _ wr.drew).alloc (Nat.le_refl _) (.cells #[.int .i64 0, .int .i64 0] 55))
          have hS0 := hS
          clear hS
          refine hKb.out _ _ hS2 (fun hS => ?_)
          clear hKb Kb hS2
          refine wpAnyH_ready (rs := [7]) (by kernel_rfl) (by simp) ?_
          refine AllReadyH.cons (o := { dst := some 78, op := Op.call { callee := Callee.value (Operand.func 26), args := #[Operand.tmp 75, Operand.tmp 76, Operand.tmp 77], argTypes := #[3, 34, 3] }, type := 56, pos := "law.go:158", after := #[{ on := 4, ground := Ground.data }, { on := 5, ground := Ground.data }, { on := 6, ground := Ground.data }], guard := none }) rfl (fun Ka hKa => ?_) AllReadyH.nil
          go_simp
          go_at_call 26
          refine (Ok.out _ _ _ _ _ hS.b (own_VL hS.hC) (own_VL hS.hB)).mono ?_
          rintro e w' ⟨rfl, b⟩
          have hS2 := hS.next b
          try go_simp
          replace hrow := (b.block _ hlt2).trans hrow
          have hS3 := hS0.next (Below.setRow' (((Below.refl _ wr.drew).alloc (Nat.le_refl _) (.cells #[.int .i64 0, .int .i64 0] 55)).trans (b.mono (World.size_alloc _ _ ▸ Nat.le_succ _))) (Nat.le_refl wr.drew.heap.size) (#[.int .i64 (oX k), .int .i64 (oY k)]))
          clear hS b hlt2 hS0
          refine hKa.out _ _ hS2 (fun hS => ?_)
          clear hKa Ka hS2
          refine wpAnyH_take (i := 8) (oi := { dst := some 70, op := Op.move (Operand.tmp 78), type := 56, pos := "law.go:158", after := #[{ on := 7, ground := Ground.data }], guard := none }) (v := ?vhxf8) rfl (by kernel_rfl) (by kernel_rfl) (by kernel_rfl) (fun _ _ _ h => h) (Or.inl ⟨by rfl, ?yhxf8⟩) hS ?rhxf8
          case yhxf8 => (intro w hS; go_simp; try with_reducible rfl)
          go_simp
          refine wpAnyH_take (i := 9) (oi := { dst := some 79, op := Op.extract (Operand.tmp 70) 0, type := 55, pos := "law.go:158", after := #[{ on := 8, ground := Ground.data }], guard := none }) (v := ?vhxf9) rfl (by kernel_rfl) (by kernel_rfl) (by kernel_rfl) (fun _ _ _ h => h) (Or.inl ⟨by rfl, ?yhxf9⟩) hS ?rhxf9
          case yhxf9 => (intro w hS; go_simp; try with_reducible rfl)
          refine wpAnyH_take (i := 10) (oi := { dst := some 80, op := Op.extract (Operand.tmp 70) 1, type := 4, pos := "law.go:158", after := #[{ on := 8, ground := Ground.data }, { on := 12, ground := Ground.gcOnly Departure.lateStores }], guard := none }) (v := ?vhxf10) rfl (by kernel_rfl) (by kernel_rfl) (by kernel_rfl) (fun _ _ _ h => h) (Or.inl ⟨by rfl, ?yhxf10⟩) hS ?rhxf10
          case yhxf10 => (intro w hS; go_simp; try with_reducible rfl)
          go_simp
          refine wpAnyH_ready (rs := [12]) (by kernel_rfl) (by simp) ?_
          refine AllReadyH.cons (o := { dst := none, op := Op.store 55 (Operand.tmp 15) (Operand.tmp 79), type := 0, pos := "law.go:158", after := #[{ on := 11, ground := Ground.data }, { on := 9, ground := Ground.data }, { on := 7, ground := Ground.chain }, { on := 0, ground := Ground.phase }, { on := 1, ground := Ground.phase }, { on := 2, ground := Ground.phase }, { on := 3, ground := Ground.phase }, { on := 4, ground := Ground.phase }, { on := 5, ground := Ground.phase }, { on := 6, ground := Ground.phase }, { on := 7, ground := Ground.phase }, { on := 8, ground := Ground.phase }, { on := 9, ground := Ground.phase }, { on := 10, ground := Ground.textOnly Departure.lateStores }, { on := 11, ground := Ground.phase }], guard := none }) rfl (fun K9 hK9 => ?_) AllReadyH.nil
          rw [if_pos (by rfl)]
          refine wp_store_row 55 (.tmp 15) (.tmp 79) rfl wr.drew.heap.size (#[.int .i64 (oX k), .int .i64 (oY k)]) (by first | rfl | (simp [Act.eval])) (by first | rfl | (simp [Act.eval])) 55 _ hrow (infoSh2 _ _).out (sh_sz2 _ _ rfl) (sh_one2 _ _) ?_
          clear hrow
          clear hS
          refine hK9.out _ _ hS3 (fun hS => ?_)
          clear hK9 K9 hS3
          refine wpAnyH_take (i := 13) (oi := { dst := some 16, op := Op.assign (Operand.tmp 80), type := 4, pos := "law.go:158", after := #[{ on := 10, ground := Ground.data }, { on := 12, ground := Ground.chain }, { on := 0, ground := Ground.phase }, { on := 1, ground := Ground.phase }, { on := 2, ground := Ground.phase }, { on := 3, ground := Ground.phase }, { on := 4, ground := Ground.phase }, { on := 5, ground := Ground.phase }, { on := 6, ground := Ground.phase }, { on := 7, ground := Ground.phase }, { on := 8, ground := Ground.phase }, { on := 9, ground := Ground.phase }, { on := 10, ground := Ground.phase }, { on := 11, ground := Ground.phase }, { on := 12, ground := Ground.phase }], guard := none }) (v := ?vhxf13) rfl (by kernel_rfl) (by kernel_rfl) (by kernel_rfl) (fun _ _ _ h => h) (Or.inl ⟨by rfl, ?yhxf13⟩) hS ?rhxf13
          case yhxf13 => (intro w hS; go_simp; try with_reducible rfl)
          go_simp
          refine wpAnyH_done (by kernel_rfl) ?_ _
          have HS13 := Lib.hid hS; clear hS
          try dsimp only [Act.put]
          go_upto_region 17 with fail
          refine wp_region_held_drew (S := GV w [(⟨w.heap.size, 0, none⟩, .slice (some ⟨sb, so, none⟩) n c), (⟨w.heap.size, 1, none⟩, .slice q m e), (⟨w.heap.size, 2, none⟩, .string sd)] sb so K.length sF (.slice kp K.length kc) (.slice cp C.length cc) (.slice bp B.length bc) K C B2 D pt) (by kernel_rfl) HS13.out.drew (fun hS => ?_)
          clear HS13
          refine wpAnyH_take (i := 0) (oi := { dst := some 82, op := Op.move (Operand.tmp 16), type := 4, pos := "law.go:163", after := #[], guard := none }) (v := ?vhzi0) rfl (by kernel_rfl) (by kernel_rfl) (by kernel_rfl) (fun _ _ _ h => h) (Or.inl ⟨by rfl, ?yhzi0⟩) hS ?rhzi0
          case yhzi0 => (intro w hS; go_simp; try with_reducible rfl)
          refine wpAnyH_take (i := 1) (oi := { dst := some 83, op := Op.move (Operand.tmp 14), type := 3, pos := "law.go:163", after := #[], guard := none }) (v := ?vhzi1) rfl (by kernel_rfl) (by kernel_rfl) (by kernel_rfl) (fun _ _ _ h => h) (Or.inl ⟨by rfl, ?yhzi1⟩) hS ?rhzi1
          case yhzi1 => (intro w hS; go_simp; try with_reducible rfl)
          refine wpAnyH_take (i := 2) (oi := { dst := some 84, op := Op.move (Operand.tmp 12), type := 3, pos := "law.go:163", after := #[], guard := none }) (v := ?vhzi2) rfl (by kernel_rfl) (by kernel_rfl) (by kernel_rfl) (fun _ _ _ h => h) (Or.inl ⟨by rfl, ?yhzi2⟩) hS ?rhzi2
          case yhzi2 => (intro w hS; go_simp; try with_reducible rfl)
          go_simp
          refine wpAnyH_take (i := 3) (oi := { dst := some 85, op := Op.binOp BinOp.eql 3 (Operand.tmp 83) (Operand.tmp 84) 3, type := 4, pos := "law.go:163", after := #[{ on := 1, ground := Ground.data }, { on := 2, ground := Ground.data }], guard := none }) (v := ?vhzi3) rfl (by kernel_rfl) (by kernel_rfl) (by kernel_rfl) (fun _ _ _ h => h) (Or.inl ⟨by rfl, ?yhzi3⟩) hS ?rhzi3
          case yhzi3 => (intro w hS; go_simp; try with_reducible rfl)
          go_simp
          refine wpAnyH_take (i := 4) (oi := { dst := some 86, op := Op.binOp BinOp.eql 4 (Operand.tmp 82) (Operand.tmp 85) 4, type := 4, pos := "law.go:163", after := #[{ on := 0, ground := Ground.data }, { on := 3, ground := Ground.data }], guard := none }) (v := ?vhzi4) rfl (by kernel_rfl) (by kernel_rfl) (by kernel_rfl) (fun _ _ _ h => h) (Or.inl ⟨by rfl, ?yhzi4⟩) hS ?rhzi4
          case yhzi4 => (intro w hS; go_simp; try with_reducible rfl)
          go_simp
          refine wpAnyH_take (i := 5) (oi := { dst := some 87, op := Op.move (Operand.tmp 86), type := 4, pos := "law.go:163", after := #[{ on := 4, ground := Ground.data }], guard := none }) (v := ?vhzi5) rfl (by kernel_rfl) (by kernel_rfl) (by kernel_rfl) (fun _ _ _ h => h) (Or.inl ⟨by rfl, ?yhzi5⟩) hS ?rhzi5
          case yhzi5 => (intro w hS; go_simp; try with_reducible rfl)
          go_simp
          refine wpAnyH_take (i := 6) (oi := { dst := some 88, op := Op.move (Operand.tmp 8), type := 22, pos := "law.go:163", after := #[{ on := 5, ground := Ground.guard }], guard := some (5, false) }) (v := ?vhzi6) rfl (by kernel_rfl) (by kernel_rfl) (by kernel_rfl) (fun _ _ _ h => h) (Or.inl ⟨by rfl, ?yhzi6⟩) hS ?rhzi6
          case yhzi6 => (intro w hS; go_simp; try with_reducible rfl)
          refine wpAnyH_take (i := 7) (oi := { dst := some 89, op := Op.load 34 (Operand.tmp 10), type := 34, pos := "law.go:163", after := #[{ on := 5, ground := Ground.guard }], guard := some (5, false) }) (v := .agg #[.slice cp C.length cc, .int .i64 pt, .slice bp B.length bc]) rfl (by kernel_rfl) (by kernel_rfl) (by kernel_rfl) (fun _ _ _ h => h) (Or.inl ⟨by rfl, ?yhzi7⟩) hS ?rhzi7
          case yhzi7 => (intro w' hS; have cf := hS.d; go_simp; try with_reducible rfl)
          refine wpAnyH_take (i := 8) (oi := { dst := some 90, op := Op.fieldAddr 24 (Operand.tmp 3) 0, type := 0, pos := "law.go:163", after := #[{ on := 5, ground := Ground.guard }], guard := some (5, false) }) (v := ?vhzi8) rfl (by kernel_rfl) (by kernel_rfl) (by kernel_rfl) (fun _ _ _ h => h) (Or.inl ⟨by rfl, ?yhzi8⟩) hS ?rhzi8
          case yhzi8 => (intro w hS; go_simp; try with_reducible rfl)
          refine wpAnyH_take (i := 10) (oi := { dst := some 92, op := Op.move (Operand.tmp 14), type := 3, pos := "law.go:163", after := #[{ on := 5, ground := Ground.guard }], guard := some (5, false) }) (v := ?vhzi10) rfl (by kernel_rfl) (by kernel_rfl) (by kernel_rfl) (fun _ _ _ h => h) (Or.inl ⟨by rfl, ?yhzi10⟩) hS ?rhzi10
          case yhzi10 => (intro w hS; go_simp; try with_reducible rfl)
          refine wpAnyH_take (i := 13) (oi := { dst := some 95, op := Op.load 34 (Operand.tmp 10), type := 34, pos := "law.go:163", after := #[{ on := 5, ground := Ground.guard }], guard := some (5, false) }) (v := .agg #[.slice cp C.length cc, .int .i64 pt, .slice bp B.length bc]) rfl (by kernel_rfl) (by kernel_rfl) (by kernel_rfl) (fun _ _ _ h => h) (Or.inl ⟨by rfl, ?yhzi13⟩) hS ?rhzi13
          case yhzi13 => (intro w' hS; have cf := hS.d; go_simp; try with_reducible rfl)
          refine wpAnyH_take (i := 14) (oi := { dst := some 96, op := Op.move (Operand.tmp 14), type := 3, pos := "law.go:163", after := #[{ on := 5, ground := Ground.guard }], guard := some (5, false) }) (v := ?vhzi14) rfl (by kernel_rfl) (by kernel_rfl) (by kernel_rfl) (fun _ _ _ h => h) (Or.inl ⟨by rfl, ?yhzi14⟩) hS ?rhzi14
          case yhzi14 => (intro w hS; go_simp; try with_reducible rfl)
          refine wpAnyH_take (i := 17) (oi := { dst := some 99, op := Op.move (Operand.tmp 17), type := 3, pos := "law.go:163", after := #[{ on := 5, ground := Ground.guard }], guard := some (5, false) }) (v := ?vhzi17) rfl (by kernel_rfl) (by kernel_rfl) (by kernel_rfl) (fun _ _ _ h => h) (Or.inl ⟨by rfl, ?yhzi17⟩) hS ?rhzi17
          case yhzi17 => (intro w hS; go_simp; try with_reducible rfl)
          go_simp
          refine wpAnyH_take (i := 9) (oi := { dst := some 91, op := Op.load 22 (Operand.tmp 90), type := 22, pos := "law.go:163", after := #[{ on := 8, ground := Ground.data }, { on := 5, ground := Ground.guard }], guard := some (5, false) }) (v := .slice (some ⟨sb, so, none⟩) n c) rfl (by kernel_rfl) (by kernel_rfl) (by kernel_rfl) (fun _ _ _ h => h) (Or.inl ⟨by rfl, ?yhzi9⟩) hS ?rhzi9
          case yhzi9 => (intro w' hS; have cf := hS.get ⟨w.heap.size, 0, none⟩ (.slice (some ⟨sb, so, none⟩) n c) (by simp); go_simp; try with_reducible rfl)
          go_simp
          refine wpAnyH_take (i := 11) (oi := { dst := some 93, op := Op.indexAddr 22 (Operand.tmp 91) (Operand.tmp 92), type := 0, pos := "law.go:163", after := #[{ on := 9, ground := Ground.data }, { on := 10, ground := Ground.data }, { on := 5, ground := Ground.guard }], guard := some (5, false) }) (v := ?vhzi11) rfl (by kernel_rfl) (by kernel_rfl) (by kernel_rfl) (fun _ _ _ h => h) (Or.inl ⟨by rfl, ?yhzi11⟩) hS ?rhzi11
          case yhzi11 => (intro w hS; go_simp; try with_reducible rfl)
          go_simp
          refine wpAnyH_take (i := 12) (oi := { dst := some 94, op := Op.load 3 (Operand.tmp 93), type := 3, pos := "law.go:163", after := #[{ on := 11, ground := Ground.data }, { on := 5, ground := Ground.guard }], guard := some (5, false) }) (v := .int .i64 (sF k)) rfl (by kernel_rfl) (by kernel_rfl) (by kernel_rfl) (fun _ _ _ h => h) (Or.inl ⟨by rfl, ?yhzi12⟩) hS ?rhzi12
          case yhzi12 => (intro w' hS; have cf := hS.q.sec k hlt; go_simp; try with_reducible rfl)
          go_simp
          refine wpAnyH_ready (rs := [15]) (by kernel_rfl) (by simp) ?_
          refine AllReadyH.cons (o := { dst := some 97, op := Op.call { callee := Callee.value (Operand.func 14), args := #[Operand.tmp 94, Operand.tmp 95, Operand.tmp 96], argTypes := #[3, 34, 3] }, type := 28, pos := "law.go:163", after := #[{ on := 12, ground := Ground.data }, { on := 13, ground := Ground.data }, { on := 14, ground := Ground.data }, { on := 5, ground := Ground.chain }, { on := 5, ground := Ground.guard }], guard := some (5, false) }) rfl (fun K hK => ?_) AllReadyH.nil
          go_simp
          go_at_call 14
          refine (Ck.out _ _ _ _ _ hS.b).mono ?_
          rintro e w' ⟨rfl, b⟩
          have hS2 := hS.next b
          clear b hS
          try go_simp
          refine hK.out _ _ hS2 (fun hS => ?_)
          clear hK K hS2
          refine wpAnyH_ready (rs := [16]) (by kernel_rfl) (by simp) ?_
          refine AllReadyH.cons (o := { dst := some 98, op := Op.call { callee := Callee.value (Operand.func 12), args := #[Operand.tmp 88, Operand.tmp 89, Operand.tmp 97], argTypes := #[22, 34, 28] }, type := 3, pos := "law.go:163", after := #[{ on := 6, ground := Ground.data }, { on := 7, ground := Ground.data }, { on := 15, ground := Ground.data }, { on := 15, ground := Ground.chain }, { on := 5, ground := Ground.guard }], guard := some (5, false) }) rfl (fun K hK => ?_) AllReadyH.nil
          go_simp
          go_at_call 12
          refine (Jk.out _ _ _ _ _ _ _ hS.b (own_VL hS.hK) (own_VL hS.hC) (own_VL hS.hB)).mono ?_
          rintro e w' ⟨rfl, b⟩
          have hS2 := hS.next b
          clear b hS
          try go_simp
          refine hK.out _ _ hS2 (fun hS => ?_)
          clear hK K hS2
          refine wpAnyH_take (i := 18) (oi := { dst := some 100, op := Op.binOp BinOp.neq 3 (Operand.tmp 98) (Operand.tmp 99) 3, type := 4, pos := "law.go:163", after := #[{ on := 16, ground := Ground.data }, { on := 17, ground := Ground.data }, { on := 5, ground := Ground.guard }], guard := some (5, false) }) (v := ?vhzi18) rfl (by kernel_rfl) (by kernel_rfl) (by kernel_rfl) (fun _ _ _ h => h) (Or.inl ⟨by rfl, ?yhzi18⟩) hS ?rhzi18
          case yhzi18 => (intro w hS; go_simp; try with_reducible rfl)
          go_simp
          refine wpAnyH_take (i := 19) (oi := { dst := some 101, op := Op.pick (Operand.tmp 87) (Operand.const (Value.bool true)) (Operand.tmp 100), type := 4, pos := "law.go:163", after := #[{ on := 5, ground := Ground.data }, { on := 18, ground := Ground.data }], guard := none }) (v := ?vhzi19) rfl (by kernel_rfl) (by kernel_rfl) (by kernel_rfl) (fun _ _ _ h => h) (Or.inl ⟨by rfl, ?yhzi19⟩) hS ?rhzi19
          case yhzi19 => (intro w hS; go_simp; try with_reducible rfl)
          refine wpAnyH_done (by kernel_rfl) ?_ _
          have H17 := Lib.hid hS; clear hS
          try dsimp only [Act.put]
          go_wp2
          exact ⟨⟨k + 1, by omega, by go_num, H17⟩, by simp; omega⟩
      · obtain ⟨hb, hj⟩ := (HF.out k hlt).2 hkn
        have Ok := O1.out k hlt
        have Ck := Lib.hid (C1.out k hlt)
        have Jk := J1.out k hlt
        rw [hb] at Ok
        rw [hj] at Jk
        replace Ok := Lib.hid Ok
        replace Jk := Lib.hid Jk
        have hbe : ((k : Int) == (n0 : Int)) = false := by simp; omega
        clear hb hj hkn
        go_upto_region 13 with fail
        refine wp_region_held_drew (S := GV w [(⟨w.heap.size, 0, none⟩, .slice (some ⟨sb, so, none⟩) n c), (⟨w.heap.size, 1, none⟩, .slice q m e), (⟨w.heap.size, 2, none⟩, .string sd)] sb so K.length sF (.slice kp K.length kc) (.slice cp C.length cc) (.slice bp B.length bc) K C B2 D pt) (by kernel_rfl) HR.out.drew (fun hS => ?_)
        clear HR
        refine wpAnyH_take (i := 0) (oi := { dst := some 71, op := Op.fieldAddr 24 (Operand.tmp 3) 0, type := 0, pos := "law.go:158", after := #[], guard := none }) (v := ?vhxc0) rfl (by kernel_rfl) (by kernel_rfl) (by kernel_rfl) (fun _ _ _ h => h) (Or.inl ⟨by rfl, ?yhxc0⟩) hS ?rhxc0
        case yhxc0 => (intro w hS; go_simp; try with_reducible rfl)
        refine wpAnyH_take (i := 2) (oi := { dst := some 73, op := Op.move (Operand.tmp 14), type := 3, pos := "law.go:158", after := #[], guard := none }) (v := ?vhxc2) rfl (by kernel_rfl) (by kernel_rfl) (by kernel_rfl) (fun _ _ _ h => h) (Or.inl ⟨by rfl, ?yhxc2⟩) hS ?rhxc2
        case yhxc2 => (intro w hS; go_simp; try with_reducible rfl)
        refine wpAnyH_take (i := 5) (oi := { dst := some 76, op := Op.load 34 (Operand.tmp 10), type := 34, pos := "law.go:158", after := #[], guard := none }) (v := .agg #[.slice cp C.length cc, .int .i64 pt, .slice bp B.length bc]) rfl (by kernel_rfl) (by kernel_rfl) (by kernel_rfl) (fun _ _ _ h => h) (Or.inl ⟨by rfl, ?yhxc5⟩) hS ?rhxc5
        case yhxc5 => (intro w' hS; have cf := hS.d; go_simp; try with_reducible rfl)
        refine wpAnyH_take (i := 6) (oi := { dst := some 77, op := Op.move (Operand.tmp 14), type := 3, pos := "law.go:158", after := #[], guard := none }) (v := ?vhxc6) rfl (by kernel_rfl) (by kernel_rfl) (by kernel_rfl) (fun _ _ _ h => h) (Or.inl ⟨by rfl, ?yhxc6⟩) hS ?rhxc6
        case yhxc6 => (intro w hS; go_simp; try with_reducible rfl)
        go_simp
        refine wpAnyH_take (i := 1) (oi := { dst := some 72, op := Op.load 22 (Operand.tmp 71), type := 22, pos := "law.go:158", after := #[{ on := 0, ground := Ground.data }], guard := none }) (v := .slice (some ⟨sb, so, none⟩) n c) rfl (by kernel_rfl) (by kernel_rfl) (by kernel_rfl) (fun _ _ _ h => h) (Or.inl ⟨by rfl, ?yhxc1⟩) hS ?rhxc1
        case yhxc1 => (intro w' hS; have cf := hS.get ⟨w.heap.size, 0, none⟩ (.slice (some ⟨sb, so, none⟩) n c) (by simp); go_simp; try with_reducible rfl)
        go_simp
        refine wpAnyH_take (i := 3) (oi := { dst := some 74, op := Op.indexAddr 22 (Operand.tmp 72) (Operand.tmp 73), type := 0, pos := "law.go:158", after := #[{ on := 1, ground := Ground.data }, { on := 2, ground := Ground.data }], guard := none }) (v := ?vhxc3) rfl (by kernel_rfl) (by kernel_rfl) (by kernel_rfl) (fun _ _ _ h => h) (Or.inl ⟨by rfl, ?yhxc3⟩) hS ?rhxc3
        case yhxc3 => (intro w hS; go_simp; try with_reducible rfl)
        go_simp
        refine wpAnyH_take (i := 4) (oi := { dst := some 75, op := Op.load 3 (Operand.tmp 74), type := 3, pos := "law.go:158", after := #[{ on := 3, ground := Ground.data }], guard := none }) (v := .int .i64 (sF k)) rfl (by kernel_rfl) (by kernel_rfl) (by kernel_rfl) (fun _ _ _ h => h) (Or.inl ⟨by rfl, ?yhxc4⟩) hS ?rhxc4
        case yhxc4 => (intro w' hS; have cf := hS.q.sec k hlt; go_simp; try with_reducible rfl)
        go_simp
        refine wpAnyH_ready (rs := [7, 11]) (by kernel_rfl) (by simp) ?_
        refine AllReadyH.cons (o := { dst := some 78, op := Op.call { callee := Callee.value (Operand.func 26), args := #[Operand.tmp 75, Operand.tmp 76, Operand.tmp 77], argTypes := #[3, 34, 3] }, type := 56, pos := "law.go:158", after := #[{ on := 4, ground := Ground.data }, { on := 5, ground := Ground.data }, { on := 6, ground := Ground.data }], guard := none }) rfl (fun Ka hKa => ?_) (AllReadyH.cons (o := { dst := some 15, op := Op.alloc 55, type := 0, pos := "law.go:158", after := #[], guard := none }) rfl (fun Kb hKb => ?_) AllReadyH.nil)
        ·
          go_simp
          go_at_call 26
          refine (Ok.out _ _ _ _ _ hS.b (own_VL hS.hC) (own_VL hS.hB)).mono ?_
          rintro e w' ⟨rfl, b⟩
          have hS2 := hS.next b
          try go_simp
          clear hS b
          refine hKa.out _ _ hS2 (fun hS => ?_)
          clear hKa Ka hS2
          refine wpAnyH_take (i := 8) (oi := { dst := some 70, op := Op.move (Operand.tmp 78), type := 56, pos := "law.go:158", after := #[{ on := 7, ground := Ground.data }], guard := none }) (v := ?vhxe8) rfl (by kernel_rfl) (by kernel_rfl) (by kernel_rfl) (fun _ _ _ h => h) (Or.inl ⟨by rfl, ?yhxe8⟩) hS ?rhxe8
          case yhxe8 => (intro w hS; go_simp; try with_reducible rfl)
          go_simp
          refine wpAnyH_take (i := 9) (oi := { dst := some 79, op := Op.extract (Operand.tmp 70) 0, type := 55, pos := "law.go:158", after := #[{ on := 8, ground := Ground.data }], guard := none }) (v := ?vhxe9) rfl (by kernel_rfl) (by kernel_rfl) (by kernel_rfl) (fun _ _ _ h => h) (Or.inl ⟨by rfl, ?yhxe9⟩) hS ?rhxe9
          case yhxe9 => (intro w hS; go_simp; try with_reducible rfl)
          refine wpAnyH_take (i := 10) (oi := { dst := some 80, op := Op.extract (Operand.tmp 70) 1, type := 4, pos := "law.go:158", after := #[{ on := 8, ground := Ground.data }, { on := 12, ground := Ground.gcOnly Departure.lateStores }], guard := none }) (v := ?vhxe10) rfl (by kernel_rfl) (by kernel_rfl) (by kernel_rfl) (fun _ _ _ h => h) (Or.inl ⟨by rfl, ?yhxe10⟩) hS ?rhxe10
          case yhxe10 => (intro w hS; go_simp; try with_reducible rfl)
          go_simp
          refine wpAnyH_ready (rs := [11]) (by kernel_rfl) (by simp) ?_
          refine AllReadyH.cons (o := { dst := some 15, op := Op.alloc 55, type := 0, pos := "law.go:158", after := #[], guard := none }) rfl (fun Kb hKb => ?_) AllReadyH.nil
          go_simp
          have hrow := heap_alloc_new w' (.cells #[.int .i64 0, .int .i64 0] 55)
          have hS2 := hS.next ((Below.refl _ w').alloc (Nat.le_refl _) (.cells #[.int .i64 0, .int .i64 0] 55))
          refine hKb.out _ _ hS2 (fun _ => ?_)
          clear hKb Kb hS2
          refine wpAnyH_ready (rs := [12]) (by kernel_rfl) (by simp) ?_
          refine AllReadyH.cons (o := { dst := none, op := Op.store 55 (Operand.tmp 15) (Operand.tmp 79), type := 0, pos := "law.go:158", after := #[{ on := 11, ground := Ground.data }, { on := 9, ground := Ground.data }, { on := 7, ground := Ground.chain }, { on := 0, ground := Ground.phase }, { on := 1, ground := Ground.phase }, { on := 2, ground := Ground.phase }, { on := 3, ground := Ground.phase }, { on := 4, ground := Ground.phase }, { on := 5, ground := Ground.phase }, { on := 6, ground := Ground.phase }, { on := 7, ground := Ground.phase }, { on := 8, ground := Ground.phase }, { on := 9, ground := Ground.phase }, { on := 10, ground := Ground.textOnly Departure.lateStores }, { on := 11, ground := Ground.phase }], guard := none }) rfl (fun K9 hK9 => ?_) AllReadyH.nil
          rw [if_pos (by rfl)]
          refine wp_store_row 55 (.tmp 15) (.tmp 79) rfl w'.heap.size (#[.int .i64 (oX k), .int .i64 (oY k)]) (by first | rfl | (simp [Act.eval])) (by first | rfl | (simp [Act.eval])) 55 _ hrow (infoSh2 _ _).out (sh_sz2 _ _ rfl) (sh_one2 _ _) ?_
          clear hrow
          have hS3 := hS.next (Below.setRow' ((Below.refl _ w').alloc (Nat.le_refl _) (.cells #[.int .i64 0, .int .i64 0] 55)) (Nat.le_refl w'.heap.size) (#[.int .i64 (oX k), .int .i64 (oY k)]))
          clear hS
          refine hK9.out _ _ hS3 (fun hS => ?_)
          clear hK9 K9 hS3
          refine wpAnyH_take (i := 13) (oi := { dst := some 16, op := Op.assign (Operand.tmp 80), type := 4, pos := "law.go:158", after := #[{ on := 10, ground := Ground.data }, { on := 12, ground := Ground.chain }, { on := 0, ground := Ground.phase }, { on := 1, ground := Ground.phase }, { on := 2, ground := Ground.phase }, { on := 3, ground := Ground.phase }, { on := 4, ground := Ground.phase }, { on := 5, ground := Ground.phase }, { on := 6, ground := Ground.phase }, { on := 7, ground := Ground.phase }, { on := 8, ground := Ground.phase }, { on := 9, ground := Ground.phase }, { on := 10, ground := Ground.phase }, { on := 11, ground := Ground.phase }, { on := 12, ground := Ground.phase }], guard := none }) (v := ?vhxe13) rfl (by kernel_rfl) (by kernel_rfl) (by kernel_rfl) (fun _ _ _ h => h) (Or.inl ⟨by rfl, ?yhxe13⟩) hS ?rhxe13
          case yhxe13 => (intro w hS; go_simp; try with_reducible rfl)
          go_simp
          refine wpAnyH_done (by kernel_rfl) ?_ _
          have HS13 := Lib.hid hS; clear hS
          try dsimp only [Act.put]
          go_upto_region 17 with fail
          refine wp_region_held_drew (S := GV w [(⟨w.heap.size, 0, none⟩, .slice (some ⟨sb, so, none⟩) n c), (⟨w.heap.size, 1, none⟩, .slice q m e), (⟨w.heap.size, 2, none⟩, .string sd)] sb so K.length sF (.slice kp K.length kc) (.slice cp C.length cc) (.slice bp B.length bc) K C B2 D pt) (by kernel_rfl) HS13.out.drew (fun hS => ?_)
          clear HS13
          refine wpAnyH_take (i := 0) (oi := { dst := some 82, op := Op.move (Operand.tmp 16), type := 4, pos := "law.go:163", after := #[], guard := none }) (v := ?vhzj0) rfl (by kernel_rfl) (by kernel_rfl) (by kernel_rfl) (fun _ _ _ h => h) (Or.inl ⟨by rfl, ?yhzj0⟩) hS ?rhzj0
          case yhzj0 => (intro w hS; go_simp; try with_reducible rfl)
          refine wpAnyH_take (i := 1) (oi := { dst := some 83, op := Op.move (Operand.tmp 14), type := 3, pos := "law.go:163", after := #[], guard := none }) (v := ?vhzj1) rfl (by kernel_rfl) (by kernel_rfl) (by kernel_rfl) (fun _ _ _ h => h) (Or.inl ⟨by rfl, ?yhzj1⟩) hS ?rhzj1
          case yhzj1 => (intro w hS; go_simp; try with_reducible rfl)
          refine wpAnyH_take (i := 2) (oi := { dst := some 84, op := Op.move (Operand.tmp 12), type := 3, pos := "law.go:163", after := #[], guard := none }) (v := ?vhzj2) rfl (by kernel_rfl) (by kernel_rfl) (by kernel_rfl) (fun _ _ _ h => h) (Or.inl ⟨by rfl, ?yhzj2⟩) hS ?rhzj2
          case yhzj2 => (intro w hS; go_simp; try with_reducible rfl)
          go_simp
          refine wpAnyH_take (i := 3) (oi := { dst := some 85, op := Op.binOp BinOp.eql 3 (Operand.tmp 83) (Operand.tmp 84) 3, type := 4, pos := "law.go:163", after := #[{ on := 1, ground := Ground.data }, { on := 2, ground := Ground.data }], guard := none }) (v := ?vhzj3) rfl (by kernel_rfl) (by kernel_rfl) (by kernel_rfl) (fun _ _ _ h => h) (Or.inl ⟨by rfl, ?yhzj3⟩) hS ?rhzj3
          case yhzj3 => (intro w hS; go_simp; try with_reducible rfl)
          go_simp
          refine wpAnyH_take (i := 4) (oi := { dst := some 86, op := Op.binOp BinOp.eql 4 (Operand.tmp 82) (Operand.tmp 85) 4, type := 4, pos := "law.go:163", after := #[{ on := 0, ground := Ground.data }, { on := 3, ground := Ground.data }], guard := none }) (v := ?vhzj4) rfl (by kernel_rfl) (by kernel_rfl) (by kernel_rfl) (fun _ _ _ h => h) (Or.inl ⟨by rfl, ?yhzj4⟩) hS ?rhzj4
          case yhzj4 => (intro w hS; go_simp; try with_reducible rfl)
          go_simp
          refine wpAnyH_take (i := 5) (oi := { dst := some 87, op := Op.move (Operand.tmp 86), type := 4, pos := "law.go:163", after := #[{ on := 4, ground := Ground.data }], guard := none }) (v := ?vhzj5) rfl (by kernel_rfl) (by kernel_rfl) (by kernel_rfl) (fun _ _ _ h => h) (Or.inl ⟨by rfl, ?yhzj5⟩) hS ?rhzj5
          case yhzj5 => (intro w hS; go_simp; try with_reducible rfl)
          go_simp
          refine wpAnyH_take (i := 6) (oi := { dst := some 88, op := Op.move (Operand.tmp 8), type := 22, pos := "law.go:163", after := #[{ on := 5, ground := Ground.guard }], guard := some (5, false) }) (v := ?vhzj6) rfl (by kernel_rfl) (by kernel_rfl) (by kernel_rfl) (fun _ _ _ h => h) (Or.inl ⟨by rfl, ?yhzj6⟩) hS ?rhzj6
          case yhzj6 => (intro w hS; go_simp; try with_reducible rfl)
          refine wpAnyH_take (i := 7) (oi := { dst := some 89, op := Op.load 34 (Operand.tmp 10), type := 34, pos := "law.go:163", after := #[{ on := 5, ground := Ground.guard }], guard := some (5, false) }) (v := .agg #[.slice cp C.length cc, .int .i64 pt, .slice bp B.length bc]) rfl (by kernel_rfl) (by kernel_rfl) (by kernel_rfl) (fun _ _ _ h => h) (Or.inl ⟨by rfl, ?yhzj7⟩) hS ?rhzj7
          case yhzj7 => (intro w' hS; have cf := hS.d; go_simp; try with_reducible rfl)
          refine wpAnyH_take (i := 8) (oi := { dst := some 90, op := Op.fieldAddr 24 (Operand.tmp 3) 0, type := 0, pos := "law.go:163", after := #[{ on := 5, ground := Ground.guard }], guard := some (5, false) }) (v := ?vhzj8) rfl (by kernel_rfl) (by kernel_rfl) (by kernel_rfl) (fun _ _ _ h => h) (Or.inl ⟨by rfl, ?yhzj8⟩) hS ?rhzj8
          case yhzj8 => (intro w hS; go_simp; try with_reducible rfl)
          refine wpAnyH_take (i := 10) (oi := { dst := some 92, op := Op.move (Operand.tmp 14), type := 3, pos := "law.go:163", after := #[{ on := 5, ground := Ground.guard }], guard := some (5, false) }) (v := ?vhzj10) rfl (by kernel_rfl) (by kernel_rfl) (by kernel_rfl) (fun _ _ _ h => h) (Or.inl ⟨by rfl, ?yhzj10⟩) hS ?rhzj10
          case yhzj10 => (intro w hS; go_simp; try with_reducible rfl)
          refine wpAnyH_take (i := 13) (oi := { dst := some 95, op := Op.load 34 (Operand.tmp 10), type := 34, pos := "law.go:163", after := #[{ on := 5, ground := Ground.guard }], guard := some (5, false) }) (v := .agg #[.slice cp C.length cc, .int .i64 pt, .slice bp B.length bc]) rfl (by kernel_rfl) (by kernel_rfl) (by kernel_rfl) (fun _ _ _ h => h) (Or.inl ⟨by rfl, ?yhzj13⟩) hS ?rhzj13
          case yhzj13 => (intro w' hS; have cf := hS.d; go_simp; try with_reducible rfl)
          refine wpAnyH_take (i := 14) (oi := { dst := some 96, op := Op.move (Operand.tmp 14), type := 3, pos := "law.go:163", after := #[{ on := 5, ground := Ground.guard }], guard := some (5, false) }) (v := ?vhzj14) rfl (by kernel_rfl) (by kernel_rfl) (by kernel_rfl) (fun _ _ _ h => h) (Or.inl ⟨by rfl, ?yhzj14⟩) hS ?rhzj14
          case yhzj14 => (intro w hS; go_simp; try with_reducible rfl)
          refine wpAnyH_take (i := 17) (oi := { dst := some 99, op := Op.move (Operand.tmp 17), type := 3, pos := "law.go:163", after := #[{ on := 5, ground := Ground.guard }], guard := some (5, false) }) (v := ?vhzj17) rfl (by kernel_rfl) (by kernel_rfl) (by kernel_rfl) (fun _ _ _ h => h) (Or.inl ⟨by rfl, ?yhzj17⟩) hS ?rhzj17
          case yhzj17 => (intro w hS; go_simp; try with_reducible rfl)
          go_simp
          refine wpAnyH_take (i := 9) (oi := { dst := some 91, op := Op.load 22 (Operand.tmp 90), type := 22, pos := "law.go:163", after := #[{ on := 8, ground := Ground.data }, { on := 5, ground := Ground.guard }], guard := some (5, false) }) (v := .slice (some ⟨sb, so, none⟩) n c) rfl (by kernel_rfl) (by kernel_rfl) (by kernel_rfl) (fun _ _ _ h => h) (Or.inl ⟨by rfl, ?yhzj9⟩) hS ?rhzj9
          case yhzj9 => (intro w' hS; have cf := hS.get ⟨w.heap.size, 0, none⟩ (.slice (some ⟨sb, so, none⟩) n c) (by simp); go_simp; try with_reducible rfl)
          go_simp
          refine wpAnyH_take (i := 11) (oi := { dst := some 93, op := Op.indexAddr 22 (Operand.tmp 91) (Operand.tmp 92), type := 0, pos := "law.go:163", after := #[{ on := 9, ground := Ground.data }, { on := 10, ground := Ground.data }, { on := 5, ground := Ground.guard }], guard := some (5, false) }) (v := ?vhzj11) rfl (by kernel_rfl) (by kernel_rfl) (by kernel_rfl) (fun _ _ _ h => h) (Or.inl ⟨by rfl, ?yhzj11⟩) hS ?rhzj11
          case yhzj11 => (intro w hS; go_simp; try with_reducible rfl)
          go_simp
          refine wpAnyH_take (i := 12) (oi := { dst := some 94, op := Op.load 3 (Operand.tmp 93), type := 3, pos := "law.go:163", after := #[{ on := 11, ground := Ground.data }, { on := 5, ground := Ground.guard }], guard := some (5, false) }) (v := .int .i64 (sF k)) rfl (by kernel_rfl) (by kernel_rfl) (by kernel_rfl) (fun _ _ _ h => h) (Or.inl ⟨by rfl, ?yhzj12⟩) hS ?rhzj12
          case yhzj12 => (intro w' hS; have cf := hS.q.sec k hlt; go_simp; try with_reducible rfl)
          go_simp
          refine wpAnyH_ready (rs := [15]) (by kernel_rfl) (by simp) ?_
          refine AllReadyH.cons (o := { dst := some 97, op := Op.call { callee := Callee.value (Operand.func 14), args := #[Operand.tmp 94, Operand.tmp 95, Operand.tmp 96], argTypes := #[3, 34, 3] }, type := 28, pos := "law.go:163", after := #[{ on := 12, ground := Ground.data }, { on := 13, ground := Ground.data }, { on := 14, ground := Ground.data }, { on := 5, ground := Ground.chain }, { on := 5, ground := Ground.guard }], guard := some (5, false) }) rfl (fun K hK => ?_) AllReadyH.nil
          go_simp
          go_at_call 14
          refine (Ck.out _ _ _ _ _ hS.b).mono ?_
          rintro e w' ⟨rfl, b⟩
          have hS2 := hS.next b
          clear b hS
          try go_simp
          refine hK.out _ _ hS2 (fun hS => ?_)
          clear hK K hS2
          refine wpAnyH_ready (rs := [16]) (by kernel_rfl) (by simp) ?_
          refine AllReadyH.cons (o := { dst := some 98, op := Op.call { callee := Callee.value (Operand.func 12), args := #[Operand.tmp 88, Operand.tmp 89, Operand.tmp 97], argTypes := #[22, 34, 28] }, type := 3, pos := "law.go:163", after := #[{ on := 6, ground := Ground.data }, { on := 7, ground := Ground.data }, { on := 15, ground := Ground.data }, { on := 15, ground := Ground.chain }, { on := 5, ground := Ground.guard }], guard := some (5, false) }) rfl (fun K hK => ?_) AllReadyH.nil
          go_simp
          go_at_call 12
          refine (Jk.out _ _ _ _ _ _ _ hS.b (own_VL hS.hK) (own_VL hS.hC) (own_VL hS.hB)).mono ?_
          rintro e w' ⟨rfl, b⟩
          have hS2 := hS.next b
          clear b hS
          try go_simp
          refine hK.out _ _ hS2 (fun hS => ?_)
          clear hK K hS2
          refine wpAnyH_take (i := 18) (oi := { dst := some 100, op := Op.binOp BinOp.neq 3 (Operand.tmp 98) (Operand.tmp 99) 3, type := 4, pos := "law.go:163", after := #[{ on := 16, ground := Ground.data }, { on := 17, ground := Ground.data }, { on := 5, ground := Ground.guard }], guard := some (5, false) }) (v := ?vhzj18) rfl (by kernel_rfl) (by kernel_rfl) (by kernel_rfl) (fun _ _ _ h => h) (Or.inl ⟨by rfl, ?yhzj18⟩) hS ?rhzj18
          case yhzj18 => (intro w hS; go_simp; try with_reducible rfl)
          go_simp
          refine wpAnyH_take (i := 19) (oi := { dst := some 101, op := Op.pick (Operand.tmp 87) (Operand.const (Value.bool true)) (Operand.tmp 100), type := 4, pos := "law.go:163", after := #[{ on := 5, ground := Ground.data }, { on := 18, ground := Ground.data }], guard := none }) (v := ?vhzj19) rfl (by kernel_rfl) (by kernel_rfl) (by kernel_rfl) (fun _ _ _ h => h) (Or.inl ⟨by rfl, ?yhzj19⟩) hS ?rhzj19
          case yhzj19 => (intro w hS; go_simp; try with_reducible rfl)
          refine wpAnyH_done (by kernel_rfl) ?_ _
          have H17 := Lib.hid hS; clear hS
          try dsimp only [Act.put]
          go_wp2
          exact ⟨⟨k + 1, by omega, by go_num, H17⟩, by simp; omega⟩
        ·
          go_simp
          have hrow := heap_alloc_new wr.drew (.cells #[.int .i64 0, .int .i64 0] 55)
          have hlt2 := (Array.getElem?_eq_some_iff.1 hrow).1
          have hS2 := hS.next ((Below.refl _ wr.drew).alloc (Nat.le_refl _) (.cells #[.int .i64 0, .int .i64 0] 55))
          have hS0 := hS
          clear hS
          refine hKb.out _ _ hS2 (fun hS => ?_)
          clear hKb Kb hS2
          refine wpAnyH_ready (rs := [7]) (by kernel_rfl) (by simp) ?_
          refine AllReadyH.cons (o := { dst := some 78, op := Op.call { callee := Callee.value (Operand.func 26), args := #[Operand.tmp 75, Operand.tmp 76, Operand.tmp 77], argTypes := #[3, 34, 3] }, type := 56, pos := "law.go:158", after := #[{ on := 4, ground := Ground.data }, { on := 5, ground := Ground.data }, { on := 6, ground := Ground.data }], guard := none }) rfl (fun Ka hKa => ?_) AllReadyH.nil
          go_simp
          go_at_call 26
          refine (Ok.out _ _ _ _ _ hS.b (own_VL hS.hC) (own_VL hS.hB)).mono ?_
          rintro e w' ⟨rfl, b⟩
          have hS2 := hS.next b
          try go_simp
          replace hrow := (b.block _ hlt2).trans hrow
          have hS3 := hS0.next (Below.setRow' (((Below.refl _ wr.drew).alloc (Nat.le_refl _) (.cells #[.int .i64 0, .int .i64 0] 55)).trans (b.mono (World.size_alloc _ _ ▸ Nat.le_succ _))) (Nat.le_refl wr.drew.heap.size) (#[.int .i64 (oX k), .int .i64 (oY k)]))
          clear hS b hlt2 hS0
          refine hKa.out _ _ hS2 (fun hS => ?_)
          clear hKa Ka hS2
          refine wpAnyH_take (i := 8) (oi := { dst := some 70, op := Op.move (Operand.tmp 78), type := 56, pos := "law.go:158", after := #[{ on := 7, ground := Ground.data }], guard := none }) (v := ?vhxg8) rfl (by kernel_rfl) (by kernel_rfl) (by kernel_rfl) (fun _ _ _ h => h) (Or.inl ⟨by rfl, ?yhxg8⟩) hS ?rhxg8
          case yhxg8 => (intro w hS; go_simp; try with_reducible rfl)
          go_simp
          refine wpAnyH_take (i := 9) (oi := { dst := some 79, op := Op.extract (Operand.tmp 70) 0, type := 55, pos := "law.go:158", after := #[{ on := 8, ground := Ground.data }], guard := none }) (v := ?vhxg9) rfl (by kernel_rfl) (by kernel_rfl) (by kernel_rfl) (fun _ _ _ h => h) (Or.inl ⟨by rfl, ?yhxg9⟩) hS ?rhxg9
          case yhxg9 => (intro w hS; go_simp; try with_reducible rfl)
          refine wpAnyH_take (i := 10) (oi := { dst := some 80, op := Op.extract (Operand.tmp 70) 1, type := 4, pos := "law.go:158", after := #[{ on := 8, ground := Ground.data }, { on := 12, ground := Ground.gcOnly Departure.lateStores }], guard := none }) (v := ?vhxg10) rfl (by kernel_rfl) (by kernel_rfl) (by kernel_rfl) (fun _ _ _ h => h) (Or.inl ⟨by rfl, ?yhxg10⟩) hS ?rhxg10
          case yhxg10 => (intro w hS; go_simp; try with_reducible rfl)
          go_simp
          refine wpAnyH_ready (rs := [12]) (by kernel_rfl) (by simp) ?_
          refine AllReadyH.cons (o := { dst := none, op := Op.store 55 (Operand.tmp 15) (Operand.tmp 79), type := 0, pos := "law.go:158", after := #[{ on := 11, ground := Ground.data }, { on := 9, ground := Ground.data }, { on := 7, ground := Ground.chain }, { on := 0, ground := Ground.phase }, { on := 1, ground := Ground.phase }, { on := 2, ground := Ground.phase }, { on := 3, ground := Ground.phase }, { on := 4, ground := Ground.phase }, { on := 5, ground := Ground.phase }, { on := 6, ground := Ground.phase }, { on := 7, ground := Ground.phase }, { on := 8, ground := Ground.phase }, { on := 9, ground := Ground.phase }, { on := 10, ground := Ground.textOnly Departure.lateStores }, { on := 11, ground := Ground.phase }], guard := none }) rfl (fun K9 hK9 => ?_) AllReadyH.nil
          rw [if_pos (by rfl)]
          refine wp_store_row 55 (.tmp 15) (.tmp 79) rfl wr.drew.heap.size (#[.int .i64 (oX k), .int .i64 (oY k)]) (by first | rfl | (simp [Act.eval])) (by first | rfl | (simp [Act.eval])) 55 _ hrow (infoSh2 _ _).out (sh_sz2 _ _ rfl) (sh_one2 _ _) ?_
          clear hrow
          clear hS
          refine hK9.out _ _ hS3 (fun hS => ?_)
          clear hK9 K9 hS3
          refine wpAnyH_take (i := 13) (oi := { dst := some 16, op := Op.assign (Operand.tmp 80), type := 4, pos := "law.go:158", after := #[{ on := 10, ground := Ground.data }, { on := 12, ground := Ground.chain }, { on := 0, ground := Ground.phase }, { on := 1, ground := Ground.phase }, { on := 2, ground := Ground.phase }, { on := 3, ground := Ground.phase }, { on := 4, ground := Ground.phase }, { on := 5, ground := Ground.phase }, { on := 6, ground := Ground.phase }, { on := 7, ground := Ground.phase }, { on := 8, ground := Ground.phase }, { on := 9, ground := Ground.phase }, { on := 10, ground := Ground.phase }, { on := 11, ground := Ground.phase }, { on := 12, ground := Ground.phase }], guard := none }) (v := ?vhxg13) rfl (by kernel_rfl) (by kernel_rfl) (by kernel_rfl) (fun _ _ _ h => h) (Or.inl ⟨by rfl, ?yhxg13⟩) hS ?rhxg13
          case yhxg13 => (intro w hS; go_simp; try with_reducible rfl)
          go_simp
          refine wpAnyH_done (by kernel_rfl) ?_ _
          have HS13 := Lib.hid hS; clear hS
          try dsimp only [Act.put]
          go_upto_region 17 with fail
          refine wp_region_held_drew (S := GV w [(⟨w.heap.size, 0, none⟩, .slice (some ⟨sb, so, none⟩) n c), (⟨w.heap.size, 1, none⟩, .slice q m e), (⟨w.heap.size, 2, none⟩, .string sd)] sb so K.length sF (.slice kp K.length kc) (.slice cp C.length cc) (.slice bp B.length bc) K C B2 D pt) (by kernel_rfl) HS13.out.drew (fun hS => ?_)
          clear HS13
          refine wpAnyH_take (i := 0) (oi := { dst := some 82, op := Op.move (Operand.tmp 16), type := 4, pos := "law.go:163", after := #[], guard := none }) (v := ?vhzk0) rfl (by kernel_rfl) (by kernel_rfl) (by kernel_rfl) (fun _ _ _ h => h) (Or.inl ⟨by rfl, ?yhzk0⟩) hS ?rhzk0
          case yhzk0 => (intro w hS; go_simp; try with_reducible rfl)
          refine wpAnyH_take (i := 1) (oi := { dst := some 83, op := Op.move (Operand.tmp 14), type := 3, pos := "law.go:163", after := #[], guard := none }) (v := ?vhzk1) rfl (by kernel_rfl) (by kernel_rfl) (by kernel_rfl) (fun _ _ _ h => h) (Or.inl ⟨by rfl, ?yhzk1⟩) hS ?rhzk1
          case yhzk1 => (intro w hS; go_simp; try with_reducible rfl)
          refine wpAnyH_take (i := 2) (oi := { dst := some 84, op := Op.move (Operand.tmp 12), type := 3, pos := "law.go:163", after := #[], guard := none }) (v := ?vhzk2) rfl (by kernel_rfl) (by kernel_rfl) (by kernel_rfl) (fun _ _ _ h => h) (Or.inl ⟨by rfl, ?yhzk2⟩) hS ?rhzk2
          case yhzk2 => (intro w hS; go_simp; try with_reducible rfl)
          go_simp
          refine wpAnyH_take (i := 3) (oi := { dst := some 85, op := Op.binOp BinOp.eql 3 (Operand.tmp 83) (Operand.tmp 84) 3, type := 4, pos := "law.go:163", after := #[{ on := 1, ground := Ground.data }, { on := 2, ground := Ground.data }], guard := none }) (v := ?vhzk3) rfl (by kernel_rfl) (by kernel_rfl) (by kernel_rfl) (fun _ _ _ h => h) (Or.inl ⟨by rfl, ?yhzk3⟩) hS ?rhzk3
          case yhzk3 => (intro w hS; go_simp; try with_reducible rfl)
          go_simp
          refine wpAnyH_take (i := 4) (oi := { dst := some 86, op := Op.binOp BinOp.eql 4 (Operand.tmp 82) (Operand.tmp 85) 4, type := 4, pos := "law.go:163", after := #[{ on := 0, ground := Ground.data }, { on := 3, ground := Ground.data }], guard := none }) (v := ?vhzk4) rfl (by kernel_rfl) (by kernel_rfl) (by kernel_rfl) (fun _ _ _ h => h) (Or.inl ⟨by rfl, ?yhzk4⟩) hS ?rhzk4
          case yhzk4 => (intro w hS; go_simp; try with_reducible rfl)
          go_simp
          refine wpAnyH_take (i := 5) (oi := { dst := some 87, op := Op.move (Operand.tmp 86), type := 4, pos := "law.go:163", after := #[{ on := 4, ground := Ground.data }], guard := none }) (v := ?vhzk5) rfl (by kernel_rfl) (by kernel_rfl) (by kernel_rfl) (fun _ _ _ h => h) (Or.inl ⟨by rfl, ?yhzk5⟩) hS ?rhzk5
          case yhzk5 => (intro w hS; go_simp; try with_reducible rfl)
          go_simp
          refine wpAnyH_take (i := 6) (oi := { dst := some 88, op := Op.move (Operand.tmp 8), type := 22, pos := "law.go:163", after := #[{ on := 5, ground := Ground.guard }], guard := some (5, false) }) (v := ?vhzk6) rfl (by kernel_rfl) (by kernel_rfl) (by kernel_rfl) (fun _ _ _ h => h) (Or.inl ⟨by rfl, ?yhzk6⟩) hS ?rhzk6
          case yhzk6 => (intro w hS; go_simp; try with_reducible rfl)
          refine wpAnyH_take (i := 7) (oi := { dst := some 89, op := Op.load 34 (Operand.tmp 10), type := 34, pos := "law.go:163", after := #[{ on := 5, ground := Ground.guard }], guard := some (5, false) }) (v := .agg #[.slice cp C.length cc, .int .i64 pt, .slice bp B.length bc]) rfl (by kernel_rfl) (by kernel_rfl) (by kernel_rfl) (fun _ _ _ h => h) (Or.inl ⟨by rfl, ?yhzk7⟩) hS ?rhzk7
          case yhzk7 => (intro w' hS; have cf := hS.d; go_simp; try with_reducible rfl)
          refine wpAnyH_take (i := 8) (oi := { dst := some 90, op := Op.fieldAddr 24 (Operand.tmp 3) 0, type := 0, pos := "law.go:163", after := #[{ on := 5, ground := Ground.guard }], guard := some (5, false) }) (v := ?vhzk8) rfl (by kernel_rfl) (by kernel_rfl) (by kernel_rfl) (fun _ _ _ h => h) (Or.inl ⟨by rfl, ?yhzk8⟩) hS ?rhzk8
          case yhzk8 => (intro w hS; go_simp; try with_reducible rfl)
          refine wpAnyH_take (i := 10) (oi := { dst := some 92, op := Op.move (Operand.tmp 14), type := 3, pos := "law.go:163", after := #[{ on := 5, ground := Ground.guard }], guard := some (5, false) }) (v := ?vhzk10) rfl (by kernel_rfl) (by kernel_rfl) (by kernel_rfl) (fun _ _ _ h => h) (Or.inl ⟨by rfl, ?yhzk10⟩) hS ?rhzk10
          case yhzk10 => (intro w hS; go_simp; try with_reducible rfl)
          refine wpAnyH_take (i := 13) (oi := { dst := some 95, op := Op.load 34 (Operand.tmp 10), type := 34, pos := "law.go:163", after := #[{ on := 5, ground := Ground.guard }], guard := some (5, false) }) (v := .agg #[.slice cp C.length cc, .int .i64 pt, .slice bp B.length bc]) rfl (by kernel_rfl) (by kernel_rfl) (by kernel_rfl) (fun _ _ _ h => h) (Or.inl ⟨by rfl, ?yhzk13⟩) hS ?rhzk13
          case yhzk13 => (intro w' hS; have cf := hS.d; go_simp; try with_reducible rfl)
          refine wpAnyH_take (i := 14) (oi := { dst := some 96, op := Op.move (Operand.tmp 14), type := 3, pos := "law.go:163", after := #[{ on := 5, ground := Ground.guard }], guard := some (5, false) }) (v := ?vhzk14) rfl (by kernel_rfl) (by kernel_rfl) (by kernel_rfl) (fun _ _ _ h => h) (Or.inl ⟨by rfl, ?yhzk14⟩) hS ?rhzk14
          case yhzk14 => (intro w hS; go_simp; try with_reducible rfl)
          refine wpAnyH_take (i := 17) (oi := { dst := some 99, op := Op.move (Operand.tmp 17), type := 3, pos := "law.go:163", after := #[{ on := 5, ground := Ground.guard }], guard := some (5, false) }) (v := ?vhzk17) rfl (by kernel_rfl) (by kernel_rfl) (by kernel_rfl) (fun _ _ _ h => h) (Or.inl ⟨by rfl, ?yhzk17⟩) hS ?rhzk17
          case yhzk17 => (intro w hS; go_simp; try with_reducible rfl)
          go_simp
          refine wpAnyH_take (i := 9) (oi := { dst := some 91, op := Op.load 22 (Operand.tmp 90), type := 22, pos := "law.go:163", after := #[{ on := 8, ground := Ground.data }, { on := 5, ground := Ground.guard }], guard := some (5, false) }) (v := .slice (some ⟨sb, so, none⟩) n c) rfl (by kernel_rfl) (by kernel_rfl) (by kernel_rfl) (fun _ _ _ h => h) (Or.inl ⟨by rfl, ?yhzk9⟩) hS ?rhzk9
          case yhzk9 => (intro w' hS; have cf := hS.get ⟨w.heap.size, 0, none⟩ (.slice (some ⟨sb, so, none⟩) n c) (by simp); go_simp; try with_reducible rfl)
          go_simp
          refine wpAnyH_take (i := 11) (oi := { dst := some 93, op := Op.indexAddr 22 (Operand.tmp 91) (Operand.tmp 92), type := 0, pos := "law.go:163", after := #[{ on := 9, ground := Ground.data }, { on := 10, ground := Ground.data }, { on := 5, ground := Ground.guard }], guard := some (5, false) }) (v := ?vhzk11) rfl (by kernel_rfl) (by kernel_rfl) (by kernel_rfl) (fun _ _ _ h => h) (Or.inl ⟨by rfl, ?yhzk11⟩) hS ?rhzk11
          case yhzk11 => (intro w hS; go_simp; try with_reducible rfl)
          go_simp
          refine wpAnyH_take (i := 12) (oi := { dst := some 94, op := Op.load 3 (Operand.tmp 93), type := 3, pos := "law.go:163", after := #[{ on := 11, ground := Ground.data }, { on := 5, ground := Ground.guard }], guard := some (5, false) }) (v := .int .i64 (sF k)) rfl (by kernel_rfl) (by kernel_rfl) (by kernel_rfl) (fun _ _ _ h => h) (Or.inl ⟨by rfl, ?yhzk12⟩) hS ?rhzk12
          case yhzk12 => (intro w' hS; have cf := hS.q.sec k hlt; go_simp; try with_reducible rfl)
          go_simp
          refine wpAnyH_ready (rs := [15]) (by kernel_rfl) (by simp) ?_
          refine AllReadyH.cons (o := { dst := some 97, op := Op.call { callee := Callee.value (Operand.func 14), args := #[Operand.tmp 94, Operand.tmp 95, Operand.tmp 96], argTypes := #[3, 34, 3] }, type := 28, pos := "law.go:163", after := #[{ on := 12, ground := Ground.data }, { on := 13, ground := Ground.data }, { on := 14, ground := Ground.data }, { on := 5, ground := Ground.chain }, { on := 5, ground := Ground.guard }], guard := some (5, false) }) rfl (fun K hK => ?_) AllReadyH.nil
          go_simp
          go_at_call 14
          refine (Ck.out _ _ _ _ _ hS.b).mono ?_
          rintro e w' ⟨rfl, b⟩
          have hS2 := hS.next b
          clear b hS
          try go_simp
          refine hK.out _ _ hS2 (fun hS => ?_)
          clear hK K hS2
          refine wpAnyH_ready (rs := [16]) (by kernel_rfl) (by simp) ?_
          refine AllReadyH.cons (o := { dst := some 98, op := Op.call { callee := Callee.value (Operand.func 12), args := #[Operand.tmp 88, Operand.tmp 89, Operand.tmp 97], argTypes := #[22, 34, 28] }, type := 3, pos := "law.go:163", after := #[{ on := 6, ground := Ground.data }, { on := 7, ground := Ground.data }, { on := 15, ground := Ground.data }, { on := 15, ground := Ground.chain }, { on := 5, ground := Ground.guard }], guard := some (5, false) }) rfl (fun K hK => ?_) AllReadyH.nil
          go_simp
          go_at_call 12
          refine (Jk.out _ _ _ _ _ _ _ hS.b (own_VL hS.hK) (own_VL hS.hC) (own_VL hS.hB)).mono ?_
          rintro e w' ⟨rfl, b⟩
          have hS2 := hS.next b
          clear b hS
          try go_simp
          refine hK.out _ _ hS2 (fun hS => ?_)
          clear hK K hS2
          refine wpAnyH_take (i := 18) (oi := { dst := some 100, op := Op.binOp BinOp.neq 3 (Operand.tmp 98) (Operand.tmp 99) 3, type := 4, pos := "law.go:163", after := #[{ on := 16, ground := Ground.data }, { on := 17, ground := Ground.data }, { on := 5, ground := Ground.guard }], guard := some (5, false) }) (v := ?vhzk18) rfl (by kernel_rfl) (by kernel_rfl) (by kernel_rfl) (fun _ _ _ h => h) (Or.inl ⟨by rfl, ?yhzk18⟩) hS ?rhzk18
          case yhzk18 => (intro w hS; go_simp; try with_reducible rfl)
          go_simp
          refine wpAnyH_take (i := 19) (oi := { dst := some 101, op := Op.pick (Operand.tmp 87) (Operand.const (Value.bool true)) (Operand.tmp 100), type := 4, pos := "law.go:163", after := #[{ on := 5, ground := Ground.data }, { on := 18, ground := Ground.data }], guard := none }) (v := ?vhzk19) rfl (by kernel_rfl) (by kernel_rfl) (by kernel_rfl) (fun _ _ _ h => h) (Or.inl ⟨by rfl, ?yhzk19⟩) hS ?rhzk19
          case yhzk19 => (intro w hS; go_simp; try with_reducible rfl)
          refine wpAnyH_done (by kernel_rfl) ?_ _
          have H17 := Lib.hid hS; clear hS
          try dsimp only [Act.put]
          go_wp2
          exact ⟨⟨k + 1, by omega, by go_num, H17⟩, by simp; omega⟩
    · obtain rfl : k = K.length := by omega
      have HE := Lib.hid HR.out.b
      clear HR
      go_wp2
      go_ret
      exact ⟨rfl, HE.out⟩
end Go.Proofs.YtjfbpmpdcmealaaGreatDoor.D7
namespace Go.Proofs.YtjfbpmpdcmealaaGreatDoor.D7
open Go.RowKit GM SH G4 E6 D7P
set_option maxRecDepth 100000 in
set_option maxHeartbeats 8000000 in
theorem guilty_no (w : World) (p q : Option Addr) (n c m e : Nat) (sd : ByteArray) (wh at_ : Int) (K N : List Int) (hT : TS w) (hN : N.length = 0)
    (S0 : Hid (∀ W, TS W → Calls Tryz.prog 8 #[] W fun e w' => e = .returned (.bool true) ∧ Below W.heap.size W w'))
    (K1 : Hid (∀ W, Below w.heap.size w W → Calls Tryz.prog 9 #[.agg #[.slice p n c, .slice q m e, .string sd]] W (OwnQ W K)))
    (N1 : Hid (∀ W, Below w.heap.size w W → Calls Tryz.prog 10 #[.agg #[.slice p n c, .slice q m e, .string sd]] W (OwnQ W N))) :
    Calls Tryz.prog 7 #[.agg #[.slice p n c, .slice q m e, .string sd], .int .u8 wh, .int .u8 at_] w fun e w' => e = .returned (.bool true) ∧ Below w.heap.size w w' := by
  obtain ⟨W, hW⟩ : ∃ W, w.alloc (.cells #[.slice p n c, .slice q m e, .string sd] 24) = W := ⟨_, rfl⟩
  have K0 : GQ w [(⟨w.heap.size, 0, none⟩, .slice p n c), (⟨w.heap.size, 1, none⟩, .slice q m e), (⟨w.heap.size, 2, none⟩, .string sd)] 0 0 0 (fun _ => 0) W := by
    have a1 := (CK.start w).cells #[.slice p n c, .slice q m e, .string sd] 24 _ rfl
    rw [hW] at a1
    refine ⟨a1.b, by rw [← hW]; simp, fun x hx => ?_, fun k hk => by omega⟩
    simp only [List.mem_cons, List.not_mem_nil, or_false] at hx
    rcases hx with rfl | rfl | rfl
    all_goals exact ⟨by dsimp only; omega, a1.c _ (by simp)⟩
  have HK := Lib.hid K0; clear K0
  have HT0 := Lib.hid hT; clear hT
  go_enter Tryz.func7, Tryz.ntmps7
  go_upto_region 1 with fail
  clear hW
  go_wp2_with fail
  refine (S0.out _ (HT0.out.below HK.out.b)).mono ?_
  rintro e w1 ⟨rfl, b⟩
  have H1 := Lib.hid (HK.out.next b); clear b HK S0
  go_upto_region 2 with fail
  refine wp_region_held_drew (S := GQ w [(⟨w.heap.size, 0, none⟩, .slice p n c), (⟨w.heap.size, 1, none⟩, .slice q m e), (⟨w.heap.size, 2, none⟩, .string sd)] 0 0 0 (fun _ => 0)) (by kernel_rfl) H1.out.drew (fun hS => ?_)
  clear H1
  refine wpAnyH_take (i := 0) (oi := { dst := some 19, op := Op.load 24 (Operand.tmp 3), type := 24, pos := "law.go:148", after := #[], guard := none }) (v := .agg #[.slice p n c, .slice q m e, .string sd]) rfl (by kernel_rfl) (by kernel_rfl) (by kernel_rfl) (fun _ _ _ h => h) (Or.inl ⟨by rfl, ?yhn0⟩) hS ?rhn0
  case yhn0 => (intro w' hS; have cf := (show w'.cell? ⟨w.heap.size, 0, none⟩ = some (.slice p n c) ∧ w'.cell? ⟨w.heap.size, 1, none⟩ = some (.slice q m e) ∧ w'.cell? ⟨w.heap.size, 2, none⟩ = some (.string sd) from ⟨hS.get _ _ (by simp), hS.get _ _ (by simp), hS.get _ _ (by simp)⟩); go_simp; try with_reducible rfl)
  refine wpAnyH_take (i := 2) (oi := { dst := some 21, op := Op.load 24 (Operand.tmp 3), type := 24, pos := "law.go:148", after := #[], guard := none }) (v := .agg #[.slice p n c, .slice q m e, .string sd]) rfl (by kernel_rfl) (by kernel_rfl) (by kernel_rfl) (fun _ _ _ h => h) (Or.inl ⟨by rfl, ?yhn2⟩) hS ?rhn2
  case yhn2 => (intro w' hS; have cf := (show w'.cell? ⟨w.heap.size, 0, none⟩ = some (.slice p n c) ∧ w'.cell? ⟨w.heap.size, 1, none⟩ = some (.slice q m e) ∧ w'.cell? ⟨w.heap.size, 2, none⟩ = some (.string sd) from ⟨hS.get _ _ (by simp), hS.get _ _ (by simp), hS.get _ _ (by simp)⟩); go_simp; try with_reducible rfl)
  go_simp
  refine wpAnyH_ready (rs := [1]) (by kernel_rfl) (by simp) ?_
  refine AllReadyH.cons (o := { dst := some 20, op := Op.call { callee := Callee.value (Operand.func 9), args := #[Operand.tmp 19], argTypes := #[24] }, type := 22, pos := "law.go:148", after := #[{ on := 0, ground := Ground.data }], guard := none }) rfl (fun K hK => ?_) AllReadyH.nil
  go_simp
  go_at_call 9
  refine (K1.out _ hS.b).mono ?_
  rintro e w' ⟨v1, rfl, o1, b⟩
  have o1 := own_base o1 hS.s
  have hS2 := hS.next b
  clear b hS
  try go_simp
  refine hK.out _ _ hS2 (fun hS => ?_)
  clear hK K hS2
  refine wpAnyH_ready (rs := [3]) (by kernel_rfl) (by simp) ?_
  refine AllReadyH.cons (o := { dst := some 22, op := Op.call { callee := Callee.value (Operand.func 10), args := #[Operand.tmp 21], argTypes := #[24] }, type := 22, pos := "law.go:148", after := #[{ on := 2, ground := Ground.data }, { on := 1, ground := Ground.chain }], guard := none }) rfl (fun K hK => ?_) AllReadyH.nil
  go_simp
  go_at_call 10
  refine (N1.out _ hS.b).mono ?_
  rintro e w' ⟨v2, rfl, o2, b⟩
  have o2 := own_base o2 hS.s
  have o1 := own_below o1 b
  have hS2 := hS.next b
  clear b hS
  try go_simp
  refine hK.out _ _ hS2 (fun hS => ?_)
  clear hK K hS2
  refine wpAnyH_take (i := 4) (oi := { dst := some 8, op := Op.assign (Operand.tmp 20), type := 22, pos := "law.go:148", after := #[{ on := 1, ground := Ground.data }, { on := 3, ground := Ground.chain }, { on := 0, ground := Ground.phase }, { on := 1, ground := Ground.phase }, { on := 2, ground := Ground.textOnly Departure.lateStores }, { on := 3, ground := Ground.textOnly Departure.lateStoresUnsure }], guard := none }) (v := ?vhn4) rfl (by kernel_rfl) (by kernel_rfl) (by kernel_rfl) (fun _ _ _ h => h) (Or.inl ⟨by rfl, ?yhn4⟩) hS ?rhn4
  case yhn4 => (intro w hS; go_simp; try with_reducible rfl)
  go_simp
  refine wpAnyH_take (i := 5) (oi := { dst := some 9, op := Op.assign (Operand.tmp 22), type := 22, pos := "law.go:148", after := #[{ on := 3, ground := Ground.data }, { on := 4, ground := Ground.chain }, { on := 0, ground := Ground.phase }, { on := 1, ground := Ground.phase }, { on := 2, ground := Ground.phase }, { on := 3, ground := Ground.phase }, { on := 4, ground := Ground.phase }], guard := none }) (v := ?vhn5) rfl (by kernel_rfl) (by kernel_rfl) (by kernel_rfl) (fun _ _ _ h => h) (Or.inl ⟨by rfl, ?yhn5⟩) hS ?rhn5
  case yhn5 => (intro w hS; go_simp; try with_reducible rfl)
  refine wpAnyH_done (by kernel_rfl) ?_ _
  obtain ⟨np, nc, rfl⟩ := own_nil _ o2
  have H2 := Lib.hid hS.b; clear hS o1 o2
  try dsimp only [Act.put]
  have hNe : ((N.length : Int) == 0) = true := by rw [hN]; rfl
  go_wp2
  go_ret
  exact ⟨rfl, H2.out⟩
theorem flip_x (at_ : Int) (h0 : 0 ≤ at_) (h1 : at_ ≤ 255) : ∃ (a : Nat) (x : UInt8), Int.tmod at_ 16 = (a : Int) ∧ a < 16 ∧ 1 + at_ / 16 = (x.toNat : Int) ∧ x ≠ 0 := by
  have h16 := Int.tmod_eq_emod_of_nonneg (a := at_) (b := 16) h0
  have e := UInt8.toNat_ofNat_of_lt' (n := (1 + at_ / 16).toNat) (by show _ < 256; omega)
  refine ⟨(at_ % 16).toNat, UInt8.ofNat (1 + at_ / 16).toNat, by rw [h16]; omega, by omega, by rw [e]; omega, fun h => ?_⟩
  rw [h] at e
  have : (0 : UInt8).toNat = 0 := rfl
  omega
theorem chk_set (S C : List Int) (sd : ByteArray) (n0 : Nat) (s2 : ByteArray) (h16 : s2.size = 16) (h : 1 ≤ (NL S C).length) : chk ((NL S C).map (pp 4)) (pp 4 (dk sd)) ((dbs (NL S C) (KL S) (dk sd) (KL S).length).set n0 s2) (KL S).length = true := by
  have h1 := NL_len S C
  have h2 := KL_len S
  have h3 : ((dbs (NL S C) (KL S) (dk sd) (KL S).length).set n0 s2).all (fun b => b.size == 16) = true := List.all_eq_true.2 fun b hb => by
    rcases List.mem_or_eq_of_mem_set hb with hb | rfl
    · exact List.all_eq_true.1 (BX_all _ _ _ _) b hb
    · rw [h16]; rfl
  unfold chk
  rw [h3, List.length_set, dbs_len, List.length_map, pt_mem, CM_mem, decide_eq_false (by omega), decide_eq_false (by omega)]
  simp
theorem guilty_law (w : World) (v0 v1 : Value) (S C : List Int) (sd : ByteArray) (wh at_ : Int) (hS : AL w v0 S) (hC : AL w v1 C) (hsd : sd.size ≤ 140737488355300) (hwh : 0 ≤ wh ∧ wh ≤ 255) (hat : 0 ≤ at_ ∧ at_ ≤ 255) (hT : TS w) :
    Calls Tryz.prog 7 #[.agg #[v0, v1, .string sd], .int .u8 wh, .int .u8 at_] w fun e w' => e = .returned (.bool true) ∧ Below w.heap.size w w' := by
  have hS' := hS
  have hC' := hC
  obtain ⟨p, n, c, rfl, a1, a2, a3, a4, a5, a6⟩ := hS
  obtain ⟨q, m, e, rfl, b1, b2, b3, b4, b5, b6⟩ := hC
  have hn9 : (n : Int) ≤ 9223372036854775807 := by unfold maxLen at a3; omega
  have al : ∀ {W : World} {v : Value} {l : List Int}, AL w v l → Below w.heap.size w W → AL W v l := fun {W v l} h b => by
    obtain ⟨p, n, c, e, h1, h2, h3, h4, h5, h6⟩ := h
    exact ⟨p, n, c, e, h1, h2, h3, h4.below b, h5, h6⟩
  have K1 : Hid (∀ W, Below w.heap.size w W → Calls Tryz.prog 9 #[.agg #[.slice p n c, .slice q m e, .string sd]] W (OwnQ W (KL S))) := Lib.hid fun W b => Keys_any W p q n c m e sd S (al hS' b)
  have N1 : Hid (∀ W, Below w.heap.size w W → Calls Tryz.prog 10 #[.agg #[.slice p n c, .slice q m e, .string sd]] W (OwnQ W (NL S C))) := Lib.hid fun W b => Numbers_any W q p m e n c sd S C a1 hn9 (al hC' b)
  have hKl := KL_len S
  have hNl := NL_len S C
  by_cases hN : (NL S C).length = 0
  · exact guilty_no w p q n c m e sd wh at_ (KL S) (NL S C) hT hN (Lib.hid fun W h => sanity_any W h) K1 N1
  · have hN1 : 1 ≤ (NL S C).length := by omega
    have hK1 : 1 ≤ (KL S).length := by omega
    obtain ⟨n0, hn0⟩ : ∃ k : Nat, Int.tmod wh ((KL S).length : Int) = (k : Int) := ⟨(Int.tmod wh ((KL S).length : Int)).toNat, by
      rw [Int.tmod_eq_emod_of_nonneg hwh.1]
      have := Int.emod_nonneg wh (b := ((KL S).length : Int)) (by omega); omega⟩
    have hnl : n0 < (KL S).length := by
      rw [Int.tmod_eq_emod_of_nonneg hwh.1] at hn0
      have := Int.emod_lt_of_pos wh (b := ((KL S).length : Int)) (by omega); omega
    obtain ⟨a, x, ha, ha16, hx, hx0⟩ := flip_x at_ hat.1 hat.2
    obtain ⟨p', c', e1, hcell⟩ := a4.form
    injection e1 with e2 e3 e4
    subst e2 e4
    obtain ⟨s0', hs0'⟩ : ∃ s, S[n0]? = some s := ⟨S[n0]'(by omega), List.getElem?_eq_getElem _⟩
    obtain ⟨sb, so, rfl, _⟩ := hcell n0 s0' hs0'
    have hsS : ∀ k, k < (KL S).length → S[k]? = some (S[k]?.getD 0) := fun k hk => by rw [List.getElem?_eq_getElem (show k < S.length by omega)]; rfl
    have hsi : ∀ k, k < (KL S).length → i64 (S[k]?.getD 0) := fun k hk => a5 _ (List.mem_of_getElem? (hsS k hk))
    have hKk : ∀ k, k < (KL S).length → (KL S)[k]? = some (pp 4 (ex (S[k]?.getD 0))) := fun k hk => KL_get S k _ (hsS k hk) hk
    have h16 : (dbx (NL S C) (KL S) (dk sd) n0).size = 16 := by
      show (dbx (NL S C) (KL S) (dk sd) n0).data.size = 16
      rw [← Array.length_toList, dbx_own _ _ _ _ n0 (hKk n0 hnl), bx_len _ _ (pd_len _ _)]
    obtain ⟨s0, hs0⟩ : ∃ s, dbx (NL S C) (KL S) (dk sd) n0 = s := ⟨_, rfl⟩
    have hB0 : (dbs (NL S C) (KL S) (dk sd) (KL S).length)[n0]? = some s0 := by rw [dbs_get _ _ _ _ n0 hnl, hs0]
    have hfl := guilty_fits S C sd (S[n0]?.getD 0) n0 (hKk n0 hnl) a x ha16 hx0
    rw [hs0] at hfl h16
    obtain ⟨s2, hs2⟩ : ∃ s2, ByteArray.mk ((s0.data.toList.set a (s0.data.toList[a]?.getD 0 ^^^ x)).toArray) = s2 := ⟨_, rfl⟩
    have hl2 : s2.data.toList = s0.data.toList.set a (s0.data.toList[a]?.getD 0 ^^^ x) := by rw [← hs2]
    rw [← hl2] at hfl
    have h162 : s2.size = 16 := by
      show s2.data.size = 16
      rw [← Array.length_toList, hl2, List.length_set, Array.length_toList]; exact h16
    have hB2 : ∀ k, k < (KL S).length → ((dbs (NL S C) (KL S) (dk sd) (KL S).length).set n0 s2)[k]? = some (if k = n0 then s2 else dbx (NL S C) (KL S) (dk sd) k) := fun k hk => by
      by_cases e : k = n0
      · subst e
        rw [if_pos rfl, List.getElem?_set_self (by rw [dbs_len]; exact hk)]
      · rw [if_neg e, List.getElem?_set_ne (fun h => e h.symm), dbs_get _ _ _ _ k hk]
    have htk : ∀ k, k < (KL S).length → tk (pp (pp 4 (dk sd)) (ex (S[k]?.getD 0))) (k : Int) (if k = n0 then s2 else dbx (NL S C) (KL S) (dk sd) k).data.toList ((NL S C).map (pp 4)) = decide (k ≠ n0) := fun k hk => by
      by_cases e : k = n0
      · subst e
        rw [if_pos rfl, hfl]; simp
      · rw [if_neg e, own_fits S C sd _ k (hKk k hk)]; simp [e]
    refine guilty_core w sb so n c m e q sd wh at_ (KL S) (NL S C) ((NL S C).map (pp 4)) (pp 4 (dk sd)) (dbs (NL S C) (KL S) (dk sd) (KL S).length) n0 a s0 x (fun k => S[k]?.getD 0)
      (fun k => if decide (k ≠ n0) then (k : Int) + 1 else 0) (fun k => if decide (k ≠ n0) then ct (if k = n0 then s2 else dbx (NL S C) (KL S) (dk sd) k).data.toList (pd (pp (pp 4 (dk sd)) (ex (S[k]?.getD 0))) k) else 0)
      (fun k => pp (pp 4 (dk sd)) (ex (S[k]?.getD 0))) (fun k => prC (S[k]?.getD 0) 4 (pp 4 (dk sd))) (fun k => prZ (S[k]?.getD 0) 4 (pp 4 (dk sd)))
      (fun k => jd ((NL S C).map (pp 4)) (pp 4 (ex (S[k]?.getD 0))) (pp 4 (dk sd)) (if k = n0 then s2 else dbx (NL S C) (KL S) (dk sd) k).data.toList k (pp (pp 4 (dk sd)) (ex (S[k]?.getD 0))) (prC (S[k]?.getD 0) 4 (pp 4 (dk sd))) (prZ (S[k]?.getD 0) 4 (pp 4 (dk sd))))
      (fun k => decide (k ≠ n0)) hn9 (by omega) (by omega) hnl hn0 hwh ha ha16 hx hat hN1 (dbs_len _ _ _ _) hB0 h16
      (fun k hk => ?_) hT (Lib.hid fun W h => sanity_any W h) K1 N1 (Lib.hid fun W cv kv h1 h2 => ?_) (Lib.hid fun k hk W cp cc bp bc b h1 h2 => ?_) (Lib.hid fun k hk W cp cc bp bc b => ?_) (Lib.hid fun k hk W kp kc cp cc bp bc b h1 h2 h3 => ?_) (Lib.hid fun k hk => ⟨fun e => ?_, fun e => ?_⟩)
    · obtain ⟨b', o', hp, hc⟩ := hcell k _ (hsS k hk)
      injection hp with hp
      injection hp with hp1 hp2
      subst hp1 hp2
      exact hc
    · exact (refDeal_yes W cv kv (NL S C) (KL S) sd h1 h2 (NL_i S C) (KL_i S) hsd (by omega) hN1 (by omega) (fun x hx => inQ_iff.1 (List.all_eq_true.1 (NL_q S C) x hx)) (KL_mem S)).mono fun e w' hh => pairO_yes hh
    · rw [hs2] at h2
      exact Open_any W _ _ k cp bp _ cc _ bc _ _ _ (hB2 k hk) h1 h2 (pp4_i _) (by rw [List.length_map]; omega) (by rw [dbs_len]; omega) (hsi k hk) (pp_i _ _) (hT.below b) _ (htk k hk)
    · exact Complain_any W _ _ k cp bp _ cc _ bc (by rw [dbs_len]; exact hk) (hsi k hk) (pt_mem sd) (hT.below b)
    · rw [hs2] at h3
      exact Judge_any W k _ _ _ _ _ kp cp bp _ kc _ cc _ bc (KL S) _ _ _ h1 h2 h3 (hKk k hk) (hB2 k hk) (KL_i S) (pp4_i _) (pp_i _ _) (pp_i _ _) (prC_i64 _ 4 _) (prZ_i64 _ 4 _) (chk_set S C sd n0 s2 h162 hN1) (by omega) (by rw [dbs_len]; omega) (by rw [List.length_map]; omega) (hT.below b)
    · subst e
      refine ⟨by simp, ?_⟩
      show jd _ _ _ _ _ _ _ _ = 1
      unfold jd
      rw [vf_holds _ 4 (pp 4 (dk sd)) mem4 (pt_mem sd), htk k hk]; simp
    · refine ⟨by simp [e], ?_⟩
      show jd _ _ _ _ _ _ _ _ = 2
      unfold jd
      rw [vf_holds _ 4 (pp 4 (dk sd)) mem4 (pt_mem sd), htk k hk]; simp [e]
end Go.Proofs.YtjfbpmpdcmealaaGreatDoor.D7
