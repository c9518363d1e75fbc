/-
  The walk of the law DigestLess.
-/
import Derived.Test.YtmanflkiffgphaaDoorLess
import Derived.Test.YtmanflkiffgphaaDoorOpenHash
import Derived.Deep.RegionHeld3
namespace Go.Proofs.YtmanflkiffgphaaDoor
open Go.RowKit SH
theorem dig_lt (a b : Nat) (ha : a < 16) (hb : b < 16) : decide (digs.getD a 0 < digs.getD b 0) = decide (a < b) := by
  have : ∀ a, a < 16 → ∀ b, b < 16 → decide (digs.getD a 0 < digs.getD b 0) = decide (a < b) := by decide
  exact this a ha b hb
theorem dig_eq (a b : Nat) (ha : a < 16) (hb : b < 16) : (digs.getD a 0 == digs.getD b 0) = decide (a = b) := by
  have : ∀ a, a < 16 → ∀ b, b < 16 → (digs.getD a 0 == digs.getD b 0) = decide (a = b) := by decide
  exact this a ha b hb
theorem hex_less : ∀ (a b : List UInt8), a.length = b.length → Op.bytesLess (hex a) (hex b) = lt8 a b
  | [], [], _ => rfl
  | [], _ :: _, h => by simp at h
  | _ :: _, [], h => by simp at h
  | x :: a, y :: b, h => by
    have hx := x.toNat_lt
    have hy := y.toNat_lt
    have ih := hex_less a b (by simpa using h)
    simp only [hex, Op.bytesLess]
    rw [dig_lt _ _ (by omega) (by omega), dig_eq _ _ (by omega) (by omega), dig_lt _ _ (by omega) (by omega), dig_eq _ _ (by omega) (by omega), ih, lt8]
    by_cases e : x = y
    · subst e; simp
    · have hne : x.toNat ≠ y.toNat := fun e2 => e (UInt8.toNat_inj.1 e2)
      rw [if_neg e, Bool.eq_iff_iff]
      simp only [Bool.or_eq_true, Bool.and_eq_true, decide_eq_true_eq]
      constructor
      · intro h; rcases h with h | ⟨h1, h2 | ⟨h2, _⟩⟩ <;> omega
      · intro h
        by_cases h1 : x.toNat / 16 < y.toNat / 16
        · exact .inl h1
        · exact .inr ⟨by omega, .inl (by omega)⟩
theorem three (a b : List UInt8) (h : a.length = b.length) :
    (lt8 a b = true ∧ lt8 b a = false ∧ (a == b) = false) ∨ (lt8 a b = false ∧ lt8 b a = true ∧ (a == b) = false) ∨ (lt8 a b = false ∧ lt8 b a = false ∧ (a == b) = true) := by
  by_cases e : a = b
  · subst e; exact .inr (.inr ⟨lt8_same _, lt8_same _, by simp⟩)
  · obtain ⟨m, h1, h2, h3⟩ := first_diff a b h e
    have l1 := lt8_at a b m h h1 h2 h3
    have l2 := lt8_at b a m h.symm (by omega) (fun j hj => (h2 j hj).symm) (Ne.symm h3)
    have he : (a == b) = false := by simp [e]
    by_cases hlt : gb a m < gb b m
    · exact .inl ⟨by rw [l1]; simp [hlt], by rw [l2]; simp; omega, he⟩
    · exact .inr (.inl ⟨by rw [l1]; simp [hlt], by rw [l2]; simp; omega, he⟩)
set_option maxRecDepth 100000 in
set_option maxHeartbeats 4000000 in
theorem less_walk (w : World) (la : List UInt8) (hla : la.length = 32) (lb : List UInt8) (hlb : lb.length = 32) (n : Int) (hn : -9223372036854775808 ≤ n ∧ n ≤ 9223372036854775807) (hT : TB w) :
    Calls Tryd.prog 8 #[hval la, hval lb, .int .i64 n] w fun e w' => e = .returned (.bool true) ∧ Below w.heap.size w w' := by
  have ts := ts_start w la lb
  have k1 := fun W => mod_any W n 33 33 rfl (by omega) (by omega) hn
  have l1 := (modv_spec n 33 (by omega)).2
  obtain ⟨r1, e1⟩ : ∃ r, modv n 33 = r := ⟨_, rfl⟩
  rw [e1] at k1 l1
  clear e1
  have HK := Lib.hid (And.intro hla (And.intro hlb (And.intro hT (And.intro ts k1)))); clear hla hlb hT ts k1 hn
  obtain ⟨W0, hW0⟩ : ∃ W, (w.alloc (.cells (hcells la) 24)).alloc (.cells (hcells lb) 24) = W := ⟨_, rfl⟩
  rw [hW0] at HK
  go_enter Tryd.func8, Tryd.ntmps8
  go_upto_region 1 with fail
  clear hW0
  go_wp2_with fail
  go_must (go_fit (sane _ (HK.out.2.2.1.below HK.out.2.2.2.1.2.2)))
  rintro e w1 ⟨rfl, b1⟩
  have t1 := Lib.hid (TS.next HK.out.2.2.2.1 b1); clear b1
  go_upto_region 3 with fail
  go_loopw [8] (fun i wr => ∃ (k : Nat) (kk : Int) (l : List UInt8), k ≤ r1 ∧ kk = (k : Nat) ∧ i = .int .i64 kk ∧ l.length = 32 ∧ Hid (TS w la l wr)) (fun i _ => r1 - (intOf i).toNat)
  case atStart => exact ⟨0, 0, lb, by omega, rfl, rfl, HK.out.2.1, t1⟩
  case round =>
    clear t1
    obtain ⟨k, kk, l, hk, hkk, rfl, hl, hT⟩ := hrel
    go_wp2_with fail
    go_must (go_fit (HK.out.2.2.2.2 _))
    rintro e w2 ⟨rfl, rfl⟩
    by_cases hlt : k < r1
    · subst hkk
      have k32 : k < 32 := by omega
      have ca := hT.out.1.cell k (by rw [HK.out.1]; exact k32)
      have cb := hT.out.2.1.cell k (by rw [hl]; exact k32)
      have fb := hT.out.2.1.free k
      have hm := hT.out.2.1.set k (la.getD k 0)
      have ha := hT.out.1.setOther (c := w.heap.size + 1) (by omega) k (.int .u8 ((la.getD k 0).toNat : Nat))
      have hb := hT.out.2.2.setCell (p := ⟨w.heap.size + 1, k, none⟩) (by simp) (.int .u8 ((la.getD k 0).toNat : Nat))
      have HL := Lib.hid (And.intro hlt (And.intro hl (show TS w la (l.set k (la.getD k 0)) _ from ⟨ha, hm, hb⟩))); clear hl hm ha hb hk
      have z1 : (k : Int) < 32 := by omega
      obtain ⟨x, hx⟩ : ∃ x, gb la k = x := ⟨_, rfl⟩
      have hx2 : (la.getD k 0).toNat = x := hx
      rw [hx] at ca
      rw [hx2] at HL
      clear hx hx2
      go_wp2
      exact ⟨⟨k + 1, _, _, HL.out.1, by simp, rfl, by rw [List.length_set]; exact HL.out.2.1, Lib.hid HL.out.2.2⟩, by have := HL.out.1; simp [intOf]; omega⟩
    · obtain rfl : k = r1 := by omega
      subst hkk
      have sza : Hid ((Tryd.prog.info? 24).map (·.size) = some (hcells la).size) := Lib.hid (by rw [hcells_size, HK.out.1]; exact info8T.out)
      have szb : Hid ((Tryd.prog.info? 24).map (·.size) = some (hcells l).size) := Lib.hid (by rw [hcells_size, hl]; exact info8T.out)
      obtain ⟨x, hx⟩ : ∃ x, lt8 la l = x := ⟨_, rfl⟩
      obtain ⟨y, hy⟩ : ∃ y, lt8 l la = y := ⟨_, rfl⟩
      obtain ⟨c, hc⟩ : ∃ c, (la == l) = c := ⟨_, rfl⟩
      have h3 := three la l (by rw [HK.out.1, hl])
      have L1 := fun W => Less_any W la l HK.out.1 hl
      have L2 := fun W => Less_any W l la hl HK.out.1
      have R1 := fun W => refLess_any W la l HK.out.1 hl
      have R2 := fun W => refLess_any W l la hl HK.out.1
      have heq := fun W => eql_hash W la l HK.out.1 hl
      rw [hx] at h3 L1 R1
      rw [hy] at h3 L2 R2
      rw [hc] at h3 heq
      have HX := Lib.hid hx; clear hx hy hc
      have H3 := Lib.hid h3; clear h3
      have HP := Lib.hid (And.intro L1 L2); clear L1 L2
      have HQ := Lib.hid (And.intro R1 R2); clear R1 R2
      have HE := Lib.hid heq; clear heq
      have ta := hT.out.1
      have tb := hT.out.2.1
      have HL := Lib.hid hl; clear hl hk hlt
      go_wp2_with (first | (refine wpList_load_row rfl 24 (.tmp 3) rfl w.heap.size rfl 24 (hcells la) (0, 0) _ ta Tryd.underlying24 rfl sza.out ?_) | (refine wpList_load_row rfl 24 (.tmp 4) rfl (w.heap.size + 1) rfl 24 (hcells l) (0, 0) _ tb Tryd.underlying24 rfl szb.out ?_))
      go_must (go_fit (HP.out.1 _))
      rintro e w3 ⟨rfl, b3⟩
      have hT3 := Lib.hid (TS.next hT.out b3); clear ta tb hT b3
      have ta := hT3.out.1
      have tb := hT3.out.2.1
      go_wp2_with (first | (refine wpList_load_row rfl 24 (.tmp 3) rfl w.heap.size rfl 24 (hcells la) (0, 0) _ ta Tryd.underlying24 rfl sza.out ?_) | (refine wpList_load_row rfl 24 (.tmp 4) rfl (w.heap.size + 1) rfl 24 (hcells l) (0, 0) _ tb Tryd.underlying24 rfl szb.out ?_))
      go_must (go_fit (HP.out.2 _))
      rintro e w4 ⟨rfl, b4⟩
      have hT4 := Lib.hid (TS.next hT3.out b4); clear ta tb hT3 b4
      go_upto_region 8 with fail
      have tsd : TS w la l w4.drew := ⟨hT4.out.1, hT4.out.2.1, hT4.out.2.2.drew⟩
      clear hT4
      rcases H3.out with ⟨rfl, rfl, rfl⟩ | ⟨rfl, rfl, rfl⟩ | ⟨rfl, rfl, rfl⟩
      · have heq := HE.out
        clear HE H3
        refine wp_region_held_drew (S := TS w la l) (by kernel_rfl) tsd (fun hS => ?_)
        clear tsd
        refine wpAnyH_take (i := 0) (oi := { dst := some 29, op := Op.move (Operand.tmp 7), type := 4, pos := "law.go:88", after := #[], guard := none }) (v := ?va0) rfl (by kernel_rfl) (by kernel_rfl) (by kernel_rfl) (fun _ _ _ h => h) (Or.inl ⟨by rfl, ?ya0⟩) hS ?ra0
        case ya0 => (intro w hS; go_simp; try with_reducible rfl)
        refine wpAnyH_take (i := 1) (oi := { dst := some 30, op := Op.move (Operand.tmp 29), type := 4, pos := "law.go:88", after := #[{ on := 0, ground := Ground.data }], guard := none }) (v := ?va1) rfl (by kernel_rfl) (by kernel_rfl) (by kernel_rfl) (fun _ _ _ h => h) (Or.inl ⟨by rfl, ?ya1⟩) hS ?ra1
        case ya1 => (intro w hS; go_simp; try with_reducible rfl)
        go_simp
        refine wpAnyH_take (i := 2) (oi := { dst := some 31, op := Op.move (Operand.tmp 9), type := 4, pos := "law.go:88", after := #[{ on := 1, ground := Ground.guard }], guard := some (1, true) }) (v := ?va2) rfl (by kernel_rfl) (by kernel_rfl) (by kernel_rfl) (fun _ _ _ h => h) (Or.inl ⟨by rfl, ?ya2⟩) hS ?ra2
        case ya2 => (intro w hS; go_simp; try with_reducible rfl)
        refine wpAnyH_take (i := 3) (oi := { dst := some 32, op := Op.load 24 (Operand.tmp 3), type := 24, pos := "law.go:88", after := #[{ on := 1, ground := Ground.guard }], guard := some (1, true) }) (v := hval la) rfl (by kernel_rfl) (by kernel_rfl) (by kernel_rfl) (fun _ _ _ h => h) (Or.inl ⟨by rfl, ?ya3⟩) hS ?ra3
        case ya3 => exact fun w' hS => exec_load_row w' 24 (.tmp 3) rfl w.heap.size (by first | rfl | (simp [Act.eval])) 24 (hcells la) (0, 0) _ hS.1 Tryd.underlying24 rfl sza.out
        refine wpAnyH_take (i := 4) (oi := { dst := some 33, op := Op.load 24 (Operand.tmp 4), type := 24, pos := "law.go:88", after := #[{ on := 1, ground := Ground.guard }], guard := some (1, true) }) (v := hval l) rfl (by kernel_rfl) (by kernel_rfl) (by kernel_rfl) (fun _ _ _ h => h) (Or.inl ⟨by rfl, ?ya4⟩) hS ?ra4
        case ya4 => exact fun w' hS => exec_load_row w' 24 (.tmp 4) rfl (w.heap.size + 1) (by first | rfl | (simp [Act.eval])) 24 (hcells l) (0, 0) _ hS.2.1 Tryd.underlying24 rfl szb.out
        go_simp
        refine wpAnyH_ready (rs := [5]) (by kernel_rfl) (by simp) ?_
        refine AllReadyH.cons (o := { dst := some 34, op := Op.call { callee := Callee.value (Operand.func 23), args := #[Operand.tmp 32, Operand.tmp 33], argTypes := #[24, 24] }, type := 4, pos := "law.go:88", after := #[{ on := 3, ground := Ground.data }, { on := 4, ground := Ground.data }, { on := 1, ground := Ground.chain }, { on := 1, ground := Ground.guard }], guard := some (1, true) }) rfl (fun K hK => ?_) AllReadyH.nil
        go_simp
        go_at_call 23
        refine (HQ.out.1 _).mono ?_
        rintro e w5 ⟨rfl, b⟩
        have hS2 := hS.next b
        clear b hS
        try go_simp
        refine hK.out _ _ hS2 (fun hS => ?_)
        clear hK K hS2
        refine wpAnyH_take (i := 6) (oi := { dst := some 35, op := Op.binOp BinOp.eql 4 (Operand.tmp 31) (Operand.tmp 34) 4, type := 4, pos := "law.go:88", after := #[{ on := 2, ground := Ground.data }, { on := 5, ground := Ground.data }, { on := 1, ground := Ground.guard }], guard := some (1, true) }) (v := ?va6) rfl (by kernel_rfl) (by kernel_rfl) (by kernel_rfl) (fun _ _ _ h => h) (Or.inl ⟨by rfl, ?ya6⟩) hS ?ra6
        case ya6 => (intro w hS; go_simp; try with_reducible rfl)
        refine wpAnyH_take (i := 7) (oi := { dst := some 36, op := Op.pick (Operand.tmp 30) (Operand.tmp 35) (Operand.const (Value.bool false)), type := 4, pos := "law.go:88", after := #[{ on := 1, ground := Ground.data }, { on := 6, ground := Ground.data }], guard := none }) (v := ?va7) rfl (by kernel_rfl) (by kernel_rfl) (by kernel_rfl) (fun _ _ _ h => h) (Or.inl ⟨by rfl, ?ya7⟩) hS ?ra7
        case ya7 => (intro w hS; go_simp; try with_reducible rfl)
        refine wpAnyH_take (i := 8) (oi := { dst := some 37, op := Op.move (Operand.tmp 36), type := 4, pos := "law.go:88", after := #[{ on := 7, ground := Ground.data }, { on := 5, ground := Ground.chain }], guard := none }) (v := ?va8) rfl (by kernel_rfl) (by kernel_rfl) (by kernel_rfl) (fun _ _ _ h => h) (Or.inl ⟨by rfl, ?ya8⟩) hS ?ra8
        case ya8 => (intro w hS; go_simp; try with_reducible rfl)
        go_simp
        refine wpAnyH_take (i := 9) (oi := { dst := some 38, op := Op.move (Operand.tmp 10), type := 4, pos := "law.go:88", after := #[{ on := 8, ground := Ground.guard }], guard := some (8, true) }) (v := ?va9) rfl (by kernel_rfl) (by kernel_rfl) (by kernel_rfl) (fun _ _ _ h => h) (Or.inl ⟨by rfl, ?ya9⟩) hS ?ra9
        case ya9 => (intro w hS; go_simp; try with_reducible rfl)
        refine wpAnyH_take (i := 10) (oi := { dst := some 39, op := Op.load 24 (Operand.tmp 4), type := 24, pos := "law.go:88", after := #[{ on := 8, ground := Ground.guard }], guard := some (8, true) }) (v := hval l) rfl (by kernel_rfl) (by kernel_rfl) (by kernel_rfl) (fun _ _ _ h => h) (Or.inl ⟨by rfl, ?ya10⟩) hS ?ra10
        case ya10 => exact fun w' hS => exec_load_row w' 24 (.tmp 4) rfl (w.heap.size + 1) (by first | rfl | (simp [Act.eval])) 24 (hcells l) (0, 0) _ hS.2.1 Tryd.underlying24 rfl szb.out
        refine wpAnyH_take (i := 11) (oi := { dst := some 40, op := Op.load 24 (Operand.tmp 3), type := 24, pos := "law.go:88", after := #[{ on := 8, ground := Ground.guard }], guard := some (8, true) }) (v := hval la) rfl (by kernel_rfl) (by kernel_rfl) (by kernel_rfl) (fun _ _ _ h => h) (Or.inl ⟨by rfl, ?ya11⟩) hS ?ra11
        case ya11 => exact fun w' hS => exec_load_row w' 24 (.tmp 3) rfl w.heap.size (by first | rfl | (simp [Act.eval])) 24 (hcells la) (0, 0) _ hS.1 Tryd.underlying24 rfl sza.out
        go_simp
        refine wpAnyH_ready (rs := [12]) (by kernel_rfl) (by simp) ?_
        refine AllReadyH.cons (o := { dst := some 41, op := Op.call { callee := Callee.value (Operand.func 23), args := #[Operand.tmp 39, Operand.tmp 40], argTypes := #[24, 24] }, type := 4, pos := "law.go:88", after := #[{ on := 10, ground := Ground.data }, { on := 11, ground := Ground.data }, { on := 8, ground := Ground.chain }, { on := 8, ground := Ground.guard }], guard := some (8, true) }) rfl (fun K hK => ?_) AllReadyH.nil
        go_simp
        go_at_call 23
        refine (HQ.out.2 _).mono ?_
        rintro e w6 ⟨rfl, b⟩
        have hS2 := hS.next b
        clear b hS
        try go_simp
        refine hK.out _ _ hS2 (fun hS => ?_)
        clear hK K hS2
        refine wpAnyH_take (i := 13) (oi := { dst := some 42, op := Op.binOp BinOp.eql 4 (Operand.tmp 38) (Operand.tmp 41) 4, type := 4, pos := "law.go:88", after := #[{ on := 9, ground := Ground.data }, { on := 12, ground := Ground.data }, { on := 8, ground := Ground.guard }], guard := some (8, true) }) (v := ?va13) rfl (by kernel_rfl) (by kernel_rfl) (by kernel_rfl) (fun _ _ _ h => h) (Or.inl ⟨by rfl, ?ya13⟩) hS ?ra13
        case ya13 => (intro w hS; go_simp; try with_reducible rfl)
        refine wpAnyH_take (i := 14) (oi := { dst := some 43, op := Op.pick (Operand.tmp 37) (Operand.tmp 42) (Operand.const (Value.bool false)), type := 4, pos := "law.go:88", after := #[{ on := 8, ground := Ground.data }, { on := 13, ground := Ground.data }], guard := none }) (v := ?va14) rfl (by kernel_rfl) (by kernel_rfl) (by kernel_rfl) (fun _ _ _ h => h) (Or.inl ⟨by rfl, ?ya14⟩) hS ?ra14
        case ya14 => (intro w hS; go_simp; try with_reducible rfl)
        refine wpAnyH_take (i := 15) (oi := { dst := some 44, op := Op.move (Operand.tmp 43), type := 4, pos := "law.go:88", after := #[{ on := 14, ground := Ground.data }, { on := 12, ground := Ground.chain }], guard := none }) (v := ?va15) rfl (by kernel_rfl) (by kernel_rfl) (by kernel_rfl) (fun _ _ _ h => h) (Or.inl ⟨by rfl, ?ya15⟩) hS ?ra15
        case ya15 => (intro w hS; go_simp; try with_reducible rfl)
        go_simp
        refine wpAnyH_take (i := 16) (oi := { dst := some 45, op := Op.move (Operand.tmp 9), type := 4, pos := "law.go:88", after := #[{ on := 15, ground := Ground.guard }], guard := some (15, true) }) (v := ?va16) rfl (by kernel_rfl) (by kernel_rfl) (by kernel_rfl) (fun _ _ _ h => h) (Or.inl ⟨by rfl, ?ya16⟩) hS ?ra16
        case ya16 => (intro w hS; go_simp; try with_reducible rfl)
        refine wpAnyH_take (i := 17) (oi := { dst := some 46, op := Op.load 24 (Operand.tmp 3), type := 24, pos := "law.go:88", after := #[{ on := 15, ground := Ground.guard }], guard := some (15, true) }) (v := hval la) rfl (by kernel_rfl) (by kernel_rfl) (by kernel_rfl) (fun _ _ _ h => h) (Or.inl ⟨by rfl, ?ya17⟩) hS ?ra17
        case ya17 => exact fun w' hS => exec_load_row w' 24 (.tmp 3) rfl w.heap.size (by first | rfl | (simp [Act.eval])) 24 (hcells la) (0, 0) _ hS.1 Tryd.underlying24 rfl sza.out
        refine wpAnyH_take (i := 19) (oi := { dst := some 48, op := Op.load 24 (Operand.tmp 4), type := 24, pos := "law.go:88", after := #[{ on := 15, ground := Ground.guard }], guard := some (15, true) }) (v := hval l) rfl (by kernel_rfl) (by kernel_rfl) (by kernel_rfl) (fun _ _ _ h => h) (Or.inl ⟨by rfl, ?ya19⟩) hS ?ra19
        case ya19 => exact fun w' hS => exec_load_row w' 24 (.tmp 4) rfl (w.heap.size + 1) (by first | rfl | (simp [Act.eval])) 24 (hcells l) (0, 0) _ hS.2.1 Tryd.underlying24 rfl szb.out
        go_simp
        refine wpAnyH_ready (rs := [18]) (by kernel_rfl) (by simp) ?_
        refine AllReadyH.cons (o := { dst := some 47, op := Op.call { callee := Callee.value (Operand.func 18), args := #[Operand.tmp 46], argTypes := #[24] }, type := 9, pos := "law.go:88", after := #[{ on := 17, ground := Ground.data }, { on := 15, ground := Ground.chain }, { on := 15, ground := Ground.guard }], guard := some (15, true) }) rfl (fun K hK => ?_) AllReadyH.nil
        go_simp
        go_at_call 18
        refine (Text_any _ la HK.out.1).mono ?_
        rintro e w7 ⟨T1, hT1, rfl, b⟩
        have hS2 := hS.next b
        have HT1 := Lib.hid hT1; clear hT1 b hS
        try go_simp
        refine hK.out _ _ hS2 (fun hS => ?_)
        clear hK K hS2
        refine wpAnyH_ready (rs := [20]) (by kernel_rfl) (by simp) ?_
        refine AllReadyH.cons (o := { dst := some 49, op := Op.call { callee := Callee.value (Operand.func 18), args := #[Operand.tmp 48], argTypes := #[24] }, type := 9, pos := "law.go:88", after := #[{ on := 19, ground := Ground.data }, { on := 18, ground := Ground.chain }, { on := 15, ground := Ground.guard }], guard := some (15, true) }) rfl (fun K hK => ?_) AllReadyH.nil
        go_simp
        go_at_call 18
        refine (Text_any _ l HL.out).mono ?_
        rintro e w8 ⟨T2, hT2, rfl, b⟩
        have hS2 := hS.next b
        have hlx : Op.bytesLess T1.toList T2.toList = true := by rw [ByteArray.toList_eq, ByteArray.toList_eq, hT2, HT1.out, hex_less la l (by rw [HK.out.1, HL.out]), HX.out]
        clear hT2 b hS
        try go_simp
        refine hK.out _ _ hS2 (fun hS => ?_)
        clear hK K hS2
        refine wpAnyH_take (i := 21) (oi := { dst := some 50, op := Op.binOp BinOp.lss 9 (Operand.tmp 47) (Operand.tmp 49) 9, type := 4, pos := "law.go:88", after := #[{ on := 18, ground := Ground.data }, { on := 20, ground := Ground.data }, { on := 15, ground := Ground.guard }], guard := some (15, true) }) (v := ?va21) rfl (by kernel_rfl) (by kernel_rfl) (by kernel_rfl) (fun _ _ _ h => h) (Or.inl ⟨by rfl, ?ya21⟩) hS ?ra21
        case ya21 => (intro w hS; go_simp; try with_reducible rfl)
        refine wpAnyH_take (i := 22) (oi := { dst := some 51, op := Op.binOp BinOp.eql 4 (Operand.tmp 45) (Operand.tmp 50) 4, type := 4, pos := "law.go:88", after := #[{ on := 16, ground := Ground.data }, { on := 21, ground := Ground.data }, { on := 15, ground := Ground.guard }], guard := some (15, true) }) (v := ?va22) rfl (by kernel_rfl) (by kernel_rfl) (by kernel_rfl) (fun _ _ _ h => h) (Or.inl ⟨by rfl, ?ya22⟩) hS ?ra22
        case ya22 => (intro w hS; go_simp; try with_reducible rfl)
        refine wpAnyH_take (i := 23) (oi := { dst := some 52, op := Op.pick (Operand.tmp 44) (Operand.tmp 51) (Operand.const (Value.bool false)), type := 4, pos := "law.go:88", after := #[{ on := 15, ground := Ground.data }, { on := 22, ground := Ground.data }], guard := none }) (v := ?va23) rfl (by kernel_rfl) (by kernel_rfl) (by kernel_rfl) (fun _ _ _ h => h) (Or.inl ⟨by rfl, ?ya23⟩) hS ?ra23
        case ya23 => (intro w hS; go_simp; try with_reducible rfl)
        refine wpAnyH_take (i := 24) (oi := { dst := some 53, op := Op.move (Operand.tmp 52), type := 4, pos := "law.go:88", after := #[{ on := 23, ground := Ground.data }, { on := 20, ground := Ground.chain }], guard := none }) (v := ?va24) rfl (by kernel_rfl) (by kernel_rfl) (by kernel_rfl) (fun _ _ _ h => h) (Or.inl ⟨by rfl, ?ya24⟩) hS ?ra24
        case ya24 => (intro w hS; go_simp; try with_reducible rfl)
        go_simp
        refine wpAnyH_take (i := 25) (oi := { dst := some 54, op := Op.move (Operand.tmp 9), type := 4, pos := "law.go:88", after := #[{ on := 24, ground := Ground.guard }], guard := some (24, true) }) (v := ?va25) rfl (by kernel_rfl) (by kernel_rfl) (by kernel_rfl) (fun _ _ _ h => h) (Or.inl ⟨by rfl, ?ya25⟩) hS ?ra25
        case ya25 => (intro w hS; go_simp; try with_reducible rfl)
        refine wpAnyH_take (i := 26) (oi := { dst := some 55, op := Op.move (Operand.tmp 54), type := 4, pos := "law.go:88", after := #[{ on := 25, ground := Ground.data }, { on := 24, ground := Ground.chain }, { on := 24, ground := Ground.guard }], guard := some (24, true) }) (v := ?va26) rfl (by kernel_rfl) (by kernel_rfl) (by kernel_rfl) (fun _ _ _ h => h) (Or.inl ⟨by rfl, ?ya26⟩) hS ?ra26
        case ya26 => (intro w hS; go_simp; try with_reducible rfl)
        go_simp
        refine wpAnyH_take (i := 27) (oi := { dst := some 56, op := Op.move (Operand.tmp 10), type := 4, pos := "law.go:88", after := #[{ on := 26, ground := Ground.guard }], guard := some (26, true) }) (v := ?va27) rfl (by kernel_rfl) (by kernel_rfl) (by kernel_rfl) (fun _ _ _ h => h) (Or.inl ⟨by rfl, ?ya27⟩) hS ?ra27
        case ya27 => (intro w hS; go_simp; try with_reducible rfl)
        go_simp
        refine wpAnyH_take (i := 28) (oi := { dst := some 57, op := Op.pick (Operand.tmp 55) (Operand.tmp 56) (Operand.const (Value.bool false)), type := 4, pos := "law.go:88", after := #[{ on := 26, ground := Ground.data }, { on := 27, ground := Ground.data }, { on := 24, ground := Ground.guard }], guard := some (24, true) }) (v := ?va28) rfl (by kernel_rfl) (by kernel_rfl) (by kernel_rfl) (fun _ _ _ h => h) (Or.inl ⟨by rfl, ?ya28⟩) hS ?ra28
        case ya28 => (intro w hS; go_simp; try with_reducible rfl)
        refine wpAnyH_take (i := 29) (oi := { dst := some 58, op := Op.unOp UnOp.not 4 (Operand.tmp 57), type := 4, pos := "law.go:88", after := #[{ on := 28, ground := Ground.data }, { on := 24, ground := Ground.guard }], guard := some (24, true) }) (v := ?va29) rfl (by kernel_rfl) (by kernel_rfl) (by kernel_rfl) (fun _ _ _ h => h) (Or.inl ⟨by rfl, ?ya29⟩) hS ?ra29
        case ya29 => (intro w hS; go_simp; try with_reducible rfl)
        refine wpAnyH_take (i := 30) (oi := { dst := some 59, op := Op.pick (Operand.tmp 53) (Operand.tmp 58) (Operand.const (Value.bool false)), type := 4, pos := "law.go:88", after := #[{ on := 24, ground := Ground.data }, { on := 29, ground := Ground.data }], guard := none }) (v := ?va30) rfl (by kernel_rfl) (by kernel_rfl) (by kernel_rfl) (fun _ _ _ h => h) (Or.inl ⟨by rfl, ?ya30⟩) hS ?ra30
        case ya30 => (intro w hS; go_simp; try with_reducible rfl)
        refine wpAnyH_take (i := 31) (oi := { dst := some 60, op := Op.move (Operand.tmp 59), type := 4, pos := "law.go:88", after := #[{ on := 30, ground := Ground.data }, { on := 26, ground := Ground.chain }], guard := none }) (v := ?va31) rfl (by kernel_rfl) (by kernel_rfl) (by kernel_rfl) (fun _ _ _ h => h) (Or.inl ⟨by rfl, ?ya31⟩) hS ?ra31
        case ya31 => (intro w hS; go_simp; try with_reducible rfl)
        go_simp
        refine wpAnyH_take (i := 32) (oi := { dst := some 61, op := Op.move (Operand.tmp 9), type := 4, pos := "law.go:88", after := #[{ on := 31, ground := Ground.guard }], guard := some (31, true) }) (v := ?va32) rfl (by kernel_rfl) (by kernel_rfl) (by kernel_rfl) (fun _ _ _ h => h) (Or.inl ⟨by rfl, ?ya32⟩) hS ?ra32
        case ya32 => (intro w hS; go_simp; try with_reducible rfl)
        refine wpAnyH_take (i := 33) (oi := { dst := some 62, op := Op.move (Operand.tmp 61), type := 4, pos := "law.go:88", after := #[{ on := 32, ground := Ground.data }, { on := 31, ground := Ground.chain }, { on := 31, ground := Ground.guard }], guard := some (31, true) }) (v := ?va33) rfl (by kernel_rfl) (by kernel_rfl) (by kernel_rfl) (fun _ _ _ h => h) (Or.inl ⟨by rfl, ?ya33⟩) hS ?ra33
        case ya33 => (intro w hS; go_simp; try with_reducible rfl)
        go_simp
        refine wpAnyH_take (i := 34) (oi := { dst := some 63, op := Op.move (Operand.tmp 10), type := 4, pos := "law.go:88", after := #[{ on := 33, ground := Ground.guard }], guard := some (33, false) }) (v := undef) rfl (by kernel_rfl) (by kernel_rfl) (by kernel_rfl) (fun _ _ _ h => h) (Or.inr ⟨by rfl, rfl⟩) hS ?ra34
        go_simp
        refine wpAnyH_take (i := 35) (oi := { dst := some 64, op := Op.pick (Operand.tmp 62) (Operand.const (Value.bool true)) (Operand.tmp 63), type := 4, pos := "law.go:88", after := #[{ on := 33, ground := Ground.data }, { on := 34, ground := Ground.data }, { on := 31, ground := Ground.guard }], guard := some (31, true) }) (v := ?va35) rfl (by kernel_rfl) (by kernel_rfl) (by kernel_rfl) (fun _ _ _ h => h) (Or.inl ⟨by rfl, ?ya35⟩) hS ?ra35
        case ya35 => (intro w hS; go_simp; try with_reducible rfl)
        refine wpAnyH_take (i := 36) (oi := { dst := some 65, op := Op.move (Operand.tmp 64), type := 4, pos := "law.go:88", after := #[{ on := 35, ground := Ground.data }, { on := 33, ground := Ground.chain }, { on := 31, ground := Ground.guard }], guard := some (31, true) }) (v := ?va36) rfl (by kernel_rfl) (by kernel_rfl) (by kernel_rfl) (fun _ _ _ h => h) (Or.inl ⟨by rfl, ?ya36⟩) hS ?ra36
        case ya36 => (intro w hS; go_simp; try with_reducible rfl)
        go_simp
        refine wpAnyH_take (i := 37) (oi := { dst := some 66, op := Op.load 24 (Operand.tmp 3), type := 24, pos := "law.go:88", after := #[{ on := 36, ground := Ground.guard }], guard := some (36, false) }) (v := undef) rfl (by kernel_rfl) (by kernel_rfl) (by kernel_rfl) (fun _ _ _ h => h) (Or.inr ⟨by rfl, rfl⟩) hS ?ra37
        refine wpAnyH_take (i := 38) (oi := { dst := some 67, op := Op.load 24 (Operand.tmp 4), type := 24, pos := "law.go:88", after := #[{ on := 36, ground := Ground.guard }], guard := some (36, false) }) (v := undef) rfl (by kernel_rfl) (by kernel_rfl) (by kernel_rfl) (fun _ _ _ h => h) (Or.inr ⟨by rfl, rfl⟩) hS ?ra38
        refine wpAnyH_take (i := 39) (oi := { dst := some 68, op := Op.binOp BinOp.eql 24 (Operand.tmp 66) (Operand.tmp 67) 24, type := 4, pos := "law.go:88", after := #[{ on := 37, ground := Ground.data }, { on := 38, ground := Ground.data }, { on := 36, ground := Ground.guard }], guard := some (36, false) }) (v := undef) rfl (by kernel_rfl) (by kernel_rfl) (by kernel_rfl) (fun _ _ _ h => h) (Or.inr ⟨by rfl, rfl⟩) hS ?ra39
        go_simp
        refine wpAnyH_take (i := 40) (oi := { dst := some 69, op := Op.pick (Operand.tmp 65) (Operand.const (Value.bool true)) (Operand.tmp 68), type := 4, pos := "law.go:88", after := #[{ on := 36, ground := Ground.data }, { on := 39, ground := Ground.data }, { on := 31, ground := Ground.guard }], guard := some (31, true) }) (v := ?va40) rfl (by kernel_rfl) (by kernel_rfl) (by kernel_rfl) (fun _ _ _ h => h) (Or.inl ⟨by rfl, ?ya40⟩) hS ?ra40
        case ya40 => (intro w hS; go_simp; try with_reducible rfl)
        refine wpAnyH_take (i := 41) (oi := { dst := some 70, op := Op.pick (Operand.tmp 60) (Operand.tmp 69) (Operand.const (Value.bool false)), type := 4, pos := "law.go:88", after := #[{ on := 31, ground := Ground.data }, { on := 40, ground := Ground.data }], guard := none }) (v := ?va41) rfl (by kernel_rfl) (by kernel_rfl) (by kernel_rfl) (fun _ _ _ h => h) (Or.inl ⟨by rfl, ?ya41⟩) hS ?ra41
        case ya41 => (intro w hS; go_simp; try with_reducible rfl)
        refine wpAnyH_take (i := 42) (oi := { dst := some 6, op := Op.assign (Operand.tmp 70), type := 4, pos := "law.go:88", after := #[{ on := 41, ground := Ground.data }, { on := 36, ground := Ground.chain }, { on := 0, ground := Ground.phase }, { on := 1, ground := Ground.phase }, { on := 2, ground := Ground.phase }, { on := 3, ground := Ground.phase }, { on := 4, ground := Ground.phase }, { on := 5, ground := Ground.phase }, { on := 6, ground := Ground.phase }, { on := 7, ground := Ground.phase }, { on := 8, ground := Ground.phase }, { on := 9, ground := Ground.phase }, { on := 10, ground := Ground.phase }, { on := 11, ground := Ground.phase }, { on := 12, ground := Ground.phase }, { on := 13, ground := Ground.phase }, { on := 14, ground := Ground.phase }, { on := 15, ground := Ground.phase }, { on := 16, ground := Ground.phase }, { on := 17, ground := Ground.phase }, { on := 18, ground := Ground.phase }, { on := 19, ground := Ground.phase }, { on := 20, ground := Ground.phase }, { on := 21, ground := Ground.phase }, { on := 22, ground := Ground.phase }, { on := 23, ground := Ground.phase }, { on := 24, ground := Ground.phase }, { on := 25, ground := Ground.phase }, { on := 26, ground := Ground.phase }, { on := 27, ground := Ground.phase }, { on := 28, ground := Ground.phase }, { on := 29, ground := Ground.phase }, { on := 30, ground := Ground.phase }, { on := 31, ground := Ground.phase }, { on := 32, ground := Ground.phase }, { on := 33, ground := Ground.phase }, { on := 34, ground := Ground.phase }, { on := 35, ground := Ground.phase }, { on := 36, ground := Ground.phase }, { on := 37, ground := Ground.phase }, { on := 38, ground := Ground.phase }, { on := 39, ground := Ground.phase }, { on := 40, ground := Ground.phase }, { on := 41, ground := Ground.phase }], guard := none }) (v := ?va42) rfl (by kernel_rfl) (by kernel_rfl) (by kernel_rfl) (fun _ _ _ h => h) (Or.inl ⟨by rfl, ?ya42⟩) hS ?ra42
        case ya42 => (intro w hS; go_simp; try with_reducible rfl)
        refine wpAnyH_done (by kernel_rfl) ?_ _
        go_wp2
        go_ret
        exact ⟨rfl, hS.2.2⟩
      · have heq := HE.out
        clear HE H3
        refine wp_region_held_drew (S := TS w la l) (by kernel_rfl) tsd (fun hS => ?_)
        clear tsd
        refine wpAnyH_take (i := 0) (oi := { dst := some 29, op := Op.move (Operand.tmp 7), type := 4, pos := "law.go:88", after := #[], guard := none }) (v := ?vb0) rfl (by kernel_rfl) (by kernel_rfl) (by kernel_rfl) (fun _ _ _ h => h) (Or.inl ⟨by rfl, ?yb0⟩) hS ?rb0
        case yb0 => (intro w hS; go_simp; try with_reducible rfl)
        refine wpAnyH_take (i := 1) (oi := { dst := some 30, op := Op.move (Operand.tmp 29), type := 4, pos := "law.go:88", after := #[{ on := 0, ground := Ground.data }], guard := none }) (v := ?vb1) rfl (by kernel_rfl) (by kernel_rfl) (by kernel_rfl) (fun _ _ _ h => h) (Or.inl ⟨by rfl, ?yb1⟩) hS ?rb1
        case yb1 => (intro w hS; go_simp; try with_reducible rfl)
        go_simp
        refine wpAnyH_take (i := 2) (oi := { dst := some 31, op := Op.move (Operand.tmp 9), type := 4, pos := "law.go:88", after := #[{ on := 1, ground := Ground.guard }], guard := some (1, true) }) (v := ?vb2) rfl (by kernel_rfl) (by kernel_rfl) (by kernel_rfl) (fun _ _ _ h => h) (Or.inl ⟨by rfl, ?yb2⟩) hS ?rb2
        case yb2 => (intro w hS; go_simp; try with_reducible rfl)
        refine wpAnyH_take (i := 3) (oi := { dst := some 32, op := Op.load 24 (Operand.tmp 3), type := 24, pos := "law.go:88", after := #[{ on := 1, ground := Ground.guard }], guard := some (1, true) }) (v := hval la) rfl (by kernel_rfl) (by kernel_rfl) (by kernel_rfl) (fun _ _ _ h => h) (Or.inl ⟨by rfl, ?yb3⟩) hS ?rb3
        case yb3 => exact fun w' hS => exec_load_row w' 24 (.tmp 3) rfl w.heap.size (by first | rfl | (simp [Act.eval])) 24 (hcells la) (0, 0) _ hS.1 Tryd.underlying24 rfl sza.out
        refine wpAnyH_take (i := 4) (oi := { dst := some 33, op := Op.load 24 (Operand.tmp 4), type := 24, pos := "law.go:88", after := #[{ on := 1, ground := Ground.guard }], guard := some (1, true) }) (v := hval l) rfl (by kernel_rfl) (by kernel_rfl) (by kernel_rfl) (fun _ _ _ h => h) (Or.inl ⟨by rfl, ?yb4⟩) hS ?rb4
        case yb4 => exact fun w' hS => exec_load_row w' 24 (.tmp 4) rfl (w.heap.size + 1) (by first | rfl | (simp [Act.eval])) 24 (hcells l) (0, 0) _ hS.2.1 Tryd.underlying24 rfl szb.out
        go_simp
        refine wpAnyH_ready (rs := [5]) (by kernel_rfl) (by simp) ?_
        refine AllReadyH.cons (o := { dst := some 34, op := Op.call { callee := Callee.value (Operand.func 23), args := #[Operand.tmp 32, Operand.tmp 33], argTypes := #[24, 24] }, type := 4, pos := "law.go:88", after := #[{ on := 3, ground := Ground.data }, { on := 4, ground := Ground.data }, { on := 1, ground := Ground.chain }, { on := 1, ground := Ground.guard }], guard := some (1, true) }) rfl (fun K hK => ?_) AllReadyH.nil
        go_simp
        go_at_call 23
        refine (HQ.out.1 _).mono ?_
        rintro e w5 ⟨rfl, b⟩
        have hS2 := hS.next b
        clear b hS
        try go_simp
        refine hK.out _ _ hS2 (fun hS => ?_)
        clear hK K hS2
        refine wpAnyH_take (i := 6) (oi := { dst := some 35, op := Op.binOp BinOp.eql 4 (Operand.tmp 31) (Operand.tmp 34) 4, type := 4, pos := "law.go:88", after := #[{ on := 2, ground := Ground.data }, { on := 5, ground := Ground.data }, { on := 1, ground := Ground.guard }], guard := some (1, true) }) (v := ?vb6) rfl (by kernel_rfl) (by kernel_rfl) (by kernel_rfl) (fun _ _ _ h => h) (Or.inl ⟨by rfl, ?yb6⟩) hS ?rb6
        case yb6 => (intro w hS; go_simp; try with_reducible rfl)
        refine wpAnyH_take (i := 7) (oi := { dst := some 36, op := Op.pick (Operand.tmp 30) (Operand.tmp 35) (Operand.const (Value.bool false)), type := 4, pos := "law.go:88", after := #[{ on := 1, ground := Ground.data }, { on := 6, ground := Ground.data }], guard := none }) (v := ?vb7) rfl (by kernel_rfl) (by kernel_rfl) (by kernel_rfl) (fun _ _ _ h => h) (Or.inl ⟨by rfl, ?yb7⟩) hS ?rb7
        case yb7 => (intro w hS; go_simp; try with_reducible rfl)
        refine wpAnyH_take (i := 8) (oi := { dst := some 37, op := Op.move (Operand.tmp 36), type := 4, pos := "law.go:88", after := #[{ on := 7, ground := Ground.data }, { on := 5, ground := Ground.chain }], guard := none }) (v := ?vb8) rfl (by kernel_rfl) (by kernel_rfl) (by kernel_rfl) (fun _ _ _ h => h) (Or.inl ⟨by rfl, ?yb8⟩) hS ?rb8
        case yb8 => (intro w hS; go_simp; try with_reducible rfl)
        go_simp
        refine wpAnyH_take (i := 9) (oi := { dst := some 38, op := Op.move (Operand.tmp 10), type := 4, pos := "law.go:88", after := #[{ on := 8, ground := Ground.guard }], guard := some (8, true) }) (v := ?vb9) rfl (by kernel_rfl) (by kernel_rfl) (by kernel_rfl) (fun _ _ _ h => h) (Or.inl ⟨by rfl, ?yb9⟩) hS ?rb9
        case yb9 => (intro w hS; go_simp; try with_reducible rfl)
        refine wpAnyH_take (i := 10) (oi := { dst := some 39, op := Op.load 24 (Operand.tmp 4), type := 24, pos := "law.go:88", after := #[{ on := 8, ground := Ground.guard }], guard := some (8, true) }) (v := hval l) rfl (by kernel_rfl) (by kernel_rfl) (by kernel_rfl) (fun _ _ _ h => h) (Or.inl ⟨by rfl, ?yb10⟩) hS ?rb10
        case yb10 => exact fun w' hS => exec_load_row w' 24 (.tmp 4) rfl (w.heap.size + 1) (by first | rfl | (simp [Act.eval])) 24 (hcells l) (0, 0) _ hS.2.1 Tryd.underlying24 rfl szb.out
        refine wpAnyH_take (i := 11) (oi := { dst := some 40, op := Op.load 24 (Operand.tmp 3), type := 24, pos := "law.go:88", after := #[{ on := 8, ground := Ground.guard }], guard := some (8, true) }) (v := hval la) rfl (by kernel_rfl) (by kernel_rfl) (by kernel_rfl) (fun _ _ _ h => h) (Or.inl ⟨by rfl, ?yb11⟩) hS ?rb11
        case yb11 => exact fun w' hS => exec_load_row w' 24 (.tmp 3) rfl w.heap.size (by first | rfl | (simp [Act.eval])) 24 (hcells la) (0, 0) _ hS.1 Tryd.underlying24 rfl sza.out
        go_simp
        refine wpAnyH_ready (rs := [12]) (by kernel_rfl) (by simp) ?_
        refine AllReadyH.cons (o := { dst := some 41, op := Op.call { callee := Callee.value (Operand.func 23), args := #[Operand.tmp 39, Operand.tmp 40], argTypes := #[24, 24] }, type := 4, pos := "law.go:88", after := #[{ on := 10, ground := Ground.data }, { on := 11, ground := Ground.data }, { on := 8, ground := Ground.chain }, { on := 8, ground := Ground.guard }], guard := some (8, true) }) rfl (fun K hK => ?_) AllReadyH.nil
        go_simp
        go_at_call 23
        refine (HQ.out.2 _).mono ?_
        rintro e w6 ⟨rfl, b⟩
        have hS2 := hS.next b
        clear b hS
        try go_simp
        refine hK.out _ _ hS2 (fun hS => ?_)
        clear hK K hS2
        refine wpAnyH_take (i := 13) (oi := { dst := some 42, op := Op.binOp BinOp.eql 4 (Operand.tmp 38) (Operand.tmp 41) 4, type := 4, pos := "law.go:88", after := #[{ on := 9, ground := Ground.data }, { on := 12, ground := Ground.data }, { on := 8, ground := Ground.guard }], guard := some (8, true) }) (v := ?vb13) rfl (by kernel_rfl) (by kernel_rfl) (by kernel_rfl) (fun _ _ _ h => h) (Or.inl ⟨by rfl, ?yb13⟩) hS ?rb13
        case yb13 => (intro w hS; go_simp; try with_reducible rfl)
        refine wpAnyH_take (i := 14) (oi := { dst := some 43, op := Op.pick (Operand.tmp 37) (Operand.tmp 42) (Operand.const (Value.bool false)), type := 4, pos := "law.go:88", after := #[{ on := 8, ground := Ground.data }, { on := 13, ground := Ground.data }], guard := none }) (v := ?vb14) rfl (by kernel_rfl) (by kernel_rfl) (by kernel_rfl) (fun _ _ _ h => h) (Or.inl ⟨by rfl, ?yb14⟩) hS ?rb14
        case yb14 => (intro w hS; go_simp; try with_reducible rfl)
        refine wpAnyH_take (i := 15) (oi := { dst := some 44, op := Op.move (Operand.tmp 43), type := 4, pos := "law.go:88", after := #[{ on := 14, ground := Ground.data }, { on := 12, ground := Ground.chain }], guard := none }) (v := ?vb15) rfl (by kernel_rfl) (by kernel_rfl) (by kernel_rfl) (fun _ _ _ h => h) (Or.inl ⟨by rfl, ?yb15⟩) hS ?rb15
        case yb15 => (intro w hS; go_simp; try with_reducible rfl)
        go_simp
        refine wpAnyH_take (i := 16) (oi := { dst := some 45, op := Op.move (Operand.tmp 9), type := 4, pos := "law.go:88", after := #[{ on := 15, ground := Ground.guard }], guard := some (15, true) }) (v := ?vb16) rfl (by kernel_rfl) (by kernel_rfl) (by kernel_rfl) (fun _ _ _ h => h) (Or.inl ⟨by rfl, ?yb16⟩) hS ?rb16
        case yb16 => (intro w hS; go_simp; try with_reducible rfl)
        refine wpAnyH_take (i := 17) (oi := { dst := some 46, op := Op.load 24 (Operand.tmp 3), type := 24, pos := "law.go:88", after := #[{ on := 15, ground := Ground.guard }], guard := some (15, true) }) (v := hval la) rfl (by kernel_rfl) (by kernel_rfl) (by kernel_rfl) (fun _ _ _ h => h) (Or.inl ⟨by rfl, ?yb17⟩) hS ?rb17
        case yb17 => exact fun w' hS => exec_load_row w' 24 (.tmp 3) rfl w.heap.size (by first | rfl | (simp [Act.eval])) 24 (hcells la) (0, 0) _ hS.1 Tryd.underlying24 rfl sza.out
        refine wpAnyH_take (i := 19) (oi := { dst := some 48, op := Op.load 24 (Operand.tmp 4), type := 24, pos := "law.go:88", after := #[{ on := 15, ground := Ground.guard }], guard := some (15, true) }) (v := hval l) rfl (by kernel_rfl) (by kernel_rfl) (by kernel_rfl) (fun _ _ _ h => h) (Or.inl ⟨by rfl, ?yb19⟩) hS ?rb19
        case yb19 => exact fun w' hS => exec_load_row w' 24 (.tmp 4) rfl (w.heap.size + 1) (by first | rfl | (simp [Act.eval])) 24 (hcells l) (0, 0) _ hS.2.1 Tryd.underlying24 rfl szb.out
        go_simp
        refine wpAnyH_ready (rs := [18]) (by kernel_rfl) (by simp) ?_
        refine AllReadyH.cons (o := { dst := some 47, op := Op.call { callee := Callee.value (Operand.func 18), args := #[Operand.tmp 46], argTypes := #[24] }, type := 9, pos := "law.go:88", after := #[{ on := 17, ground := Ground.data }, { on := 15, ground := Ground.chain }, { on := 15, ground := Ground.guard }], guard := some (15, true) }) rfl (fun K hK => ?_) AllReadyH.nil
        go_simp
        go_at_call 18
        refine (Text_any _ la HK.out.1).mono ?_
        rintro e w7 ⟨T1, hT1, rfl, b⟩
        have hS2 := hS.next b
        have HT1 := Lib.hid hT1; clear hT1 b hS
        try go_simp
        refine hK.out _ _ hS2 (fun hS => ?_)
        clear hK K hS2
        refine wpAnyH_ready (rs := [20]) (by kernel_rfl) (by simp) ?_
        refine AllReadyH.cons (o := { dst := some 49, op := Op.call { callee := Callee.value (Operand.func 18), args := #[Operand.tmp 48], argTypes := #[24] }, type := 9, pos := "law.go:88", after := #[{ on := 19, ground := Ground.data }, { on := 18, ground := Ground.chain }, { on := 15, ground := Ground.guard }], guard := some (15, true) }) rfl (fun K hK => ?_) AllReadyH.nil
        go_simp
        go_at_call 18
        refine (Text_any _ l HL.out).mono ?_
        rintro e w8 ⟨T2, hT2, rfl, b⟩
        have hS2 := hS.next b
        have hlx : Op.bytesLess T1.toList T2.toList = false := by rw [ByteArray.toList_eq, ByteArray.toList_eq, hT2, HT1.out, hex_less la l (by rw [HK.out.1, HL.out]), HX.out]
        clear hT2 b hS
        try go_simp
        refine hK.out _ _ hS2 (fun hS => ?_)
        clear hK K hS2
        refine wpAnyH_take (i := 21) (oi := { dst := some 50, op := Op.binOp BinOp.lss 9 (Operand.tmp 47) (Operand.tmp 49) 9, type := 4, pos := "law.go:88", after := #[{ on := 18, ground := Ground.data }, { on := 20, ground := Ground.data }, { on := 15, ground := Ground.guard }], guard := some (15, true) }) (v := ?vb21) rfl (by kernel_rfl) (by kernel_rfl) (by kernel_rfl) (fun _ _ _ h => h) (Or.inl ⟨by rfl, ?yb21⟩) hS ?rb21
        case yb21 => (intro w hS; go_simp; try with_reducible rfl)
        refine wpAnyH_take (i := 22) (oi := { dst := some 51, op := Op.binOp BinOp.eql 4 (Operand.tmp 45) (Operand.tmp 50) 4, type := 4, pos := "law.go:88", after := #[{ on := 16, ground := Ground.data }, { on := 21, ground := Ground.data }, { on := 15, ground := Ground.guard }], guard := some (15, true) }) (v := ?vb22) rfl (by kernel_rfl) (by kernel_rfl) (by kernel_rfl) (fun _ _ _ h => h) (Or.inl ⟨by rfl, ?yb22⟩) hS ?rb22
        case yb22 => (intro w hS; go_simp; try with_reducible rfl)
        refine wpAnyH_take (i := 23) (oi := { dst := some 52, op := Op.pick (Operand.tmp 44) (Operand.tmp 51) (Operand.const (Value.bool false)), type := 4, pos := "law.go:88", after := #[{ on := 15, ground := Ground.data }, { on := 22, ground := Ground.data }], guard := none }) (v := ?vb23) rfl (by kernel_rfl) (by kernel_rfl) (by kernel_rfl) (fun _ _ _ h => h) (Or.inl ⟨by rfl, ?yb23⟩) hS ?rb23
        case yb23 => (intro w hS; go_simp; try with_reducible rfl)
        refine wpAnyH_take (i := 24) (oi := { dst := some 53, op := Op.move (Operand.tmp 52), type := 4, pos := "law.go:88", after := #[{ on := 23, ground := Ground.data }, { on := 20, ground := Ground.chain }], guard := none }) (v := ?vb24) rfl (by kernel_rfl) (by kernel_rfl) (by kernel_rfl) (fun _ _ _ h => h) (Or.inl ⟨by rfl, ?yb24⟩) hS ?rb24
        case yb24 => (intro w hS; go_simp; try with_reducible rfl)
        go_simp
        refine wpAnyH_take (i := 25) (oi := { dst := some 54, op := Op.move (Operand.tmp 9), type := 4, pos := "law.go:88", after := #[{ on := 24, ground := Ground.guard }], guard := some (24, true) }) (v := ?vb25) rfl (by kernel_rfl) (by kernel_rfl) (by kernel_rfl) (fun _ _ _ h => h) (Or.inl ⟨by rfl, ?yb25⟩) hS ?rb25
        case yb25 => (intro w hS; go_simp; try with_reducible rfl)
        refine wpAnyH_take (i := 26) (oi := { dst := some 55, op := Op.move (Operand.tmp 54), type := 4, pos := "law.go:88", after := #[{ on := 25, ground := Ground.data }, { on := 24, ground := Ground.chain }, { on := 24, ground := Ground.guard }], guard := some (24, true) }) (v := ?vb26) rfl (by kernel_rfl) (by kernel_rfl) (by kernel_rfl) (fun _ _ _ h => h) (Or.inl ⟨by rfl, ?yb26⟩) hS ?rb26
        case yb26 => (intro w hS; go_simp; try with_reducible rfl)
        go_simp
        refine wpAnyH_take (i := 27) (oi := { dst := some 56, op := Op.move (Operand.tmp 10), type := 4, pos := "law.go:88", after := #[{ on := 26, ground := Ground.guard }], guard := some (26, true) }) (v := undef) rfl (by kernel_rfl) (by kernel_rfl) (by kernel_rfl) (fun _ _ _ h => h) (Or.inr ⟨by rfl, rfl⟩) hS ?rb27
        go_simp
        refine wpAnyH_take (i := 28) (oi := { dst := some 57, op := Op.pick (Operand.tmp 55) (Operand.tmp 56) (Operand.const (Value.bool false)), type := 4, pos := "law.go:88", after := #[{ on := 26, ground := Ground.data }, { on := 27, ground := Ground.data }, { on := 24, ground := Ground.guard }], guard := some (24, true) }) (v := ?vb28) rfl (by kernel_rfl) (by kernel_rfl) (by kernel_rfl) (fun _ _ _ h => h) (Or.inl ⟨by rfl, ?yb28⟩) hS ?rb28
        case yb28 => (intro w hS; go_simp; try with_reducible rfl)
        refine wpAnyH_take (i := 29) (oi := { dst := some 58, op := Op.unOp UnOp.not 4 (Operand.tmp 57), type := 4, pos := "law.go:88", after := #[{ on := 28, ground := Ground.data }, { on := 24, ground := Ground.guard }], guard := some (24, true) }) (v := ?vb29) rfl (by kernel_rfl) (by kernel_rfl) (by kernel_rfl) (fun _ _ _ h => h) (Or.inl ⟨by rfl, ?yb29⟩) hS ?rb29
        case yb29 => (intro w hS; go_simp; try with_reducible rfl)
        refine wpAnyH_take (i := 30) (oi := { dst := some 59, op := Op.pick (Operand.tmp 53) (Operand.tmp 58) (Operand.const (Value.bool false)), type := 4, pos := "law.go:88", after := #[{ on := 24, ground := Ground.data }, { on := 29, ground := Ground.data }], guard := none }) (v := ?vb30) rfl (by kernel_rfl) (by kernel_rfl) (by kernel_rfl) (fun _ _ _ h => h) (Or.inl ⟨by rfl, ?yb30⟩) hS ?rb30
        case yb30 => (intro w hS; go_simp; try with_reducible rfl)
        refine wpAnyH_take (i := 31) (oi := { dst := some 60, op := Op.move (Operand.tmp 59), type := 4, pos := "law.go:88", after := #[{ on := 30, ground := Ground.data }, { on := 26, ground := Ground.chain }], guard := none }) (v := ?vb31) rfl (by kernel_rfl) (by kernel_rfl) (by kernel_rfl) (fun _ _ _ h => h) (Or.inl ⟨by rfl, ?yb31⟩) hS ?rb31
        case yb31 => (intro w hS; go_simp; try with_reducible rfl)
        go_simp
        refine wpAnyH_take (i := 32) (oi := { dst := some 61, op := Op.move (Operand.tmp 9), type := 4, pos := "law.go:88", after := #[{ on := 31, ground := Ground.guard }], guard := some (31, true) }) (v := ?vb32) rfl (by kernel_rfl) (by kernel_rfl) (by kernel_rfl) (fun _ _ _ h => h) (Or.inl ⟨by rfl, ?yb32⟩) hS ?rb32
        case yb32 => (intro w hS; go_simp; try with_reducible rfl)
        refine wpAnyH_take (i := 33) (oi := { dst := some 62, op := Op.move (Operand.tmp 61), type := 4, pos := "law.go:88", after := #[{ on := 32, ground := Ground.data }, { on := 31, ground := Ground.chain }, { on := 31, ground := Ground.guard }], guard := some (31, true) }) (v := ?vb33) rfl (by kernel_rfl) (by kernel_rfl) (by kernel_rfl) (fun _ _ _ h => h) (Or.inl ⟨by rfl, ?yb33⟩) hS ?rb33
        case yb33 => (intro w hS; go_simp; try with_reducible rfl)
        go_simp
        refine wpAnyH_take (i := 34) (oi := { dst := some 63, op := Op.move (Operand.tmp 10), type := 4, pos := "law.go:88", after := #[{ on := 33, ground := Ground.guard }], guard := some (33, false) }) (v := ?vb34) rfl (by kernel_rfl) (by kernel_rfl) (by kernel_rfl) (fun _ _ _ h => h) (Or.inl ⟨by rfl, ?yb34⟩) hS ?rb34
        case yb34 => (intro w hS; go_simp; try with_reducible rfl)
        go_simp
        refine wpAnyH_take (i := 35) (oi := { dst := some 64, op := Op.pick (Operand.tmp 62) (Operand.const (Value.bool true)) (Operand.tmp 63), type := 4, pos := "law.go:88", after := #[{ on := 33, ground := Ground.data }, { on := 34, ground := Ground.data }, { on := 31, ground := Ground.guard }], guard := some (31, true) }) (v := ?vb35) rfl (by kernel_rfl) (by kernel_rfl) (by kernel_rfl) (fun _ _ _ h => h) (Or.inl ⟨by rfl, ?yb35⟩) hS ?rb35
        case yb35 => (intro w hS; go_simp; try with_reducible rfl)
        refine wpAnyH_take (i := 36) (oi := { dst := some 65, op := Op.move (Operand.tmp 64), type := 4, pos := "law.go:88", after := #[{ on := 35, ground := Ground.data }, { on := 33, ground := Ground.chain }, { on := 31, ground := Ground.guard }], guard := some (31, true) }) (v := ?vb36) rfl (by kernel_rfl) (by kernel_rfl) (by kernel_rfl) (fun _ _ _ h => h) (Or.inl ⟨by rfl, ?yb36⟩) hS ?rb36
        case yb36 => (intro w hS; go_simp; try with_reducible rfl)
        go_simp
        refine wpAnyH_take (i := 37) (oi := { dst := some 66, op := Op.load 24 (Operand.tmp 3), type := 24, pos := "law.go:88", after := #[{ on := 36, ground := Ground.guard }], guard := some (36, false) }) (v := undef) rfl (by kernel_rfl) (by kernel_rfl) (by kernel_rfl) (fun _ _ _ h => h) (Or.inr ⟨by rfl, rfl⟩) hS ?rb37
        refine wpAnyH_take (i := 38) (oi := { dst := some 67, op := Op.load 24 (Operand.tmp 4), type := 24, pos := "law.go:88", after := #[{ on := 36, ground := Ground.guard }], guard := some (36, false) }) (v := undef) rfl (by kernel_rfl) (by kernel_rfl) (by kernel_rfl) (fun _ _ _ h => h) (Or.inr ⟨by rfl, rfl⟩) hS ?rb38
        refine wpAnyH_take (i := 39) (oi := { dst := some 68, op := Op.binOp BinOp.eql 24 (Operand.tmp 66) (Operand.tmp 67) 24, type := 4, pos := "law.go:88", after := #[{ on := 37, ground := Ground.data }, { on := 38, ground := Ground.data }, { on := 36, ground := Ground.guard }], guard := some (36, false) }) (v := undef) rfl (by kernel_rfl) (by kernel_rfl) (by kernel_rfl) (fun _ _ _ h => h) (Or.inr ⟨by rfl, rfl⟩) hS ?rb39
        go_simp
        refine wpAnyH_take (i := 40) (oi := { dst := some 69, op := Op.pick (Operand.tmp 65) (Operand.const (Value.bool true)) (Operand.tmp 68), type := 4, pos := "law.go:88", after := #[{ on := 36, ground := Ground.data }, { on := 39, ground := Ground.data }, { on := 31, ground := Ground.guard }], guard := some (31, true) }) (v := ?vb40) rfl (by kernel_rfl) (by kernel_rfl) (by kernel_rfl) (fun _ _ _ h => h) (Or.inl ⟨by rfl, ?yb40⟩) hS ?rb40
        case yb40 => (intro w hS; go_simp; try with_reducible rfl)
        refine wpAnyH_take (i := 41) (oi := { dst := some 70, op := Op.pick (Operand.tmp 60) (Operand.tmp 69) (Operand.const (Value.bool false)), type := 4, pos := "law.go:88", after := #[{ on := 31, ground := Ground.data }, { on := 40, ground := Ground.data }], guard := none }) (v := ?vb41) rfl (by kernel_rfl) (by kernel_rfl) (by kernel_rfl) (fun _ _ _ h => h) (Or.inl ⟨by rfl, ?yb41⟩) hS ?rb41
        case yb41 => (intro w hS; go_simp; try with_reducible rfl)
        refine wpAnyH_take (i := 42) (oi := { dst := some 6, op := Op.assign (Operand.tmp 70), type := 4, pos := "law.go:88", after := #[{ on := 41, ground := Ground.data }, { on := 36, ground := Ground.chain }, { on := 0, ground := Ground.phase }, { on := 1, ground := Ground.phase }, { on := 2, ground := Ground.phase }, { on := 3, ground := Ground.phase }, { on := 4, ground := Ground.phase }, { on := 5, ground := Ground.phase }, { on := 6, ground := Ground.phase }, { on := 7, ground := Ground.phase }, { on := 8, ground := Ground.phase }, { on := 9, ground := Ground.phase }, { on := 10, ground := Ground.phase }, { on := 11, ground := Ground.phase }, { on := 12, ground := Ground.phase }, { on := 13, ground := Ground.phase }, { on := 14, ground := Ground.phase }, { on := 15, ground := Ground.phase }, { on := 16, ground := Ground.phase }, { on := 17, ground := Ground.phase }, { on := 18, ground := Ground.phase }, { on := 19, ground := Ground.phase }, { on := 20, ground := Ground.phase }, { on := 21, ground := Ground.phase }, { on := 22, ground := Ground.phase }, { on := 23, ground := Ground.phase }, { on := 24, ground := Ground.phase }, { on := 25, ground := Ground.phase }, { on := 26, ground := Ground.phase }, { on := 27, ground := Ground.phase }, { on := 28, ground := Ground.phase }, { on := 29, ground := Ground.phase }, { on := 30, ground := Ground.phase }, { on := 31, ground := Ground.phase }, { on := 32, ground := Ground.phase }, { on := 33, ground := Ground.phase }, { on := 34, ground := Ground.phase }, { on := 35, ground := Ground.phase }, { on := 36, ground := Ground.phase }, { on := 37, ground := Ground.phase }, { on := 38, ground := Ground.phase }, { on := 39, ground := Ground.phase }, { on := 40, ground := Ground.phase }, { on := 41, ground := Ground.phase }], guard := none }) (v := ?vb42) rfl (by kernel_rfl) (by kernel_rfl) (by kernel_rfl) (fun _ _ _ h => h) (Or.inl ⟨by rfl, ?yb42⟩) hS ?rb42
        case yb42 => (intro w hS; go_simp; try with_reducible rfl)
        refine wpAnyH_done (by kernel_rfl) ?_ _
        go_wp2
        go_ret
        exact ⟨rfl, hS.2.2⟩
      · have heq := HE.out
        clear HE H3
        refine wp_region_held_drew (S := TS w la l) (by kernel_rfl) tsd (fun hS => ?_)
        clear tsd
        refine wpAnyH_take (i := 0) (oi := { dst := some 29, op := Op.move (Operand.tmp 7), type := 4, pos := "law.go:88", after := #[], guard := none }) (v := ?vc0) rfl (by kernel_rfl) (by kernel_rfl) (by kernel_rfl) (fun _ _ _ h => h) (Or.inl ⟨by rfl, ?yc0⟩) hS ?rc0
        case yc0 => (intro w hS; go_simp; try with_reducible rfl)
        refine wpAnyH_take (i := 1) (oi := { dst := some 30, op := Op.move (Operand.tmp 29), type := 4, pos := "law.go:88", after := #[{ on := 0, ground := Ground.data }], guard := none }) (v := ?vc1) rfl (by kernel_rfl) (by kernel_rfl) (by kernel_rfl) (fun _ _ _ h => h) (Or.inl ⟨by rfl, ?yc1⟩) hS ?rc1
        case yc1 => (intro w hS; go_simp; try with_reducible rfl)
        go_simp
        refine wpAnyH_take (i := 2) (oi := { dst := some 31, op := Op.move (Operand.tmp 9), type := 4, pos := "law.go:88", after := #[{ on := 1, ground := Ground.guard }], guard := some (1, true) }) (v := ?vc2) rfl (by kernel_rfl) (by kernel_rfl) (by kernel_rfl) (fun _ _ _ h => h) (Or.inl ⟨by rfl, ?yc2⟩) hS ?rc2
        case yc2 => (intro w hS; go_simp; try with_reducible rfl)
        refine wpAnyH_take (i := 3) (oi := { dst := some 32, op := Op.load 24 (Operand.tmp 3), type := 24, pos := "law.go:88", after := #[{ on := 1, ground := Ground.guard }], guard := some (1, true) }) (v := hval la) rfl (by kernel_rfl) (by kernel_rfl) (by kernel_rfl) (fun _ _ _ h => h) (Or.inl ⟨by rfl, ?yc3⟩) hS ?rc3
        case yc3 => exact fun w' hS => exec_load_row w' 24 (.tmp 3) rfl w.heap.size (by first | rfl | (simp [Act.eval])) 24 (hcells la) (0, 0) _ hS.1 Tryd.underlying24 rfl sza.out
        refine wpAnyH_take (i := 4) (oi := { dst := some 33, op := Op.load 24 (Operand.tmp 4), type := 24, pos := "law.go:88", after := #[{ on := 1, ground := Ground.guard }], guard := some (1, true) }) (v := hval l) rfl (by kernel_rfl) (by kernel_rfl) (by kernel_rfl) (fun _ _ _ h => h) (Or.inl ⟨by rfl, ?yc4⟩) hS ?rc4
        case yc4 => exact fun w' hS => exec_load_row w' 24 (.tmp 4) rfl (w.heap.size + 1) (by first | rfl | (simp [Act.eval])) 24 (hcells l) (0, 0) _ hS.2.1 Tryd.underlying24 rfl szb.out
        go_simp
        refine wpAnyH_ready (rs := [5]) (by kernel_rfl) (by simp) ?_
        refine AllReadyH.cons (o := { dst := some 34, op := Op.call { callee := Callee.value (Operand.func 23), args := #[Operand.tmp 32, Operand.tmp 33], argTypes := #[24, 24] }, type := 4, pos := "law.go:88", after := #[{ on := 3, ground := Ground.data }, { on := 4, ground := Ground.data }, { on := 1, ground := Ground.chain }, { on := 1, ground := Ground.guard }], guard := some (1, true) }) rfl (fun K hK => ?_) AllReadyH.nil
        go_simp
        go_at_call 23
        refine (HQ.out.1 _).mono ?_
        rintro e w5 ⟨rfl, b⟩
        have hS2 := hS.next b
        clear b hS
        try go_simp
        refine hK.out _ _ hS2 (fun hS => ?_)
        clear hK K hS2
        refine wpAnyH_take (i := 6) (oi := { dst := some 35, op := Op.binOp BinOp.eql 4 (Operand.tmp 31) (Operand.tmp 34) 4, type := 4, pos := "law.go:88", after := #[{ on := 2, ground := Ground.data }, { on := 5, ground := Ground.data }, { on := 1, ground := Ground.guard }], guard := some (1, true) }) (v := ?vc6) rfl (by kernel_rfl) (by kernel_rfl) (by kernel_rfl) (fun _ _ _ h => h) (Or.inl ⟨by rfl, ?yc6⟩) hS ?rc6
        case yc6 => (intro w hS; go_simp; try with_reducible rfl)
        refine wpAnyH_take (i := 7) (oi := { dst := some 36, op := Op.pick (Operand.tmp 30) (Operand.tmp 35) (Operand.const (Value.bool false)), type := 4, pos := "law.go:88", after := #[{ on := 1, ground := Ground.data }, { on := 6, ground := Ground.data }], guard := none }) (v := ?vc7) rfl (by kernel_rfl) (by kernel_rfl) (by kernel_rfl) (fun _ _ _ h => h) (Or.inl ⟨by rfl, ?yc7⟩) hS ?rc7
        case yc7 => (intro w hS; go_simp; try with_reducible rfl)
        refine wpAnyH_take (i := 8) (oi := { dst := some 37, op := Op.move (Operand.tmp 36), type := 4, pos := "law.go:88", after := #[{ on := 7, ground := Ground.data }, { on := 5, ground := Ground.chain }], guard := none }) (v := ?vc8) rfl (by kernel_rfl) (by kernel_rfl) (by kernel_rfl) (fun _ _ _ h => h) (Or.inl ⟨by rfl, ?yc8⟩) hS ?rc8
        case yc8 => (intro w hS; go_simp; try with_reducible rfl)
        go_simp
        refine wpAnyH_take (i := 9) (oi := { dst := some 38, op := Op.move (Operand.tmp 10), type := 4, pos := "law.go:88", after := #[{ on := 8, ground := Ground.guard }], guard := some (8, true) }) (v := ?vc9) rfl (by kernel_rfl) (by kernel_rfl) (by kernel_rfl) (fun _ _ _ h => h) (Or.inl ⟨by rfl, ?yc9⟩) hS ?rc9
        case yc9 => (intro w hS; go_simp; try with_reducible rfl)
        refine wpAnyH_take (i := 10) (oi := { dst := some 39, op := Op.load 24 (Operand.tmp 4), type := 24, pos := "law.go:88", after := #[{ on := 8, ground := Ground.guard }], guard := some (8, true) }) (v := hval l) rfl (by kernel_rfl) (by kernel_rfl) (by kernel_rfl) (fun _ _ _ h => h) (Or.inl ⟨by rfl, ?yc10⟩) hS ?rc10
        case yc10 => exact fun w' hS => exec_load_row w' 24 (.tmp 4) rfl (w.heap.size + 1) (by first | rfl | (simp [Act.eval])) 24 (hcells l) (0, 0) _ hS.2.1 Tryd.underlying24 rfl szb.out
        refine wpAnyH_take (i := 11) (oi := { dst := some 40, op := Op.load 24 (Operand.tmp 3), type := 24, pos := "law.go:88", after := #[{ on := 8, ground := Ground.guard }], guard := some (8, true) }) (v := hval la) rfl (by kernel_rfl) (by kernel_rfl) (by kernel_rfl) (fun _ _ _ h => h) (Or.inl ⟨by rfl, ?yc11⟩) hS ?rc11
        case yc11 => exact fun w' hS => exec_load_row w' 24 (.tmp 3) rfl w.heap.size (by first | rfl | (simp [Act.eval])) 24 (hcells la) (0, 0) _ hS.1 Tryd.underlying24 rfl sza.out
        go_simp
        refine wpAnyH_ready (rs := [12]) (by kernel_rfl) (by simp) ?_
        refine AllReadyH.cons (o := { dst := some 41, op := Op.call { callee := Callee.value (Operand.func 23), args := #[Operand.tmp 39, Operand.tmp 40], argTypes := #[24, 24] }, type := 4, pos := "law.go:88", after := #[{ on := 10, ground := Ground.data }, { on := 11, ground := Ground.data }, { on := 8, ground := Ground.chain }, { on := 8, ground := Ground.guard }], guard := some (8, true) }) rfl (fun K hK => ?_) AllReadyH.nil
        go_simp
        go_at_call 23
        refine (HQ.out.2 _).mono ?_
        rintro e w6 ⟨rfl, b⟩
        have hS2 := hS.next b
        clear b hS
        try go_simp
        refine hK.out _ _ hS2 (fun hS => ?_)
        clear hK K hS2
        refine wpAnyH_take (i := 13) (oi := { dst := some 42, op := Op.binOp BinOp.eql 4 (Operand.tmp 38) (Operand.tmp 41) 4, type := 4, pos := "law.go:88", after := #[{ on := 9, ground := Ground.data }, { on := 12, ground := Ground.data }, { on := 8, ground := Ground.guard }], guard := some (8, true) }) (v := ?vc13) rfl (by kernel_rfl) (by kernel_rfl) (by kernel_rfl) (fun _ _ _ h => h) (Or.inl ⟨by rfl, ?yc13⟩) hS ?rc13
        case yc13 => (intro w hS; go_simp; try with_reducible rfl)
        refine wpAnyH_take (i := 14) (oi := { dst := some 43, op := Op.pick (Operand.tmp 37) (Operand.tmp 42) (Operand.const (Value.bool false)), type := 4, pos := "law.go:88", after := #[{ on := 8, ground := Ground.data }, { on := 13, ground := Ground.data }], guard := none }) (v := ?vc14) rfl (by kernel_rfl) (by kernel_rfl) (by kernel_rfl) (fun _ _ _ h => h) (Or.inl ⟨by rfl, ?yc14⟩) hS ?rc14
        case yc14 => (intro w hS; go_simp; try with_reducible rfl)
        refine wpAnyH_take (i := 15) (oi := { dst := some 44, op := Op.move (Operand.tmp 43), type := 4, pos := "law.go:88", after := #[{ on := 14, ground := Ground.data }, { on := 12, ground := Ground.chain }], guard := none }) (v := ?vc15) rfl (by kernel_rfl) (by kernel_rfl) (by kernel_rfl) (fun _ _ _ h => h) (Or.inl ⟨by rfl, ?yc15⟩) hS ?rc15
        case yc15 => (intro w hS; go_simp; try with_reducible rfl)
        go_simp
        refine wpAnyH_take (i := 16) (oi := { dst := some 45, op := Op.move (Operand.tmp 9), type := 4, pos := "law.go:88", after := #[{ on := 15, ground := Ground.guard }], guard := some (15, true) }) (v := ?vc16) rfl (by kernel_rfl) (by kernel_rfl) (by kernel_rfl) (fun _ _ _ h => h) (Or.inl ⟨by rfl, ?yc16⟩) hS ?rc16
        case yc16 => (intro w hS; go_simp; try with_reducible rfl)
        refine wpAnyH_take (i := 17) (oi := { dst := some 46, op := Op.load 24 (Operand.tmp 3), type := 24, pos := "law.go:88", after := #[{ on := 15, ground := Ground.guard }], guard := some (15, true) }) (v := hval la) rfl (by kernel_rfl) (by kernel_rfl) (by kernel_rfl) (fun _ _ _ h => h) (Or.inl ⟨by rfl, ?yc17⟩) hS ?rc17
        case yc17 => exact fun w' hS => exec_load_row w' 24 (.tmp 3) rfl w.heap.size (by first | rfl | (simp [Act.eval])) 24 (hcells la) (0, 0) _ hS.1 Tryd.underlying24 rfl sza.out
        refine wpAnyH_take (i := 19) (oi := { dst := some 48, op := Op.load 24 (Operand.tmp 4), type := 24, pos := "law.go:88", after := #[{ on := 15, ground := Ground.guard }], guard := some (15, true) }) (v := hval l) rfl (by kernel_rfl) (by kernel_rfl) (by kernel_rfl) (fun _ _ _ h => h) (Or.inl ⟨by rfl, ?yc19⟩) hS ?rc19
        case yc19 => exact fun w' hS => exec_load_row w' 24 (.tmp 4) rfl (w.heap.size + 1) (by first | rfl | (simp [Act.eval])) 24 (hcells l) (0, 0) _ hS.2.1 Tryd.underlying24 rfl szb.out
        go_simp
        refine wpAnyH_ready (rs := [18]) (by kernel_rfl) (by simp) ?_
        refine AllReadyH.cons (o := { dst := some 47, op := Op.call { callee := Callee.value (Operand.func 18), args := #[Operand.tmp 46], argTypes := #[24] }, type := 9, pos := "law.go:88", after := #[{ on := 17, ground := Ground.data }, { on := 15, ground := Ground.chain }, { on := 15, ground := Ground.guard }], guard := some (15, true) }) rfl (fun K hK => ?_) AllReadyH.nil
        go_simp
        go_at_call 18
        refine (Text_any _ la HK.out.1).mono ?_
        rintro e w7 ⟨T1, hT1, rfl, b⟩
        have hS2 := hS.next b
        have HT1 := Lib.hid hT1; clear hT1 b hS
        try go_simp
        refine hK.out _ _ hS2 (fun hS => ?_)
        clear hK K hS2
        refine wpAnyH_ready (rs := [20]) (by kernel_rfl) (by simp) ?_
        refine AllReadyH.cons (o := { dst := some 49, op := Op.call { callee := Callee.value (Operand.func 18), args := #[Operand.tmp 48], argTypes := #[24] }, type := 9, pos := "law.go:88", after := #[{ on := 19, ground := Ground.data }, { on := 18, ground := Ground.chain }, { on := 15, ground := Ground.guard }], guard := some (15, true) }) rfl (fun K hK => ?_) AllReadyH.nil
        go_simp
        go_at_call 18
        refine (Text_any _ l HL.out).mono ?_
        rintro e w8 ⟨T2, hT2, rfl, b⟩
        have hS2 := hS.next b
        have hlx : Op.bytesLess T1.toList T2.toList = false := by rw [ByteArray.toList_eq, ByteArray.toList_eq, hT2, HT1.out, hex_less la l (by rw [HK.out.1, HL.out]), HX.out]
        clear hT2 b hS
        try go_simp
        refine hK.out _ _ hS2 (fun hS => ?_)
        clear hK K hS2
        refine wpAnyH_take (i := 21) (oi := { dst := some 50, op := Op.binOp BinOp.lss 9 (Operand.tmp 47) (Operand.tmp 49) 9, type := 4, pos := "law.go:88", after := #[{ on := 18, ground := Ground.data }, { on := 20, ground := Ground.data }, { on := 15, ground := Ground.guard }], guard := some (15, true) }) (v := ?vc21) rfl (by kernel_rfl) (by kernel_rfl) (by kernel_rfl) (fun _ _ _ h => h) (Or.inl ⟨by rfl, ?yc21⟩) hS ?rc21
        case yc21 => (intro w hS; go_simp; try with_reducible rfl)
        refine wpAnyH_take (i := 22) (oi := { dst := some 51, op := Op.binOp BinOp.eql 4 (Operand.tmp 45) (Operand.tmp 50) 4, type := 4, pos := "law.go:88", after := #[{ on := 16, ground := Ground.data }, { on := 21, ground := Ground.data }, { on := 15, ground := Ground.guard }], guard := some (15, true) }) (v := ?vc22) rfl (by kernel_rfl) (by kernel_rfl) (by kernel_rfl) (fun _ _ _ h => h) (Or.inl ⟨by rfl, ?yc22⟩) hS ?rc22
        case yc22 => (intro w hS; go_simp; try with_reducible rfl)
        refine wpAnyH_take (i := 23) (oi := { dst := some 52, op := Op.pick (Operand.tmp 44) (Operand.tmp 51) (Operand.const (Value.bool false)), type := 4, pos := "law.go:88", after := #[{ on := 15, ground := Ground.data }, { on := 22, ground := Ground.data }], guard := none }) (v := ?vc23) rfl (by kernel_rfl) (by kernel_rfl) (by kernel_rfl) (fun _ _ _ h => h) (Or.inl ⟨by rfl, ?yc23⟩) hS ?rc23
        case yc23 => (intro w hS; go_simp; try with_reducible rfl)
        refine wpAnyH_take (i := 24) (oi := { dst := some 53, op := Op.move (Operand.tmp 52), type := 4, pos := "law.go:88", after := #[{ on := 23, ground := Ground.data }, { on := 20, ground := Ground.chain }], guard := none }) (v := ?vc24) rfl (by kernel_rfl) (by kernel_rfl) (by kernel_rfl) (fun _ _ _ h => h) (Or.inl ⟨by rfl, ?yc24⟩) hS ?rc24
        case yc24 => (intro w hS; go_simp; try with_reducible rfl)
        go_simp
        refine wpAnyH_take (i := 25) (oi := { dst := some 54, op := Op.move (Operand.tmp 9), type := 4, pos := "law.go:88", after := #[{ on := 24, ground := Ground.guard }], guard := some (24, true) }) (v := ?vc25) rfl (by kernel_rfl) (by kernel_rfl) (by kernel_rfl) (fun _ _ _ h => h) (Or.inl ⟨by rfl, ?yc25⟩) hS ?rc25
        case yc25 => (intro w hS; go_simp; try with_reducible rfl)
        refine wpAnyH_take (i := 26) (oi := { dst := some 55, op := Op.move (Operand.tmp 54), type := 4, pos := "law.go:88", after := #[{ on := 25, ground := Ground.data }, { on := 24, ground := Ground.chain }, { on := 24, ground := Ground.guard }], guard := some (24, true) }) (v := ?vc26) rfl (by kernel_rfl) (by kernel_rfl) (by kernel_rfl) (fun _ _ _ h => h) (Or.inl ⟨by rfl, ?yc26⟩) hS ?rc26
        case yc26 => (intro w hS; go_simp; try with_reducible rfl)
        go_simp
        refine wpAnyH_take (i := 27) (oi := { dst := some 56, op := Op.move (Operand.tmp 10), type := 4, pos := "law.go:88", after := #[{ on := 26, ground := Ground.guard }], guard := some (26, true) }) (v := undef) rfl (by kernel_rfl) (by kernel_rfl) (by kernel_rfl) (fun _ _ _ h => h) (Or.inr ⟨by rfl, rfl⟩) hS ?rc27
        go_simp
        refine wpAnyH_take (i := 28) (oi := { dst := some 57, op := Op.pick (Operand.tmp 55) (Operand.tmp 56) (Operand.const (Value.bool false)), type := 4, pos := "law.go:88", after := #[{ on := 26, ground := Ground.data }, { on := 27, ground := Ground.data }, { on := 24, ground := Ground.guard }], guard := some (24, true) }) (v := ?vc28) rfl (by kernel_rfl) (by kernel_rfl) (by kernel_rfl) (fun _ _ _ h => h) (Or.inl ⟨by rfl, ?yc28⟩) hS ?rc28
        case yc28 => (intro w hS; go_simp; try with_reducible rfl)
        refine wpAnyH_take (i := 29) (oi := { dst := some 58, op := Op.unOp UnOp.not 4 (Operand.tmp 57), type := 4, pos := "law.go:88", after := #[{ on := 28, ground := Ground.data }, { on := 24, ground := Ground.guard }], guard := some (24, true) }) (v := ?vc29) rfl (by kernel_rfl) (by kernel_rfl) (by kernel_rfl) (fun _ _ _ h => h) (Or.inl ⟨by rfl, ?yc29⟩) hS ?rc29
        case yc29 => (intro w hS; go_simp; try with_reducible rfl)
        refine wpAnyH_take (i := 30) (oi := { dst := some 59, op := Op.pick (Operand.tmp 53) (Operand.tmp 58) (Operand.const (Value.bool false)), type := 4, pos := "law.go:88", after := #[{ on := 24, ground := Ground.data }, { on := 29, ground := Ground.data }], guard := none }) (v := ?vc30) rfl (by kernel_rfl) (by kernel_rfl) (by kernel_rfl) (fun _ _ _ h => h) (Or.inl ⟨by rfl, ?yc30⟩) hS ?rc30
        case yc30 => (intro w hS; go_simp; try with_reducible rfl)
        refine wpAnyH_take (i := 31) (oi := { dst := some 60, op := Op.move (Operand.tmp 59), type := 4, pos := "law.go:88", after := #[{ on := 30, ground := Ground.data }, { on := 26, ground := Ground.chain }], guard := none }) (v := ?vc31) rfl (by kernel_rfl) (by kernel_rfl) (by kernel_rfl) (fun _ _ _ h => h) (Or.inl ⟨by rfl, ?yc31⟩) hS ?rc31
        case yc31 => (intro w hS; go_simp; try with_reducible rfl)
        go_simp
        refine wpAnyH_take (i := 32) (oi := { dst := some 61, op := Op.move (Operand.tmp 9), type := 4, pos := "law.go:88", after := #[{ on := 31, ground := Ground.guard }], guard := some (31, true) }) (v := ?vc32) rfl (by kernel_rfl) (by kernel_rfl) (by kernel_rfl) (fun _ _ _ h => h) (Or.inl ⟨by rfl, ?yc32⟩) hS ?rc32
        case yc32 => (intro w hS; go_simp; try with_reducible rfl)
        refine wpAnyH_take (i := 33) (oi := { dst := some 62, op := Op.move (Operand.tmp 61), type := 4, pos := "law.go:88", after := #[{ on := 32, ground := Ground.data }, { on := 31, ground := Ground.chain }, { on := 31, ground := Ground.guard }], guard := some (31, true) }) (v := ?vc33) rfl (by kernel_rfl) (by kernel_rfl) (by kernel_rfl) (fun _ _ _ h => h) (Or.inl ⟨by rfl, ?yc33⟩) hS ?rc33
        case yc33 => (intro w hS; go_simp; try with_reducible rfl)
        go_simp
        refine wpAnyH_take (i := 34) (oi := { dst := some 63, op := Op.move (Operand.tmp 10), type := 4, pos := "law.go:88", after := #[{ on := 33, ground := Ground.guard }], guard := some (33, false) }) (v := ?vc34) rfl (by kernel_rfl) (by kernel_rfl) (by kernel_rfl) (fun _ _ _ h => h) (Or.inl ⟨by rfl, ?yc34⟩) hS ?rc34
        case yc34 => (intro w hS; go_simp; try with_reducible rfl)
        go_simp
        refine wpAnyH_take (i := 35) (oi := { dst := some 64, op := Op.pick (Operand.tmp 62) (Operand.const (Value.bool true)) (Operand.tmp 63), type := 4, pos := "law.go:88", after := #[{ on := 33, ground := Ground.data }, { on := 34, ground := Ground.data }, { on := 31, ground := Ground.guard }], guard := some (31, true) }) (v := ?vc35) rfl (by kernel_rfl) (by kernel_rfl) (by kernel_rfl) (fun _ _ _ h => h) (Or.inl ⟨by rfl, ?yc35⟩) hS ?rc35
        case yc35 => (intro w hS; go_simp; try with_reducible rfl)
        refine wpAnyH_take (i := 36) (oi := { dst := some 65, op := Op.move (Operand.tmp 64), type := 4, pos := "law.go:88", after := #[{ on := 35, ground := Ground.data }, { on := 33, ground := Ground.chain }, { on := 31, ground := Ground.guard }], guard := some (31, true) }) (v := ?vc36) rfl (by kernel_rfl) (by kernel_rfl) (by kernel_rfl) (fun _ _ _ h => h) (Or.inl ⟨by rfl, ?yc36⟩) hS ?rc36
        case yc36 => (intro w hS; go_simp; try with_reducible rfl)
        go_simp
        refine wpAnyH_take (i := 37) (oi := { dst := some 66, op := Op.load 24 (Operand.tmp 3), type := 24, pos := "law.go:88", after := #[{ on := 36, ground := Ground.guard }], guard := some (36, false) }) (v := hval la) rfl (by kernel_rfl) (by kernel_rfl) (by kernel_rfl) (fun _ _ _ h => h) (Or.inl ⟨by rfl, ?yc37⟩) hS ?rc37
        case yc37 => exact fun w' hS => exec_load_row w' 24 (.tmp 3) rfl w.heap.size (by first | rfl | (simp [Act.eval])) 24 (hcells la) (0, 0) _ hS.1 Tryd.underlying24 rfl sza.out
        refine wpAnyH_take (i := 38) (oi := { dst := some 67, op := Op.load 24 (Operand.tmp 4), type := 24, pos := "law.go:88", after := #[{ on := 36, ground := Ground.guard }], guard := some (36, false) }) (v := hval l) rfl (by kernel_rfl) (by kernel_rfl) (by kernel_rfl) (fun _ _ _ h => h) (Or.inl ⟨by rfl, ?yc38⟩) hS ?rc38
        case yc38 => exact fun w' hS => exec_load_row w' 24 (.tmp 4) rfl (w.heap.size + 1) (by first | rfl | (simp [Act.eval])) 24 (hcells l) (0, 0) _ hS.2.1 Tryd.underlying24 rfl szb.out
        go_simp
        refine wpAnyH_take (i := 39) (oi := { dst := some 68, op := Op.binOp BinOp.eql 24 (Operand.tmp 66) (Operand.tmp 67) 24, type := 4, pos := "law.go:88", after := #[{ on := 37, ground := Ground.data }, { on := 38, ground := Ground.data }, { on := 36, ground := Ground.guard }], guard := some (36, false) }) (v := ?vc39) rfl (by kernel_rfl) (by kernel_rfl) (by kernel_rfl) (fun _ _ _ h => h) (Or.inl ⟨by rfl, ?yc39⟩) hS ?rc39
        case yc39 => (intro w hS; go_simp; try with_reducible rfl)
        go_simp
        refine wpAnyH_take (i := 40) (oi := { dst := some 69, op := Op.pick (Operand.tmp 65) (Operand.const (Value.bool true)) (Operand.tmp 68), type := 4, pos := "law.go:88", after := #[{ on := 36, ground := Ground.data }, { on := 39, ground := Ground.data }, { on := 31, ground := Ground.guard }], guard := some (31, true) }) (v := ?vc40) rfl (by kernel_rfl) (by kernel_rfl) (by kernel_rfl) (fun _ _ _ h => h) (Or.inl ⟨by rfl, ?yc40⟩) hS ?rc40
        case yc40 => (intro w hS; go_simp; try with_reducible rfl)
        refine wpAnyH_take (i := 41) (oi := { dst := some 70, op := Op.pick (Operand.tmp 60) (Operand.tmp 69) (Operand.const (Value.bool false)), type := 4, pos := "law.go:88", after := #[{ on := 31, ground := Ground.data }, { on := 40, ground := Ground.data }], guard := none }) (v := ?vc41) rfl (by kernel_rfl) (by kernel_rfl) (by kernel_rfl) (fun _ _ _ h => h) (Or.inl ⟨by rfl, ?yc41⟩) hS ?rc41
        case yc41 => (intro w hS; go_simp; try with_reducible rfl)
        refine wpAnyH_take (i := 42) (oi := { dst := some 6, op := Op.assign (Operand.tmp 70), type := 4, pos := "law.go:88", after := #[{ on := 41, ground := Ground.data }, { on := 36, ground := Ground.chain }, { on := 0, ground := Ground.phase }, { on := 1, ground := Ground.phase }, { on := 2, ground := Ground.phase }, { on := 3, ground := Ground.phase }, { on := 4, ground := Ground.phase }, { on := 5, ground := Ground.phase }, { on := 6, ground := Ground.phase }, { on := 7, ground := Ground.phase }, { on := 8, ground := Ground.phase }, { on := 9, ground := Ground.phase }, { on := 10, ground := Ground.phase }, { on := 11, ground := Ground.phase }, { on := 12, ground := Ground.phase }, { on := 13, ground := Ground.phase }, { on := 14, ground := Ground.phase }, { on := 15, ground := Ground.phase }, { on := 16, ground := Ground.phase }, { on := 17, ground := Ground.phase }, { on := 18, ground := Ground.phase }, { on := 19, ground := Ground.phase }, { on := 20, ground := Ground.phase }, { on := 21, ground := Ground.phase }, { on := 22, ground := Ground.phase }, { on := 23, ground := Ground.phase }, { on := 24, ground := Ground.phase }, { on := 25, ground := Ground.phase }, { on := 26, ground := Ground.phase }, { on := 27, ground := Ground.phase }, { on := 28, ground := Ground.phase }, { on := 29, ground := Ground.phase }, { on := 30, ground := Ground.phase }, { on := 31, ground := Ground.phase }, { on := 32, ground := Ground.phase }, { on := 33, ground := Ground.phase }, { on := 34, ground := Ground.phase }, { on := 35, ground := Ground.phase }, { on := 36, ground := Ground.phase }, { on := 37, ground := Ground.phase }, { on := 38, ground := Ground.phase }, { on := 39, ground := Ground.phase }, { on := 40, ground := Ground.phase }, { on := 41, ground := Ground.phase }], guard := none }) (v := ?vc42) rfl (by kernel_rfl) (by kernel_rfl) (by kernel_rfl) (fun _ _ _ h => h) (Or.inl ⟨by rfl, ?yc42⟩) hS ?rc42
        case yc42 => (intro w hS; go_simp; try with_reducible rfl)
        refine wpAnyH_done (by kernel_rfl) ?_ _
        go_wp2
        go_ret
        exact ⟨rfl, hS.2.2⟩
end Go.Proofs.YtmanflkiffgphaaDoor
