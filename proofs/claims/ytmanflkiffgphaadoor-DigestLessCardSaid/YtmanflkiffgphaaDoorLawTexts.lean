/-
  The walk of the law DigestTexts.
-/
import Derived.Test.YtmanflkiffgphaaDoorLawBits
import Derived.Deep.RegionHeld3
namespace Go.Proofs.YtmanflkiffgphaaDoor
open Go.RowKit SH
theorem dig_inj (a b : Nat) (ha : a < 16) (hb : b < 16) (h : digs.getD a 0 = digs.getD b 0) : a = b := by
  have : ∀ a, a < 16 → ∀ b, b < 16 → digs.getD a 0 = digs.getD b 0 → a = b := by decide
  exact this a ha b hb h
theorem hex_inj : ∀ (a b : List UInt8), a.length = b.length → hex a = hex b → a = b
  | [], [], _, _ => rfl
  | [], _ :: _, h, _ => by simp at h
  | _ :: _, [], h, _ => by simp at h
  | x :: a, y :: b, h, e => by
    simp only [hex, List.cons.injEq] at e
    have h1 := dig_inj _ _ (by have := x.toNat_lt; omega) (by have := y.toNat_lt; omega) e.1
    have h2 := dig_inj _ _ (by omega) (by omega) e.2.1
    have hxy : x = y := UInt8.toNat_inj.1 (by omega)
    rw [hxy, hex_inj a b (by simpa using h) e.2.2]
theorem exec_load_row {P : Program} {ρ : Operand → Value} {o : Oper} (w : World) (ty : TypeId) (x : Operand) (ho : o.op = .load ty x)
    (g : Nat) (hx : ρ x = .pointer (some ⟨g, 0, none⟩)) (t : TypeId) (cs : Array Value) (fr : Nat × Nat) (d : TypeDesc) (hg : w.heap[g]? = some (.cells cs t fr))
    (hu : P.underlying ty = some d) (hd : (match d with | .struct _ | .array _ _ => true | _ => false) = true) (hi : (P.info? ty).map (·.size) = some cs.size) :
    (execOp ρ o).run P w = .ok (.value (.agg cs)) w := by
  unfold execOp
  simp only [ho, hx, Instr.loadAt, Instr.sureAddr, Sem.run_bind, Sem.run_pure, Result.andThen_ok, run_loadVar_row w g t ty cs fr d hg hu hd hi]
/-- the two hashes lie in their blocks -/
def TS (w : World) (la lb : List UInt8) (w' : World) : Prop := HM w' w.heap.size la ∧ HM w' (w.heap.size + 1) lb ∧ Below w.heap.size w w'
theorem TS.next {w u v : World} {la lb : List UInt8} (h : TS w la lb u) (b : Below u.heap.size u v) : TS w la lb v :=
  ⟨h.1.below b h.1.lt, h.2.1.below b h.2.1.lt, h.2.2.trans (b.mono h.2.2.size)⟩
theorem ts_start (w : World) (la lb : List UInt8) : TS w la lb ((w.alloc (.cells (hcells la) 24)).alloc (.cells (hcells lb) 24)) :=
  ⟨heap_alloc2_old _ _ _, heap_alloc2_new _ _ _, ((Below.refl w.heap.size w).alloc (Nat.le_refl _) _).alloc (by simp) _⟩
set_option maxRecDepth 100000 in
set_option maxHeartbeats 4000000 in
theorem texts_walk (w : World) (la : List UInt8) (hla : la.length = 32) (lb : List UInt8) (hlb : lb.length = 32) (hT : TB w) :
    Calls Tryd.prog 6 #[hval la, hval lb] w fun e w' => e = .returned (.bool true) ∧ Below w.heap.size w w' := by
  have ts := ts_start w la lb
  have HK := Lib.hid (And.intro hla (And.intro hlb (And.intro hT ts))); clear hla hlb hT ts
  obtain ⟨W0, hW0⟩ : ∃ W, (w.alloc (.cells (hcells la) 24)).alloc (.cells (hcells lb) 24) = W := ⟨_, rfl⟩
  rw [hW0] at HK
  go_enter Tryd.func6, Tryd.ntmps6
  go_upto_region 1 with fail
  clear hW0
  go_wp2_with fail
  go_must (go_fit (sane _ (HK.out.2.2.1.below HK.out.2.2.2.2.2)))
  rintro e w1 ⟨rfl, b1⟩
  have t1 := Lib.hid (TS.next HK.out.2.2.2 b1); clear b1
  go_upto_region 2 with fail
  have tsd : TS w la lb w1.drew := ⟨t1.out.1, t1.out.2.1, t1.out.2.2.drew⟩
  refine wp_region_held_drew (S := TS w la lb) (by kernel_rfl) tsd (fun hS => ?_)
  have sza : Hid ((Tryd.prog.info? 24).map (·.size) = some (hcells la).size) := Lib.hid (by rw [hcells_size, HK.out.1]; exact info8T.out)
  have szb : Hid ((Tryd.prog.info? 24).map (·.size) = some (hcells lb).size) := Lib.hid (by rw [hcells_size, HK.out.2.1]; exact info8T.out)
  obtain ⟨c, hc⟩ : ∃ c, (la == lb) = c := ⟨_, rfl⟩
  have heq := fun W => eql_hash W la lb HK.out.1 HK.out.2.1
  rw [hc] at heq
  have HC := Lib.hid hc; clear hc t1 tsd
  refine wpAnyH_take (i := 0) (oi := { dst := some 7, op := Op.move (Operand.tmp 5), type := 4, pos := "law.go:57", after := #[], guard := none }) (v := ?v0) rfl (by kernel_rfl) (by kernel_rfl) (by kernel_rfl) (fun _ _ _ h => h) (Or.inl ⟨by rfl, ?y0⟩) hS ?r0
  case y0 => (intro w hS; go_simp; try with_reducible rfl)
  refine wpAnyH_take (i := 1) (oi := { dst := some 8, op := Op.move (Operand.tmp 7), type := 4, pos := "law.go:57", after := #[{ on := 0, ground := Ground.data }], guard := none }) (v := ?v1) rfl (by kernel_rfl) (by kernel_rfl) (by kernel_rfl) (fun _ _ _ h => h) (Or.inl ⟨by rfl, ?y1⟩) hS ?r1
  case y1 => (intro w hS; go_simp; try with_reducible rfl)
  refine wpAnyH_take (i := 2) (oi := { dst := some 9, op := Op.load 24 (Operand.tmp 2), type := 24, pos := "law.go:57", after := #[{ on := 1, ground := Ground.guard }], guard := some (1, true) }) (v := hval la) rfl (by kernel_rfl) (by kernel_rfl) (by kernel_rfl) (fun _ _ _ h => h) (Or.inl ⟨by rfl, ?y2⟩) hS ?r2
  case y2 => exact fun w' hS => exec_load_row w' 24 (.tmp 2) rfl w.heap.size (by first | rfl | (simp [Act.eval])) 24 (hcells la) (0, 0) _ hS.1 Tryd.underlying24 rfl sza.out
  refine wpAnyH_take (i := 4) (oi := { dst := some 11, op := Op.load 24 (Operand.tmp 2), type := 24, pos := "law.go:57", after := #[{ on := 1, ground := Ground.guard }], guard := some (1, true) }) (v := hval la) rfl (by kernel_rfl) (by kernel_rfl) (by kernel_rfl) (fun _ _ _ h => h) (Or.inl ⟨by rfl, ?y4⟩) hS ?r4
  case y4 => exact fun w' hS => exec_load_row w' 24 (.tmp 2) rfl w.heap.size (by first | rfl | (simp [Act.eval])) 24 (hcells la) (0, 0) _ hS.1 Tryd.underlying24 rfl sza.out
  refine wpAnyH_ready (rs := [3]) (by kernel_rfl) (by simp) ?_
  refine AllReadyH.cons (o := { dst := some 10, op := Op.call { callee := Callee.value (Operand.func 18), args := #[Operand.tmp 9], argTypes := #[24] }, type := 9, pos := "law.go:57", after := #[{ on := 2, ground := Ground.data }, { on := 1, ground := Ground.chain }, { on := 1, ground := Ground.guard }], guard := some (1, true) }) rfl (fun K hK => ?_) AllReadyH.nil
  go_simp
  go_at_call 18
  refine (Text_any _ la HK.out.1).mono ?_
  rintro e w2 ⟨T1, hT1, rfl, b⟩
  have hS2 := hS.next b
  have HT1 := Lib.hid hT1; clear hT1 b hS
  try go_simp
  refine hK.out _ _ hS2 (fun hS => ?_)
  clear hK K hS2
  refine wpAnyH_ready (rs := [5]) (by kernel_rfl) (by simp) ?_
  refine AllReadyH.cons (o := { dst := some 12, op := Op.call { callee := Callee.value (Operand.func 19), args := #[Operand.tmp 11], argTypes := #[24] }, type := 9, pos := "law.go:57", after := #[{ on := 4, ground := Ground.data }, { on := 3, ground := Ground.chain }, { on := 1, ground := Ground.guard }], guard := some (1, true) }) rfl (fun K hK => ?_) AllReadyH.nil
  go_simp
  go_at_call 19
  refine (refText_any _ la HK.out.1).mono ?_
  rintro e w3 ⟨T2, hT2, rfl, b⟩
  have hS2 := hS.next b
  have e2 : T2 = T1 := str_eq (by rw [hT2, HT1.out])
  clear hT2 b hS
  subst e2
  try go_simp
  refine hK.out _ _ hS2 (fun hS => ?_)
  clear hK K hS2
  refine wpAnyH_take (i := 6) (oi := { dst := some 13, op := Op.binOp BinOp.eql 9 (Operand.tmp 10) (Operand.tmp 12) 9, type := 4, pos := "law.go:57", after := #[{ on := 3, ground := Ground.data }, { on := 5, ground := Ground.data }, { on := 1, ground := Ground.guard }], guard := some (1, true) }) (v := ?v6) rfl (by kernel_rfl) (by kernel_rfl) (by kernel_rfl) (fun _ _ _ h => h) (Or.inl ⟨by rfl, ?y6⟩) hS ?r6
  case y6 => (intro w hS; go_simp; try with_reducible rfl)
  refine wpAnyH_take (i := 7) (oi := { dst := some 14, op := Op.pick (Operand.tmp 8) (Operand.tmp 13) (Operand.const (Value.bool false)), type := 4, pos := "law.go:57", after := #[{ on := 1, ground := Ground.data }, { on := 6, ground := Ground.data }], guard := none }) (v := ?v7) rfl (by kernel_rfl) (by kernel_rfl) (by kernel_rfl) (fun _ _ _ h => h) (Or.inl ⟨by rfl, ?y7⟩) hS ?r7
  case y7 => (intro w hS; go_simp; try with_reducible rfl)
  refine wpAnyH_take (i := 8) (oi := { dst := some 15, op := Op.move (Operand.tmp 14), type := 4, pos := "law.go:57", after := #[{ on := 7, ground := Ground.data }, { on := 5, ground := Ground.chain }], guard := none }) (v := ?v8) rfl (by kernel_rfl) (by kernel_rfl) (by kernel_rfl) (fun _ _ _ h => h) (Or.inl ⟨by rfl, ?y8⟩) hS ?r8
  case y8 => (intro w hS; go_simp; try with_reducible rfl)
  go_simp
  refine wpAnyH_take (i := 9) (oi := { dst := some 16, op := Op.load 24 (Operand.tmp 2), type := 24, pos := "law.go:57", after := #[{ on := 8, ground := Ground.guard }], guard := some (8, true) }) (v := hval la) rfl (by kernel_rfl) (by kernel_rfl) (by kernel_rfl) (fun _ _ _ h => h) (Or.inl ⟨by rfl, ?y9⟩) hS ?r9
  case y9 => exact fun w' hS => exec_load_row w' 24 (.tmp 2) rfl w.heap.size (by first | rfl | (simp [Act.eval])) 24 (hcells la) (0, 0) _ hS.1 Tryd.underlying24 rfl sza.out
  go_simp
  refine wpAnyH_ready (rs := [10]) (by kernel_rfl) (by simp) ?_
  refine AllReadyH.cons (o := { dst := some 17, op := Op.call { callee := Callee.value (Operand.func 18), args := #[Operand.tmp 16], argTypes := #[24] }, type := 9, pos := "law.go:57", after := #[{ on := 9, ground := Ground.data }, { on := 8, ground := Ground.chain }, { on := 8, ground := Ground.guard }], guard := some (8, true) }) rfl (fun K hK => ?_) AllReadyH.nil
  go_simp
  go_at_call 18
  refine (Text_any _ la HK.out.1).mono ?_
  rintro e w4 ⟨T3, hT3, rfl, b⟩
  have hS2 := hS.next b
  have h64 : T3.size = 64 := by rw [← size_toList, hT3, hex_length, HK.out.1]
  clear hT3 b hS
  try go_simp
  refine hK.out _ _ hS2 (fun hS => ?_)
  clear hK K hS2
  refine wpAnyH_take (i := 11) (oi := { dst := some 18, op := Op.call { callee := Callee.builtin Builtin.len, args := #[Operand.tmp 17], argTypes := #[9] }, type := 3, pos := "law.go:57", after := #[{ on := 10, ground := Ground.data }, { on := 8, ground := Ground.guard }], guard := some (8, true) }) (v := ?v11) rfl (by kernel_rfl) (by kernel_rfl) (by kernel_rfl) (fun _ _ _ h => h) (Or.inl ⟨by rfl, ?y11⟩) hS ?r11
  case y11 => (intro w hS; go_simp; try with_reducible rfl)
  refine wpAnyH_take (i := 12) (oi := { dst := some 19, op := Op.binOp BinOp.eql 3 (Operand.tmp 18) (Operand.const (Value.int IntKind.i64 64)) 3, type := 4, pos := "law.go:57", after := #[{ on := 11, ground := Ground.data }, { on := 8, ground := Ground.guard }], guard := some (8, true) }) (v := ?v12) rfl (by kernel_rfl) (by kernel_rfl) (by kernel_rfl) (fun _ _ _ h => h) (Or.inl ⟨by rfl, ?y12⟩) hS ?r12
  case y12 => (intro w hS; go_simp; try with_reducible rfl)
  refine wpAnyH_take (i := 13) (oi := { dst := some 20, op := Op.pick (Operand.tmp 15) (Operand.tmp 19) (Operand.const (Value.bool false)), type := 4, pos := "law.go:57", after := #[{ on := 8, ground := Ground.data }, { on := 12, ground := Ground.data }], guard := none }) (v := ?v13) rfl (by kernel_rfl) (by kernel_rfl) (by kernel_rfl) (fun _ _ _ h => h) (Or.inl ⟨by rfl, ?y13⟩) hS ?r13
  case y13 => (intro w hS; go_simp; try with_reducible rfl)
  refine wpAnyH_take (i := 14) (oi := { dst := some 21, op := Op.move (Operand.tmp 20), type := 4, pos := "law.go:57", after := #[{ on := 13, ground := Ground.data }, { on := 10, ground := Ground.chain }], guard := none }) (v := ?v14) rfl (by kernel_rfl) (by kernel_rfl) (by kernel_rfl) (fun _ _ _ h => h) (Or.inl ⟨by rfl, ?y14⟩) hS ?r14
  case y14 => (intro w hS; go_simp; try with_reducible rfl)
  go_simp
  refine wpAnyH_take (i := 15) (oi := { dst := some 22, op := Op.load 24 (Operand.tmp 2), type := 24, pos := "law.go:57", after := #[{ on := 14, ground := Ground.guard }], guard := some (14, true) }) (v := hval la) rfl (by kernel_rfl) (by kernel_rfl) (by kernel_rfl) (fun _ _ _ h => h) (Or.inl ⟨by rfl, ?y15⟩) hS ?r15
  case y15 => exact fun w' hS => exec_load_row w' 24 (.tmp 2) rfl w.heap.size (by first | rfl | (simp [Act.eval])) 24 (hcells la) (0, 0) _ hS.1 Tryd.underlying24 rfl sza.out
  refine wpAnyH_take (i := 17) (oi := { dst := some 24, op := Op.load 24 (Operand.tmp 3), type := 24, pos := "law.go:57", after := #[{ on := 14, ground := Ground.guard }], guard := some (14, true) }) (v := hval lb) rfl (by kernel_rfl) (by kernel_rfl) (by kernel_rfl) (fun _ _ _ h => h) (Or.inl ⟨by rfl, ?y17⟩) hS ?r17
  case y17 => exact fun w' hS => exec_load_row w' 24 (.tmp 3) rfl (w.heap.size + 1) (by first | rfl | (simp [Act.eval])) 24 (hcells lb) (0, 0) _ hS.2.1 Tryd.underlying24 rfl szb.out
  go_simp
  refine wpAnyH_take (i := 20) (oi := { dst := some 27, op := Op.load 24 (Operand.tmp 2), type := 24, pos := "law.go:57", after := #[{ on := 14, ground := Ground.guard }], guard := some (14, true) }) (v := hval la) rfl (by kernel_rfl) (by kernel_rfl) (by kernel_rfl) (fun _ _ _ h => h) (Or.inl ⟨by rfl, ?y20⟩) hS ?r20
  case y20 => exact fun w' hS => exec_load_row w' 24 (.tmp 2) rfl w.heap.size (by first | rfl | (simp [Act.eval])) 24 (hcells la) (0, 0) _ hS.1 Tryd.underlying24 rfl sza.out
  refine wpAnyH_take (i := 21) (oi := { dst := some 28, op := Op.load 24 (Operand.tmp 3), type := 24, pos := "law.go:57", after := #[{ on := 14, ground := Ground.guard }], guard := some (14, true) }) (v := hval lb) rfl (by kernel_rfl) (by kernel_rfl) (by kernel_rfl) (fun _ _ _ h => h) (Or.inl ⟨by rfl, ?y21⟩) hS ?r21
  case y21 => exact fun w' hS => exec_load_row w' 24 (.tmp 3) rfl (w.heap.size + 1) (by first | rfl | (simp [Act.eval])) 24 (hcells lb) (0, 0) _ hS.2.1 Tryd.underlying24 rfl szb.out
  go_simp
  refine wpAnyH_take (i := 22) (oi := { dst := some 29, op := Op.binOp BinOp.eql 24 (Operand.tmp 27) (Operand.tmp 28) 24, type := 4, pos := "law.go:57", after := #[{ on := 20, ground := Ground.data }, { on := 21, ground := Ground.data }, { on := 14, ground := Ground.guard }], guard := some (14, true) }) (v := ?v22) rfl (by kernel_rfl) (by kernel_rfl) (by kernel_rfl) (fun _ _ _ h => h) (Or.inl ⟨by rfl, ?y22⟩) hS ?r22
  case y22 => (intro w hS; go_simp; try with_reducible rfl)
  go_simp
  refine wpAnyH_ready (rs := [16]) (by kernel_rfl) (by simp) ?_
  refine AllReadyH.cons (o := { dst := some 23, op := Op.call { callee := Callee.value (Operand.func 18), args := #[Operand.tmp 22], argTypes := #[24] }, type := 9, pos := "law.go:57", after := #[{ on := 15, ground := Ground.data }, { on := 14, ground := Ground.chain }, { on := 14, ground := Ground.guard }], guard := some (14, true) }) rfl (fun K hK => ?_) AllReadyH.nil
  go_simp
  go_at_call 18
  refine (Text_any _ la HK.out.1).mono ?_
  rintro e w5 ⟨T5, hT5, rfl, b⟩
  have hS2 := hS.next b
  have HT5 := Lib.hid hT5; clear hT5 b hS
  try go_simp
  refine hK.out _ _ hS2 (fun hS => ?_)
  clear hK K hS2
  refine wpAnyH_ready (rs := [18]) (by kernel_rfl) (by simp) ?_
  refine AllReadyH.cons (o := { dst := some 25, op := Op.call { callee := Callee.value (Operand.func 18), args := #[Operand.tmp 24], argTypes := #[24] }, type := 9, pos := "law.go:57", after := #[{ on := 17, ground := Ground.data }, { on := 16, ground := Ground.chain }, { on := 14, ground := Ground.guard }], guard := some (14, true) }) rfl (fun K hK => ?_) AllReadyH.nil
  go_simp
  go_at_call 18
  refine (Text_any _ lb HK.out.2.1).mono ?_
  rintro e w6 ⟨T6, hT6, rfl, b⟩
  have hS2 := hS.next b
  have hcc : (T5.toList == T6.toList) = c := by
    rw [← HC.out, Bool.eq_iff_iff, beq_iff_eq, beq_iff_eq, ByteArray.toList_eq, ByteArray.toList_eq, hT6, HT5.out]
    exact ⟨fun h => hex_inj la lb (by rw [HK.out.1, HK.out.2.1]) h, fun h => by rw [h]⟩
  clear hT6 b hS
  try go_simp
  refine hK.out _ _ hS2 (fun hS => ?_)
  clear hK K hS2
  refine wpAnyH_take (i := 19) (oi := { dst := some 26, op := Op.binOp BinOp.eql 9 (Operand.tmp 23) (Operand.tmp 25) 9, type := 4, pos := "law.go:57", after := #[{ on := 16, ground := Ground.data }, { on := 18, ground := Ground.data }, { on := 14, ground := Ground.guard }], guard := some (14, true) }) (v := ?v19) rfl (by kernel_rfl) (by kernel_rfl) (by kernel_rfl) (fun _ _ _ h => h) (Or.inl ⟨by rfl, ?y19⟩) hS ?r19
  case y19 => (intro w hS; go_simp; try with_reducible rfl)
  refine wpAnyH_take (i := 23) (oi := { dst := some 30, op := Op.binOp BinOp.eql 4 (Operand.tmp 26) (Operand.tmp 29) 4, type := 4, pos := "law.go:57", after := #[{ on := 19, ground := Ground.data }, { on := 22, ground := Ground.data }, { on := 14, ground := Ground.guard }], guard := some (14, true) }) (v := ?v23) rfl (by kernel_rfl) (by kernel_rfl) (by kernel_rfl) (fun _ _ _ h => h) (Or.inl ⟨by rfl, ?y23⟩) hS ?r23
  case y23 => (intro w hS; go_simp; try with_reducible rfl)
  go_simp
  refine wpAnyH_take (i := 24) (oi := { dst := some 31, op := Op.pick (Operand.tmp 21) (Operand.tmp 30) (Operand.const (Value.bool false)), type := 4, pos := "law.go:57", after := #[{ on := 14, ground := Ground.data }, { on := 23, ground := Ground.data }], guard := none }) (v := ?v24) rfl (by kernel_rfl) (by kernel_rfl) (by kernel_rfl) (fun _ _ _ h => h) (Or.inl ⟨by rfl, ?y24⟩) hS ?r24
  case y24 => (intro w hS; go_simp; try with_reducible rfl)
  refine wpAnyH_take (i := 25) (oi := { dst := some 4, op := Op.assign (Operand.tmp 31), type := 4, pos := "law.go:57", after := #[{ on := 24, ground := Ground.data }, { on := 18, ground := Ground.chain }, { on := 0, ground := Ground.phase }, { on := 1, ground := Ground.phase }, { on := 2, ground := Ground.phase }, { on := 3, ground := Ground.phase }, { on := 4, ground := Ground.phase }, { on := 5, ground := Ground.phase }, { on := 6, ground := Ground.phase }, { on := 7, ground := Ground.phase }, { on := 8, ground := Ground.phase }, { on := 9, ground := Ground.phase }, { on := 10, ground := Ground.phase }, { on := 11, ground := Ground.phase }, { on := 12, ground := Ground.phase }, { on := 13, ground := Ground.phase }, { on := 14, ground := Ground.phase }, { on := 15, ground := Ground.phase }, { on := 16, ground := Ground.phase }, { on := 17, ground := Ground.phase }, { on := 18, ground := Ground.phase }, { on := 19, ground := Ground.phase }, { on := 20, ground := Ground.phase }, { on := 21, ground := Ground.phase }, { on := 22, ground := Ground.phase }, { on := 23, ground := Ground.phase }, { on := 24, ground := Ground.phase }], guard := none }) (v := ?v25) rfl (by kernel_rfl) (by kernel_rfl) (by kernel_rfl) (fun _ _ _ h => h) (Or.inl ⟨by rfl, ?y25⟩) hS ?r25
  case y25 => (intro w hS; go_simp; try with_reducible rfl)
  refine wpAnyH_done (by kernel_rfl) ?_ _
  go_wp2
  go_ret
  exact ⟨rfl, hS.2.2⟩
end Go.Proofs.YtmanflkiffgphaaDoor
