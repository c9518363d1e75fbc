/-
  The walks of deal.Check, deal.Complain and deal.Judge.
-/
import Derived.Test.YtjfbpmpdcmealaaGreatDoorDOpn
import Derived.Test.YtjfbpmpdcmealaaGreatDoorEVerify
import Derived.Test.YtjfbpmpdcmealaaGreatDoorEProve
import Derived.Test.YtjfbpmpdcmealaaGreatDoorDText
namespace Go.Proofs.YtjfbpmpdcmealaaGreatDoor.D7
open Go.RowKit GM SH G4 E6 D7P
/-- whether a dealing is in form for n keys -/
def chk (C : List Int) (pt : Int) (B : List ByteArray) (n : Nat) : Bool := (B.length == n) && !decide (C.length < 1) && !decide (n < C.length) && B.all (fun b => b.size == 16) && (mem pt && C.all mem)
theorem ball_yes (l : List ByteArray) (k : Nat) (x : ByteArray) (hx : l[k]? = some x) (h : (l.take k).all (fun b => b.size == 16) = true) (hp : x.size = 16) : (l.take (k+1)).all (fun b => b.size == 16) = true := by
  rw [List.take_add_one, hx, List.all_append, h]; simp [hp]
theorem ball_no (l : List ByteArray) (k : Nat) (x : ByteArray) (hx : l[k]? = some x) (hp : x.size ≠ 16) : l.all (fun b => b.size == 16) = false := by
  rw [List.all_eq_false]
  exact ⟨x, List.mem_of_getElem? hx, by simp [hp]⟩
set_option maxRecDepth 100000 in
set_option maxHeartbeats 4000000 in
theorem Check_core (w : World) (pt : Int) (N : Nat) (p q : Option Addr) (n c m e : Nat) (B : List ByteArray) (r1 r2 : Bool) (hB : ZL w (.slice q m e) B) (hm : m ≤ 1000000000) (hn : n ≤ 1000000000) (hN : N ≤ 1000000000)
    (M1 : Hid (∀ W, Calls Tryz.prog 34 #[.int .i64 pt] W fun e w' => e = .returned (.bool r1) ∧ Below W.heap.size W w'))
    (M2 : Hid (∀ W, Below w.heap.size w W → Calls Tryz.prog 32 #[.slice p n c, .func (.func 34) #[] #[]] W fun e w' => e = .returned (.bool r2) ∧ Below W.heap.size W w')) :
    Calls Tryz.prog 25 #[.agg #[.slice p n c, .int .i64 pt, .slice q m e], .int .i64 (N : Int)] w fun e w' => e = .returned (.bool ((m == N) && !decide (n < 1) && !decide (N < n) && B.all (fun b => b.size == 16) && (r1 && r2))) ∧ Below w.heap.size w w' := by
  obtain ⟨q', e', h1, hc⟩ := hB.form
  injection h1 with h2 h3 h4
  subst h2 h4
  have HL := Lib.hid (And.intro h3.symm hc); clear h3 hc hB
  obtain ⟨W, hW⟩ : ∃ W, w.alloc (.cells #[.slice p n c, .int .i64 pt, .slice q m e] 34) = W := ⟨_, rfl⟩
  have K0 : CK w [(⟨w.heap.size, 0, none⟩, .slice p n c), (⟨w.heap.size, 1, none⟩, .int .i64 pt), (⟨w.heap.size, 2, none⟩, .slice q m e)] [] W := by
    have := (CK.start w).cells #[.slice p n c, .int .i64 pt, .slice q m e] 34 _ rfl
    rw [hW] at this
    exact this.sub (by simp) (by simp)
  have c0 := K0.get ⟨w.heap.size, 0, none⟩ (.slice p n c) (by simp)
  have c1 := K0.get ⟨w.heap.size, 1, none⟩ (.int .i64 pt) (by simp)
  have c2 := K0.get ⟨w.heap.size, 2, none⟩ (.slice q m e) (by simp)
  have HK := Lib.hid K0; clear K0
  by_cases g1 : m = N
  · subst g1
    have x1 : ((m : Int) == (m : Int)) = true := by simp
    have x2 : ((m : Int) != (m : Int)) = false := by simp
    have y1 : (m == m) = true := by simp
    by_cases g2 : n < 1
    · obtain rfl : n = 0 := by omega
      go_enter Tryz.func25, Tryz.ntmps25
      go_upto_region 1 with fail
      clear hW
      go_wp2
      go_ret
      exact ⟨by simp, HK.out.b⟩
    · have d2 : decide ((n : Int) < 1) = false := decide_eq_false (by omega)
      have d2n : decide (n < 1) = false := decide_eq_false g2
      have g2i : ¬ (n : Int) < 1 := by omega
      by_cases g3 : m < n
      · have d3 : decide ((m : Int) < (n : Int)) = true := decide_eq_true (by omega)
        have g3i : (m : Int) < (n : Int) := by omega
        go_enter Tryz.func25, Tryz.ntmps25
        go_upto_region 1 with fail
        clear hW
        go_wp2
        go_ret
        exact ⟨rfl, HK.out.b⟩
      · have d3 : decide ((m : Int) < (n : Int)) = false := decide_eq_false (by omega)
        have g3i : ¬ (m : Int) < (n : Int) := by omega
        have HG := Lib.hid (And.intro g2 g3)
        go_enter Tryz.func25, Tryz.ntmps25
        go_upto_region 1 with fail
        clear hW
        go_wp2_with fail
        clear x1 x2 y1 d2 d2n g2i d3 g3i c0 c1 c2
        go_loopw [28] (fun i wr => ∃ k : Nat, k ≤ m ∧ i = .int .i64 (k : Int) ∧ Hid ((B.take k).all (fun b => b.size == 16) = true) ∧ W = wr) (fun i _ => m - (match i with | .int _ i => i.toNat | _ => 0))
        case atStart => exact ⟨0, Nat.zero_le _, rfl, Lib.hid (by simp), rfl⟩
        case round =>
          obtain ⟨k, hk, rfl, ht, rfl⟩ := hrel
          by_cases hlt : k < m
          · obtain ⟨x, hx⟩ : ∃ x, B[k]? = some x := ⟨B[k]'(by rw [HL.out.1]; exact hlt), List.getElem?_eq_getElem _⟩
            obtain ⟨b, o, hp, hcx⟩ := HL.out.2 k x hx
            subst hp
            have hcell := (HK.out.b.cell (p := ⟨b, o + k, none⟩) (World.block_lt_of_cell? _ _ hcx)).trans hcx
            by_cases h16 : x.size = 16
            · have ht2 := Lib.hid (ball_yes B k x hx ht.out h16)
              clear hx hcx
              go_wp2
              exact ⟨⟨k + 1, by omega, by go_num, ht2, trivial⟩, by simp; omega⟩
            · have E := Lib.hid (ball_no B k x hx h16)
              have z1 : ((x.size : Int) == 16) = false := by simp; omega
              have z2 : ((x.size : Int) != 16) = true := by simp; omega
              have z3 : (x.size == 16) = false := by simp; omega
              clear hx hcx h16
              go_wp2
              go_ret
              exact ⟨by rw [E.out]; simp, HK.out.b⟩
          · obtain rfl : k = m := by omega
            have E := Lib.hid (show B.all (fun b => b.size == 16) = true by have := ht.out; rwa [List.take_of_length_le (by rw [HL.out.1]; exact Nat.le_refl _)] at this)
            have c1 := HK.out.get ⟨w.heap.size, 1, none⟩ (.int .i64 pt) (by simp)
            go_wp2_with fail
            refine (M1.out _).mono ?_
            rintro e w2 ⟨rfl, b2⟩
            have H2 := Lib.hid (HK.out.next b2); clear b2 c1
            have c0 := H2.out.get ⟨w.heap.size, 0, none⟩ (.slice p n c) (by simp)
            have y2 : (!decide (n < 1)) = true := by rw [decide_eq_false HG.out.1]; rfl
            have y3 : (!decide (k < n)) = true := by rw [decide_eq_false HG.out.2]; rfl
            cases r1 with
            | false =>
              go_wp2
              go_ret
              exact ⟨by simp, H2.out.b⟩
            | true =>
              have HY := Lib.hid (And.intro y2 y3); clear y2 y3
              go_wp2_with fail
              refine (M2.out _ H2.out.b).mono ?_
              rintro e w3 ⟨rfl, b3⟩
              have H3 := Lib.hid (H2.out.next b3); clear b3 c0
              go_wp2
              go_ret
              exact ⟨by rw [E.out, HY.out.1, HY.out.2]; simp, H3.out.b⟩
  · have x1 : ((m : Int) == (N : Int)) = false := by simp; omega
    have x2 : ((m : Int) != (N : Int)) = true := by simp; omega
    have y1 : (m == N) = false := by simp [g1]
    have HY := Lib.hid y1; clear y1
    clear g1
    go_enter Tryz.func25, Tryz.ntmps25
    go_upto_region 1 with fail
    clear hW
    go_wp2
    go_ret
    exact ⟨by rw [HY.out]; rfl, HK.out.b⟩
theorem Check_any (w : World) (pt : Int) (N : Nat) (p q : Option Addr) (n c m e : Nat) (C : List Int) (B : List ByteArray) (r : Bool) (hr : chk C pt B N = r) (hV : SL w (.slice p n c) C) (hB : ZL w (.slice q m e) B) (hi : ∀ x ∈ C, i64 x) (hp : i64 pt) (hm : m ≤ 1000000000) (hn : n ≤ 1000000000) (hN : N ≤ 1000000000) :
    Calls Tryz.prog 25 #[.agg #[.slice p n c, .int .i64 pt, .slice q m e], .int .i64 (N : Int)] w fun e w' => e = .returned (.bool r) ∧ Below w.heap.size w w' := by
  have hn1 : C.length = n := by obtain ⟨p', c', h1, _⟩ := hV.form; injection h1 with _ h _; exact h.symm
  have hm1 : B.length = m := by obtain ⟨p', c', h1, _⟩ := hB.form; injection h1 with _ h _; exact h.symm
  subst hr
  have := Check_core w pt N p q n c m e B (mem pt) (C.all mem) hB hm hn hN (Lib.hid fun W => member_k W pt _ rfl hp.1 hp.2) (Lib.hid fun W b => all_members W _ C _ rfl (hV.below b) hi (by omega))
  unfold chk
  rw [hn1, hm1]
  exact this
theorem infoC (a b c d : Int) : Hid ((Tryz.prog.info? 28).map (·.size) = some (#[Value.int .i64 a, Value.int .i64 b, Value.int .i64 c, Value.int .i64 d]).size) := Lib.hid (by show _ = some 4; kernel_rfl)
theorem co_one (a b c d : Int) : (#[Value.int .i64 a, Value.int .i64 b, Value.int .i64 c, Value.int .i64 d]).all (·.oneCell') = true := by simp [Value.oneCell']
theorem four_sz (a b c d : Int) {cs : Array Value} (h : cs.size = 4) : cs.size = (#[Value.int .i64 a, Value.int .i64 b, Value.int .i64 c, Value.int .i64 d]).size := h
set_option maxRecDepth 100000 in
set_option maxHeartbeats 4000000 in
theorem Complain_core (w : World) (sec ix pt ky C Z : Int) (p q : Option Addr) (n c m e : Nat) (hi : (decide (0 ≤ ix) && decide (ix < (m : Int))) = true)
    (M1 : Hid (∀ W, Calls Tryz.prog 34 #[.int .i64 pt] W fun e w' => e = .returned (.bool true) ∧ Below W.heap.size W w'))
    (S1 : Hid (∀ W, Calls Tryz.prog 42 #[.int .i64 sec, .agg #[.slice p n c, .int .i64 pt, .slice q m e]] W fun e w' => e = .returned (.int .i64 ky) ∧ Below W.heap.size W w'))
    (P1 : Hid (∀ W, Below w.heap.size w W → Calls Tryz.prog 43 #[.int .i64 sec, .int .i64 4, .int .i64 pt] W fun e w' => e = .returned (.agg #[.int .i64 C, .int .i64 Z]) ∧ Below W.heap.size W w')) :
    Calls Tryz.prog 14 #[.int .i64 sec, .agg #[.slice p n c, .int .i64 pt, .slice q m e], .int .i64 ix] w fun e w' => e = .returned (.agg #[.int .i64 ix, .int .i64 ky, .int .i64 C, .int .i64 Z]) ∧ Below w.heap.size w w' := by
  obtain ⟨W, hW⟩ : ∃ W, (w.alloc (.cells #[.slice p n c, .int .i64 pt, .slice q m e] 34)).alloc (.cells #[.int .i64 0, .int .i64 0, .int .i64 0, .int .i64 0] 28) = W := ⟨_, rfl⟩
  have K0 : CK w [(⟨w.heap.size, 0, none⟩, .slice p n c), (⟨w.heap.size, 1, none⟩, .int .i64 pt), (⟨w.heap.size, 2, none⟩, .slice q m e)] [(w.heap.size + 1, 4, 28)] W := by
    have := ((CK.start w).cells #[.slice p n c, .int .i64 pt, .slice q m e] 34 _ rfl).new #[.int .i64 0, .int .i64 0, .int .i64 0, .int .i64 0] 28
    rw [hW, World.size_alloc] at this
    exact this.sub (by simp) (by simp)
  have c1 := K0.get ⟨w.heap.size, 1, none⟩ (.int .i64 pt) (by simp)
  have c2 := K0.get ⟨w.heap.size, 2, none⟩ (.slice q m e) (by simp)
  have HK := Lib.hid K0
  have I1 := Lib.hid fun W => within_c W ix m true hi
  clear hi K0
  go_enter Tryz.func14, Tryz.ntmps14
  go_upto_region 1 with fail
  clear hW
  go_wp2_with fail
  refine (I1.out _).mono ?_
  rintro e w1 ⟨rfl, rfl⟩
  go_wp2_with fail
  refine (M1.out _).mono ?_
  rintro e w2 ⟨rfl, b2⟩
  have HK2 := Lib.hid (HK.out.next b2)
  clear c1 c2 b2 HK
  go_upto_region 3 with fail
  refine wp_region_held_drew (S := CK w [(⟨w.heap.size, 0, none⟩, .slice p n c), (⟨w.heap.size, 1, none⟩, .int .i64 pt), (⟨w.heap.size, 2, none⟩, .slice q m e)] [(w.heap.size + 1, 4, 28)]) (by kernel_rfl) HK2.out.drew (fun hS => ?_)
  clear HK2
  refine wpAnyH_take (i := 0) (oi := { dst := some 20, op := Op.move (Operand.tmp 2), type := 3, pos := "judge.go:22", after := #[], guard := none }) (v := ?vcm0) rfl (by kernel_rfl) (by kernel_rfl) (by kernel_rfl) (fun _ _ _ h => h) (Or.inl ⟨by rfl, ?ycm0⟩) hS ?rcm0
  case ycm0 => (intro w hS; go_simp; try with_reducible rfl)
  refine wpAnyH_take (i := 1) (oi := { dst := some 21, op := Op.move (Operand.tmp 0), type := 3, pos := "judge.go:22", after := #[], guard := none }) (v := ?vcm1) rfl (by kernel_rfl) (by kernel_rfl) (by kernel_rfl) (fun _ _ _ h => h) (Or.inl ⟨by rfl, ?ycm1⟩) hS ?rcm1
  case ycm1 => (intro w hS; go_simp; try with_reducible rfl)
  refine wpAnyH_take (i := 2) (oi := { dst := some 22, op := Op.load 34 (Operand.tmp 4), type := 34, pos := "judge.go:22", after := #[], guard := none }) (v := .agg #[.slice p n c, .int .i64 pt, .slice q m e]) rfl (by kernel_rfl) (by kernel_rfl) (by kernel_rfl) (fun _ _ _ h => h) (Or.inl ⟨by rfl, ?ycm2⟩) hS ?rcm2
  case ycm2 => (intro w' hS; have cf := (show w'.cell? ⟨w.heap.size, 0, none⟩ = some (.slice p n c) ∧ w'.cell? ⟨w.heap.size, 1, none⟩ = some (.int .i64 pt) ∧ w'.cell? ⟨w.heap.size, 2, none⟩ = some (.slice q m e) from ⟨hS.get _ _ (by simp), hS.get _ _ (by simp), hS.get _ _ (by simp)⟩); go_simp; try with_reducible rfl)
  refine wpAnyH_take (i := 4) (oi := { dst := some 24, op := Op.move (Operand.tmp 0), type := 3, pos := "judge.go:22", after := #[], guard := none }) (v := ?vcm4) rfl (by kernel_rfl) (by kernel_rfl) (by kernel_rfl) (fun _ _ _ h => h) (Or.inl ⟨by rfl, ?ycm4⟩) hS ?rcm4
  case ycm4 => (intro w hS; go_simp; try with_reducible rfl)
  refine wpAnyH_take (i := 5) (oi := { dst := some 25, op := Op.fieldAddr 34 (Operand.tmp 4) 1, type := 0, pos := "judge.go:22", after := #[], guard := none }) (v := ?vcm5) rfl (by kernel_rfl) (by kernel_rfl) (by kernel_rfl) (fun _ _ _ h => h) (Or.inl ⟨by rfl, ?ycm5⟩) hS ?rcm5
  case ycm5 => (intro w hS; go_simp; try with_reducible rfl)
  go_simp
  refine wpAnyH_take (i := 6) (oi := { dst := some 26, op := Op.load 3 (Operand.tmp 25), type := 3, pos := "judge.go:22", after := #[{ on := 5, ground := Ground.data }], guard := none }) (v := .int .i64 pt) rfl (by kernel_rfl) (by kernel_rfl) (by kernel_rfl) (fun _ _ _ h => h) (Or.inl ⟨by rfl, ?ycm6⟩) hS ?rcm6
  case ycm6 => (intro w' hS; have cf := hS.get ⟨w.heap.size, 1, none⟩ (.int .i64 pt) (by simp); go_simp; try with_reducible rfl)
  go_simp
  refine wpAnyH_ready (rs := [3]) (by kernel_rfl) (by simp) ?_
  refine AllReadyH.cons (o := { dst := some 23, op := Op.call { callee := Callee.value (Operand.func 42), args := #[Operand.tmp 21, Operand.tmp 22], argTypes := #[3, 34] }, type := 3, pos := "judge.go:22", after := #[{ on := 1, ground := Ground.data }, { on := 2, ground := Ground.data }], guard := none }) rfl (fun K hK => ?_) AllReadyH.nil
  go_simp
  go_at_call 42
  refine (S1.out _).mono ?_
  rintro e w' ⟨rfl, b⟩
  have hS2 := hS.next b
  clear b hS
  try go_simp
  refine hK.out _ _ hS2 (fun hS => ?_)
  clear hK K hS2
  refine wpAnyH_ready (rs := [7]) (by kernel_rfl) (by simp) ?_
  refine AllReadyH.cons (o := { dst := some 27, op := Op.call { callee := Callee.value (Operand.func 43), args := #[Operand.tmp 24, Operand.const (Value.int IntKind.i64 4), Operand.tmp 26], argTypes := #[3, 3, 3] }, type := 26, pos := "judge.go:22", after := #[{ on := 4, ground := Ground.data }, { on := 6, ground := Ground.data }, { on := 3, ground := Ground.chain }], guard := none }) rfl (fun K hK => ?_) AllReadyH.nil
  go_simp
  go_at_call 43
  refine (P1.out _ hS.b).mono ?_
  rintro e w' ⟨rfl, b⟩
  have hS2 := hS.next b
  clear b hS
  try go_simp
  refine hK.out _ _ hS2 (fun hS => ?_)
  clear hK K hS2
  refine wpAnyH_take (i := 8) (oi := { dst := some 28, op := Op.build 28 #[(0, Operand.tmp 20), (1, Operand.tmp 23), (2, Operand.tmp 27)], type := 28, pos := "judge.go:22", after := #[{ on := 0, ground := Ground.data }, { on := 3, ground := Ground.data }, { on := 7, ground := Ground.data }], guard := none }) (v := ?vcm8) rfl (by kernel_rfl) (by kernel_rfl) (by kernel_rfl) (fun _ _ _ h => h) (Or.inl ⟨by rfl, ?ycm8⟩) hS ?rcm8
  case ycm8 => (intro w hS; go_simp; try with_reducible rfl)
  go_simp
  obtain ⟨rs, hrs, hrow⟩ := hS.row (w.heap.size + 1) 4 28 (by simp)
  refine wpAnyH_ready (rs := [9]) (by kernel_rfl) (by simp) ?_
  refine AllReadyH.cons (o := { dst := none, op := Op.store 28 (Operand.tmp 6) (Operand.tmp 28), type := 0, pos := "judge.go:22", after := #[{ on := 8, ground := Ground.data }, { on := 7, ground := Ground.chain }, { on := 0, ground := Ground.phase }, { on := 1, ground := Ground.phase }, { on := 2, ground := Ground.phase }, { on := 3, ground := Ground.phase }, { on := 4, ground := Ground.phase }, { on := 5, ground := Ground.phase }, { on := 6, ground := Ground.phase }, { on := 7, ground := Ground.phase }, { on := 8, ground := Ground.phase }], guard := none }) rfl (fun K hK => ?_) AllReadyH.nil
  rw [if_pos (by rfl)]
  refine wp_store_row 28 (.tmp 6) (.tmp 28) rfl (w.heap.size + 1) (#[.int .i64 ix, .int .i64 ky, .int .i64 C, .int .i64 Z]) (by first | rfl | (simp [Act.eval])) (by first | rfl | (simp [Act.eval])) 28 rs hrow (infoC ix ky C Z).out (four_sz _ _ _ _ hrs) (co_one _ _ _ _) ?_
  have hS2 := hS.store (w.heap.size + 1) 4 28 (by simp) (#[.int .i64 ix, .int .i64 ky, .int .i64 C, .int .i64 Z]) rfl (by simp [Addr.block]) (by simp)
  have hrow2 := setRow_heap _ _ _ (#[.int .i64 ix, .int .i64 ky, .int .i64 C, .int .i64 Z]) _ _ hrow
  clear hS hrow
  refine hK.out _ _ hS2 (fun hS => ?_)
  clear hK K hS2
  refine wpAnyH_done (by kernel_rfl) ?_ _
  have HS := Lib.hid hS; clear hS
  have h0 := infoC ix ky C Z
  try dsimp only [Act.put]
  go_wp2
  refine bodyPost_ret (results_cell_row rfl _ _ (w.heap.size + 1) _ #[.int .i64 ix, .int .i64 ky, .int .i64 C, .int .i64 Z] _ _ rfl hrow2 Tryz.underlying28 rfl h0.out) rfl ?_
  exact ⟨rfl, HS.out.b⟩
set_option maxRecDepth 100000 in
set_option maxHeartbeats 4000000 in
theorem Judge_out (w : World) (ix pt ky C Z : Int) (ks p q : Option Addr) (l lc n c m e : Nat) (I1 : Hid (∀ W, Calls Tryz.prog 39 #[.int .i64 ix, .int .i64 (l : Int)] W fun e w' => e = .returned (.bool false) ∧ Below W.heap.size W w')) :
    Calls Tryz.prog 12 #[.slice ks l lc, .agg #[.slice p n c, .int .i64 pt, .slice q m e], .agg #[.int .i64 ix, .int .i64 ky, .int .i64 C, .int .i64 Z]] w fun e w' => e = .returned (.int .i64 0) ∧ Below w.heap.size w w' := by
  obtain ⟨W, hW⟩ : ∃ W, (w.alloc (.cells #[.slice p n c, .int .i64 pt, .slice q m e] 34)).alloc (.cells #[.int .i64 ix, .int .i64 ky, .int .i64 C, .int .i64 Z] 28) = W := ⟨_, rfl⟩
  have K0 : CK w [(⟨w.heap.size, 0, none⟩, .slice p n c), (⟨w.heap.size, 1, none⟩, .int .i64 pt), (⟨w.heap.size, 2, none⟩, .slice q m e), (⟨w.heap.size + 1, 0, none⟩, .int .i64 ix), (⟨w.heap.size + 1, 1, none⟩, .int .i64 ky), (⟨w.heap.size + 1, 2, none⟩, .int .i64 C), (⟨w.heap.size + 1, 3, none⟩, .int .i64 Z)] [] W := by
    have := ((CK.start w).cells #[.slice p n c, .int .i64 pt, .slice q m e] 34 _ rfl).cells #[.int .i64 ix, .int .i64 ky, .int .i64 C, .int .i64 Z] 28 _ rfl
    rw [hW, World.size_alloc] at this
    exact this.sub (by simp) (by simp)
  have HK := Lib.hid K0; clear K0
  go_enter Tryz.func12, Tryz.ntmps12
  go_upto_region 1 with fail
  clear hW
  refine wp_region_held_drew (S := CK w [(⟨w.heap.size, 0, none⟩, .slice p n c), (⟨w.heap.size, 1, none⟩, .int .i64 pt), (⟨w.heap.size, 2, none⟩, .slice q m e), (⟨w.heap.size + 1, 0, none⟩, .int .i64 ix), (⟨w.heap.size + 1, 1, none⟩, .int .i64 ky), (⟨w.heap.size + 1, 2, none⟩, .int .i64 C), (⟨w.heap.size + 1, 3, none⟩, .int .i64 Z)] []) (by kernel_rfl) HK.out.drew (fun hS => ?_)
  clear HK
  refine wpAnyH_take (i := 0) (oi := { dst := some 9, op := Op.fieldAddr 28 (Operand.tmp 5) 0, type := 0, pos := "judge.go:27", after := #[], guard := none }) (v := ?vja0) rfl (by kernel_rfl) (by kernel_rfl) (by kernel_rfl) (fun _ _ _ h => h) (Or.inl ⟨by rfl, ?yja0⟩) hS ?rja0
  case yja0 => (intro w hS; go_simp; try with_reducible rfl)
  refine wpAnyH_take (i := 2) (oi := { dst := some 11, op := Op.move (Operand.tmp 0), type := 22, pos := "judge.go:27", after := #[], guard := none }) (v := ?vja2) rfl (by kernel_rfl) (by kernel_rfl) (by kernel_rfl) (fun _ _ _ h => h) (Or.inl ⟨by rfl, ?yja2⟩) hS ?rja2
  case yja2 => (intro w hS; go_simp; try with_reducible rfl)
  go_simp
  refine wpAnyH_take (i := 1) (oi := { dst := some 10, op := Op.load 3 (Operand.tmp 9), type := 3, pos := "judge.go:27", after := #[{ on := 0, ground := Ground.data }], guard := none }) (v := .int .i64 ix) rfl (by kernel_rfl) (by kernel_rfl) (by kernel_rfl) (fun _ _ _ h => h) (Or.inl ⟨by rfl, ?yja1⟩) hS ?rja1
  case yja1 => (intro w' hS; have cf := hS.get ⟨w.heap.size + 1, 0, none⟩ (.int .i64 ix) (by simp); go_simp; try with_reducible rfl)
  refine wpAnyH_take (i := 3) (oi := { dst := some 12, op := Op.call { callee := Callee.builtin Builtin.len, args := #[Operand.tmp 11], argTypes := #[22] }, type := 3, pos := "judge.go:27", after := #[{ on := 2, ground := Ground.data }], guard := none }) (v := ?vja3) rfl (by kernel_rfl) (by kernel_rfl) (by kernel_rfl) (fun _ _ _ h => h) (Or.inl ⟨by rfl, ?yja3⟩) hS ?rja3
  case yja3 => (intro w hS; go_simp; try with_reducible rfl)
  go_simp
  refine wpAnyH_ready (rs := [4]) (by kernel_rfl) (by simp) ?_
  refine AllReadyH.cons (o := { dst := some 13, op := Op.call { callee := Callee.value (Operand.func 39), args := #[Operand.tmp 10, Operand.tmp 12], argTypes := #[3, 3] }, type := 4, pos := "judge.go:27", after := #[{ on := 1, ground := Ground.data }, { on := 3, ground := Ground.data }], guard := none }) rfl (fun K hK => ?_) AllReadyH.nil
  go_simp
  go_at_call 39
  refine (I1.out _).mono ?_
  rintro e w' ⟨rfl, b⟩
  have hS2 := hS.next b
  clear b hS
  try go_simp
  refine hK.out _ _ hS2 (fun hS => ?_)
  clear hK K hS2
  refine wpAnyH_take (i := 5) (oi := { dst := some 14, op := Op.unOp UnOp.not 4 (Operand.tmp 13), type := 4, pos := "judge.go:27", after := #[{ on := 4, ground := Ground.data }], guard := none }) (v := ?vja5) rfl (by kernel_rfl) (by kernel_rfl) (by kernel_rfl) (fun _ _ _ h => h) (Or.inl ⟨by rfl, ?yja5⟩) hS ?rja5
  case yja5 => (intro w hS; go_simp; try with_reducible rfl)
  go_simp
  refine wpAnyH_take (i := 6) (oi := { dst := some 15, op := Op.move (Operand.tmp 14), type := 4, pos := "judge.go:27", after := #[{ on := 5, ground := Ground.data }, { on := 4, ground := Ground.chain }], guard := none }) (v := ?vja6) rfl (by kernel_rfl) (by kernel_rfl) (by kernel_rfl) (fun _ _ _ h => h) (Or.inl ⟨by rfl, ?yja6⟩) hS ?rja6
  case yja6 => (intro w hS; go_simp; try with_reducible rfl)
  go_simp
  refine wpAnyH_take (i := 7) (oi := { dst := some 16, op := Op.load 34 (Operand.tmp 4), type := 34, pos := "judge.go:27", after := #[{ on := 6, ground := Ground.guard }], guard := some (6, false) }) (v := undef) rfl (by kernel_rfl) (by kernel_rfl) (by kernel_rfl) (fun _ _ _ h => h) (Or.inr ⟨by rfl, rfl⟩) hS ?rja7
  refine wpAnyH_take (i := 8) (oi := { dst := some 17, op := Op.move (Operand.tmp 0), type := 22, pos := "judge.go:27", after := #[{ on := 6, ground := Ground.guard }], guard := some (6, false) }) (v := undef) rfl (by kernel_rfl) (by kernel_rfl) (by kernel_rfl) (fun _ _ _ h => h) (Or.inr ⟨by rfl, rfl⟩) hS ?rja8
  go_simp
  refine wpAnyH_take (i := 9) (oi := { dst := some 18, op := Op.call { callee := Callee.builtin Builtin.len, args := #[Operand.tmp 17], argTypes := #[22] }, type := 3, pos := "judge.go:27", after := #[{ on := 8, ground := Ground.data }, { on := 6, ground := Ground.guard }], guard := some (6, false) }) (v := undef) rfl (by kernel_rfl) (by kernel_rfl) (by kernel_rfl) (fun _ _ _ h => h) (Or.inr ⟨by rfl, rfl⟩) hS ?rja9
  go_simp
  refine wpAnyH_take (i := 10) (oi := { dst := some 19, op := Op.call { callee := Callee.value (Operand.func 25), args := #[Operand.tmp 16, Operand.tmp 18], argTypes := #[34, 3] }, type := 4, pos := "judge.go:27", after := #[{ on := 7, ground := Ground.data }, { on := 9, ground := Ground.data }, { on := 6, ground := Ground.chain }, { on := 6, ground := Ground.guard }], guard := some (6, false) }) (v := undef) rfl (by kernel_rfl) (by kernel_rfl) (by kernel_rfl) (fun _ _ _ h => h) (Or.inr ⟨by rfl, rfl⟩) hS ?rja10
  go_simp
  refine wpAnyH_take (i := 11) (oi := { dst := some 20, op := Op.unOp UnOp.not 4 (Operand.tmp 19), type := 4, pos := "judge.go:27", after := #[{ on := 10, ground := Ground.data }, { on := 6, ground := Ground.guard }], guard := some (6, false) }) (v := undef) rfl (by kernel_rfl) (by kernel_rfl) (by kernel_rfl) (fun _ _ _ h => h) (Or.inr ⟨by rfl, rfl⟩) hS ?rja11
  go_simp
  refine wpAnyH_take (i := 12) (oi := { dst := some 21, op := Op.pick (Operand.tmp 15) (Operand.const (Value.bool true)) (Operand.tmp 20), type := 4, pos := "judge.go:27", after := #[{ on := 6, ground := Ground.data }, { on := 11, ground := Ground.data }], guard := none }) (v := ?vja12) rfl (by kernel_rfl) (by kernel_rfl) (by kernel_rfl) (fun _ _ _ h => h) (Or.inl ⟨by rfl, ?yja12⟩) hS ?rja12
  case yja12 => (intro w hS; go_simp; try with_reducible rfl)
  go_simp
  refine wpAnyH_take (i := 13) (oi := { dst := some 22, op := Op.move (Operand.tmp 21), type := 4, pos := "judge.go:27", after := #[{ on := 12, ground := Ground.data }, { on := 10, ground := Ground.chain }], guard := none }) (v := ?vja13) rfl (by kernel_rfl) (by kernel_rfl) (by kernel_rfl) (fun _ _ _ h => h) (Or.inl ⟨by rfl, ?yja13⟩) hS ?rja13
  case yja13 => (intro w hS; go_simp; try with_reducible rfl)
  go_simp
  refine wpAnyH_take (i := 14) (oi := { dst := some 23, op := Op.move (Operand.tmp 0), type := 22, pos := "judge.go:27", after := #[{ on := 13, ground := Ground.guard }], guard := some (13, false) }) (v := undef) rfl (by kernel_rfl) (by kernel_rfl) (by kernel_rfl) (fun _ _ _ h => h) (Or.inr ⟨by rfl, rfl⟩) hS ?rja14
  refine wpAnyH_take (i := 15) (oi := { dst := some 24, op := Op.fieldAddr 28 (Operand.tmp 5) 0, type := 0, pos := "judge.go:27", after := #[{ on := 13, ground := Ground.guard }], guard := some (13, false) }) (v := undef) rfl (by kernel_rfl) (by kernel_rfl) (by kernel_rfl) (fun _ _ _ h => h) (Or.inr ⟨by rfl, rfl⟩) hS ?rja15
  refine wpAnyH_take (i := 19) (oi := { dst := some 28, op := Op.fieldAddr 34 (Operand.tmp 4) 1, type := 0, pos := "judge.go:27", after := #[{ on := 13, ground := Ground.guard }], guard := some (13, false) }) (v := undef) rfl (by kernel_rfl) (by kernel_rfl) (by kernel_rfl) (fun _ _ _ h => h) (Or.inr ⟨by rfl, rfl⟩) hS ?rja19
  refine wpAnyH_take (i := 21) (oi := { dst := some 30, op := Op.fieldAddr 28 (Operand.tmp 5) 1, type := 0, pos := "judge.go:27", after := #[{ on := 13, ground := Ground.guard }], guard := some (13, false) }) (v := undef) rfl (by kernel_rfl) (by kernel_rfl) (by kernel_rfl) (fun _ _ _ h => h) (Or.inr ⟨by rfl, rfl⟩) hS ?rja21
  refine wpAnyH_take (i := 23) (oi := { dst := some 32, op := Op.fieldAddr 28 (Operand.tmp 5) 2, type := 0, pos := "judge.go:27", after := #[{ on := 13, ground := Ground.guard }], guard := some (13, false) }) (v := undef) rfl (by kernel_rfl) (by kernel_rfl) (by kernel_rfl) (fun _ _ _ h => h) (Or.inr ⟨by rfl, rfl⟩) hS ?rja23
  go_simp
  refine wpAnyH_take (i := 16) (oi := { dst := some 25, op := Op.load 3 (Operand.tmp 24), type := 3, pos := "judge.go:27", after := #[{ on := 15, ground := Ground.data }, { on := 13, ground := Ground.guard }], guard := some (13, false) }) (v := undef) rfl (by kernel_rfl) (by kernel_rfl) (by kernel_rfl) (fun _ _ _ h => h) (Or.inr ⟨by rfl, rfl⟩) hS ?rja16
  refine wpAnyH_take (i := 20) (oi := { dst := some 29, op := Op.load 3 (Operand.tmp 28), type := 3, pos := "judge.go:27", after := #[{ on := 19, ground := Ground.data }, { on := 13, ground := Ground.guard }], guard := some (13, false) }) (v := undef) rfl (by kernel_rfl) (by kernel_rfl) (by kernel_rfl) (fun _ _ _ h => h) (Or.inr ⟨by rfl, rfl⟩) hS ?rja20
  refine wpAnyH_take (i := 22) (oi := { dst := some 31, op := Op.load 3 (Operand.tmp 30), type := 3, pos := "judge.go:27", after := #[{ on := 21, ground := Ground.data }, { on := 13, ground := Ground.guard }], guard := some (13, false) }) (v := undef) rfl (by kernel_rfl) (by kernel_rfl) (by kernel_rfl) (fun _ _ _ h => h) (Or.inr ⟨by rfl, rfl⟩) hS ?rja22
  refine wpAnyH_take (i := 24) (oi := { dst := some 33, op := Op.load 26 (Operand.tmp 32), type := 26, pos := "judge.go:27", after := #[{ on := 23, ground := Ground.data }, { on := 13, ground := Ground.guard }], guard := some (13, false) }) (v := undef) rfl (by kernel_rfl) (by kernel_rfl) (by kernel_rfl) (fun _ _ _ h => h) (Or.inr ⟨by rfl, rfl⟩) hS ?rja24
  go_simp
  refine wpAnyH_take (i := 17) (oi := { dst := some 26, op := Op.indexAddr 22 (Operand.tmp 23) (Operand.tmp 25), type := 0, pos := "judge.go:27", after := #[{ on := 14, ground := Ground.data }, { on := 16, ground := Ground.data }, { on := 13, ground := Ground.guard }], guard := some (13, false) }) (v := undef) rfl (by kernel_rfl) (by kernel_rfl) (by kernel_rfl) (fun _ _ _ h => h) (Or.inr ⟨by rfl, rfl⟩) hS ?rja17
  go_simp
  refine wpAnyH_take (i := 18) (oi := { dst := some 27, op := Op.load 3 (Operand.tmp 26), type := 3, pos := "judge.go:27", after := #[{ on := 17, ground := Ground.data }, { on := 13, ground := Ground.guard }], guard := some (13, false) }) (v := undef) rfl (by kernel_rfl) (by kernel_rfl) (by kernel_rfl) (fun _ _ _ h => h) (Or.inr ⟨by rfl, rfl⟩) hS ?rja18
  go_simp
  refine wpAnyH_take (i := 25) (oi := { dst := some 34, op := Op.call { callee := Callee.value (Operand.func 40), args := #[Operand.const (Value.int IntKind.i64 4), Operand.tmp 27, Operand.tmp 29, Operand.tmp 31, Operand.tmp 33], argTypes := #[3, 3, 3, 3, 26] }, type := 4, pos := "judge.go:27", after := #[{ on := 18, ground := Ground.data }, { on := 20, ground := Ground.data }, { on := 22, ground := Ground.data }, { on := 24, ground := Ground.data }, { on := 13, ground := Ground.chain }, { on := 13, ground := Ground.guard }], guard := some (13, false) }) (v := undef) rfl (by kernel_rfl) (by kernel_rfl) (by kernel_rfl) (fun _ _ _ h => h) (Or.inr ⟨by rfl, rfl⟩) hS ?rja25
  go_simp
  refine wpAnyH_take (i := 26) (oi := { dst := some 35, op := Op.unOp UnOp.not 4 (Operand.tmp 34), type := 4, pos := "judge.go:27", after := #[{ on := 25, ground := Ground.data }, { on := 13, ground := Ground.guard }], guard := some (13, false) }) (v := undef) rfl (by kernel_rfl) (by kernel_rfl) (by kernel_rfl) (fun _ _ _ h => h) (Or.inr ⟨by rfl, rfl⟩) hS ?rja26
  go_simp
  refine wpAnyH_take (i := 27) (oi := { dst := some 36, op := Op.pick (Operand.tmp 22) (Operand.const (Value.bool true)) (Operand.tmp 35), type := 4, pos := "judge.go:27", after := #[{ on := 13, ground := Ground.data }, { on := 26, ground := Ground.data }], guard := none }) (v := ?vja27) rfl (by kernel_rfl) (by kernel_rfl) (by kernel_rfl) (fun _ _ _ h => h) (Or.inl ⟨by rfl, ?yja27⟩) hS ?rja27
  case yja27 => (intro w hS; go_simp; try with_reducible rfl)
  refine wpAnyH_done (by kernel_rfl) ?_ _
  try dsimp only [Act.put]
  go_wp2
  go_ret
  exact ⟨rfl, hS.b⟩
set_option maxRecDepth 100000 in
set_option maxHeartbeats 4000000 in
theorem Judge_form (w : World) (ix pt ky C Z : Int) (ks p q : Option Addr) (l lc n c m e : Nat) (I1 : Hid (∀ W, Calls Tryz.prog 39 #[.int .i64 ix, .int .i64 (l : Int)] W fun e w' => e = .returned (.bool true) ∧ Below W.heap.size W w')) (K1 : Hid (∀ W, Below w.heap.size w W → Calls Tryz.prog 25 #[.agg #[.slice p n c, .int .i64 pt, .slice q m e], .int .i64 (l : Int)] W fun e w' => e = .returned (.bool false) ∧ Below W.heap.size W w')) :
    Calls Tryz.prog 12 #[.slice ks l lc, .agg #[.slice p n c, .int .i64 pt, .slice q m e], .agg #[.int .i64 ix, .int .i64 ky, .int .i64 C, .int .i64 Z]] w fun e w' => e = .returned (.int .i64 0) ∧ Below w.heap.size w w' := by
  obtain ⟨W, hW⟩ : ∃ W, (w.alloc (.cells #[.slice p n c, .int .i64 pt, .slice q m e] 34)).alloc (.cells #[.int .i64 ix, .int .i64 ky, .int .i64 C, .int .i64 Z] 28) = W := ⟨_, rfl⟩
  have K0 : CK w [(⟨w.heap.size, 0, none⟩, .slice p n c), (⟨w.heap.size, 1, none⟩, .int .i64 pt), (⟨w.heap.size, 2, none⟩, .slice q m e), (⟨w.heap.size + 1, 0, none⟩, .int .i64 ix), (⟨w.heap.size + 1, 1, none⟩, .int .i64 ky), (⟨w.heap.size + 1, 2, none⟩, .int .i64 C), (⟨w.heap.size + 1, 3, none⟩, .int .i64 Z)] [] W := by
    have := ((CK.start w).cells #[.slice p n c, .int .i64 pt, .slice q m e] 34 _ rfl).cells #[.int .i64 ix, .int .i64 ky, .int .i64 C, .int .i64 Z] 28 _ rfl
    rw [hW, World.size_alloc] at this
    exact this.sub (by simp) (by simp)
  have HK := Lib.hid K0; clear K0
  go_enter Tryz.func12, Tryz.ntmps12
  go_upto_region 1 with fail
  clear hW
  refine wp_region_held_drew (S := CK w [(⟨w.heap.size, 0, none⟩, .slice p n c), (⟨w.heap.size, 1, none⟩, .int .i64 pt), (⟨w.heap.size, 2, none⟩, .slice q m e), (⟨w.heap.size + 1, 0, none⟩, .int .i64 ix), (⟨w.heap.size + 1, 1, none⟩, .int .i64 ky), (⟨w.heap.size + 1, 2, none⟩, .int .i64 C), (⟨w.heap.size + 1, 3, none⟩, .int .i64 Z)] []) (by kernel_rfl) HK.out.drew (fun hS => ?_)
  clear HK
  refine wpAnyH_take (i := 0) (oi := { dst := some 9, op := Op.fieldAddr 28 (Operand.tmp 5) 0, type := 0, pos := "judge.go:27", after := #[], guard := none }) (v := ?vjb0) rfl (by kernel_rfl) (by kernel_rfl) (by kernel_rfl) (fun _ _ _ h => h) (Or.inl ⟨by rfl, ?yjb0⟩) hS ?rjb0
  case yjb0 => (intro w hS; go_simp; try with_reducible rfl)
  refine wpAnyH_take (i := 2) (oi := { dst := some 11, op := Op.move (Operand.tmp 0), type := 22, pos := "judge.go:27", after := #[], guard := none }) (v := ?vjb2) rfl (by kernel_rfl) (by kernel_rfl) (by kernel_rfl) (fun _ _ _ h => h) (Or.inl ⟨by rfl, ?yjb2⟩) hS ?rjb2
  case yjb2 => (intro w hS; go_simp; try with_reducible rfl)
  go_simp
  refine wpAnyH_take (i := 1) (oi := { dst := some 10, op := Op.load 3 (Operand.tmp 9), type := 3, pos := "judge.go:27", after := #[{ on := 0, ground := Ground.data }], guard := none }) (v := .int .i64 ix) rfl (by kernel_rfl) (by kernel_rfl) (by kernel_rfl) (fun _ _ _ h => h) (Or.inl ⟨by rfl, ?yjb1⟩) hS ?rjb1
  case yjb1 => (intro w' hS; have cf := hS.get ⟨w.heap.size + 1, 0, none⟩ (.int .i64 ix) (by simp); go_simp; try with_reducible rfl)
  refine wpAnyH_take (i := 3) (oi := { dst := some 12, op := Op.call { callee := Callee.builtin Builtin.len, args := #[Operand.tmp 11], argTypes := #[22] }, type := 3, pos := "judge.go:27", after := #[{ on := 2, ground := Ground.data }], guard := none }) (v := ?vjb3) rfl (by kernel_rfl) (by kernel_rfl) (by kernel_rfl) (fun _ _ _ h => h) (Or.inl ⟨by rfl, ?yjb3⟩) hS ?rjb3
  case yjb3 => (intro w hS; go_simp; try with_reducible rfl)
  go_simp
  refine wpAnyH_ready (rs := [4]) (by kernel_rfl) (by simp) ?_
  refine AllReadyH.cons (o := { dst := some 13, op := Op.call { callee := Callee.value (Operand.func 39), args := #[Operand.tmp 10, Operand.tmp 12], argTypes := #[3, 3] }, type := 4, pos := "judge.go:27", after := #[{ on := 1, ground := Ground.data }, { on := 3, ground := Ground.data }], guard := none }) rfl (fun K hK => ?_) AllReadyH.nil
  go_simp
  go_at_call 39
  refine (I1.out _).mono ?_
  rintro e w' ⟨rfl, b⟩
  have hS2 := hS.next b
  clear b hS
  try go_simp
  refine hK.out _ _ hS2 (fun hS => ?_)
  clear hK K hS2
  refine wpAnyH_take (i := 5) (oi := { dst := some 14, op := Op.unOp UnOp.not 4 (Operand.tmp 13), type := 4, pos := "judge.go:27", after := #[{ on := 4, ground := Ground.data }], guard := none }) (v := ?vjb5) rfl (by kernel_rfl) (by kernel_rfl) (by kernel_rfl) (fun _ _ _ h => h) (Or.inl ⟨by rfl, ?yjb5⟩) hS ?rjb5
  case yjb5 => (intro w hS; go_simp; try with_reducible rfl)
  go_simp
  refine wpAnyH_take (i := 6) (oi := { dst := some 15, op := Op.move (Operand.tmp 14), type := 4, pos := "judge.go:27", after := #[{ on := 5, ground := Ground.data }, { on := 4, ground := Ground.chain }], guard := none }) (v := ?vjb6) rfl (by kernel_rfl) (by kernel_rfl) (by kernel_rfl) (fun _ _ _ h => h) (Or.inl ⟨by rfl, ?yjb6⟩) hS ?rjb6
  case yjb6 => (intro w hS; go_simp; try with_reducible rfl)
  go_simp
  refine wpAnyH_take (i := 7) (oi := { dst := some 16, op := Op.load 34 (Operand.tmp 4), type := 34, pos := "judge.go:27", after := #[{ on := 6, ground := Ground.guard }], guard := some (6, false) }) (v := .agg #[.slice p n c, .int .i64 pt, .slice q m e]) rfl (by kernel_rfl) (by kernel_rfl) (by kernel_rfl) (fun _ _ _ h => h) (Or.inl ⟨by rfl, ?yjb7⟩) hS ?rjb7
  case yjb7 => (intro w' hS; have cf := (show w'.cell? ⟨w.heap.size, 0, none⟩ = some (.slice p n c) ∧ w'.cell? ⟨w.heap.size, 1, none⟩ = some (.int .i64 pt) ∧ w'.cell? ⟨w.heap.size, 2, none⟩ = some (.slice q m e) from ⟨hS.get _ _ (by simp), hS.get _ _ (by simp), hS.get _ _ (by simp)⟩); go_simp; try with_reducible rfl)
  refine wpAnyH_take (i := 8) (oi := { dst := some 17, op := Op.move (Operand.tmp 0), type := 22, pos := "judge.go:27", after := #[{ on := 6, ground := Ground.guard }], guard := some (6, false) }) (v := ?vjb8) rfl (by kernel_rfl) (by kernel_rfl) (by kernel_rfl) (fun _ _ _ h => h) (Or.inl ⟨by rfl, ?yjb8⟩) hS ?rjb8
  case yjb8 => (intro w hS; go_simp; try with_reducible rfl)
  go_simp
  refine wpAnyH_take (i := 9) (oi := { dst := some 18, op := Op.call { callee := Callee.builtin Builtin.len, args := #[Operand.tmp 17], argTypes := #[22] }, type := 3, pos := "judge.go:27", after := #[{ on := 8, ground := Ground.data }, { on := 6, ground := Ground.guard }], guard := some (6, false) }) (v := ?vjb9) rfl (by kernel_rfl) (by kernel_rfl) (by kernel_rfl) (fun _ _ _ h => h) (Or.inl ⟨by rfl, ?yjb9⟩) hS ?rjb9
  case yjb9 => (intro w hS; go_simp; try with_reducible rfl)
  go_simp
  refine wpAnyH_ready (rs := [10]) (by kernel_rfl) (by simp) ?_
  refine AllReadyH.cons (o := { dst := some 19, op := Op.call { callee := Callee.value (Operand.func 25), args := #[Operand.tmp 16, Operand.tmp 18], argTypes := #[34, 3] }, type := 4, pos := "judge.go:27", after := #[{ on := 7, ground := Ground.data }, { on := 9, ground := Ground.data }, { on := 6, ground := Ground.chain }, { on := 6, ground := Ground.guard }], guard := some (6, false) }) rfl (fun K hK => ?_) AllReadyH.nil
  go_simp
  go_at_call 25
  refine (K1.out _ hS.b).mono ?_
  rintro e w' ⟨rfl, b⟩
  have hS2 := hS.next b
  clear b hS
  try go_simp
  refine hK.out _ _ hS2 (fun hS => ?_)
  clear hK K hS2
  refine wpAnyH_take (i := 11) (oi := { dst := some 20, op := Op.unOp UnOp.not 4 (Operand.tmp 19), type := 4, pos := "judge.go:27", after := #[{ on := 10, ground := Ground.data }, { on := 6, ground := Ground.guard }], guard := some (6, false) }) (v := ?vjb11) rfl (by kernel_rfl) (by kernel_rfl) (by kernel_rfl) (fun _ _ _ h => h) (Or.inl ⟨by rfl, ?yjb11⟩) hS ?rjb11
  case yjb11 => (intro w hS; go_simp; try with_reducible rfl)
  go_simp
  refine wpAnyH_take (i := 12) (oi := { dst := some 21, op := Op.pick (Operand.tmp 15) (Operand.const (Value.bool true)) (Operand.tmp 20), type := 4, pos := "judge.go:27", after := #[{ on := 6, ground := Ground.data }, { on := 11, ground := Ground.data }], guard := none }) (v := ?vjb12) rfl (by kernel_rfl) (by kernel_rfl) (by kernel_rfl) (fun _ _ _ h => h) (Or.inl ⟨by rfl, ?yjb12⟩) hS ?rjb12
  case yjb12 => (intro w hS; go_simp; try with_reducible rfl)
  go_simp
  refine wpAnyH_take (i := 13) (oi := { dst := some 22, op := Op.move (Operand.tmp 21), type := 4, pos := "judge.go:27", after := #[{ on := 12, ground := Ground.data }, { on := 10, ground := Ground.chain }], guard := none }) (v := ?vjb13) rfl (by kernel_rfl) (by kernel_rfl) (by kernel_rfl) (fun _ _ _ h => h) (Or.inl ⟨by rfl, ?yjb13⟩) hS ?rjb13
  case yjb13 => (intro w hS; go_simp; try with_reducible rfl)
  go_simp
  refine wpAnyH_take (i := 14) (oi := { dst := some 23, op := Op.move (Operand.tmp 0), type := 22, pos := "judge.go:27", after := #[{ on := 13, ground := Ground.guard }], guard := some (13, false) }) (v := undef) rfl (by kernel_rfl) (by kernel_rfl) (by kernel_rfl) (fun _ _ _ h => h) (Or.inr ⟨by rfl, rfl⟩) hS ?rjb14
  refine wpAnyH_take (i := 15) (oi := { dst := some 24, op := Op.fieldAddr 28 (Operand.tmp 5) 0, type := 0, pos := "judge.go:27", after := #[{ on := 13, ground := Ground.guard }], guard := some (13, false) }) (v := undef) rfl (by kernel_rfl) (by kernel_rfl) (by kernel_rfl) (fun _ _ _ h => h) (Or.inr ⟨by rfl, rfl⟩) hS ?rjb15
  refine wpAnyH_take (i := 19) (oi := { dst := some 28, op := Op.fieldAddr 34 (Operand.tmp 4) 1, type := 0, pos := "judge.go:27", after := #[{ on := 13, ground := Ground.guard }], guard := some (13, false) }) (v := undef) rfl (by kernel_rfl) (by kernel_rfl) (by kernel_rfl) (fun _ _ _ h => h) (Or.inr ⟨by rfl, rfl⟩) hS ?rjb19
  refine wpAnyH_take (i := 21) (oi := { dst := some 30, op := Op.fieldAddr 28 (Operand.tmp 5) 1, type := 0, pos := "judge.go:27", after := #[{ on := 13, ground := Ground.guard }], guard := some (13, false) }) (v := undef) rfl (by kernel_rfl) (by kernel_rfl) (by kernel_rfl) (fun _ _ _ h => h) (Or.inr ⟨by rfl, rfl⟩) hS ?rjb21
  refine wpAnyH_take (i := 23) (oi := { dst := some 32, op := Op.fieldAddr 28 (Operand.tmp 5) 2, type := 0, pos := "judge.go:27", after := #[{ on := 13, ground := Ground.guard }], guard := some (13, false) }) (v := undef) rfl (by kernel_rfl) (by kernel_rfl) (by kernel_rfl) (fun _ _ _ h => h) (Or.inr ⟨by rfl, rfl⟩) hS ?rjb23
  go_simp
  refine wpAnyH_take (i := 16) (oi := { dst := some 25, op := Op.load 3 (Operand.tmp 24), type := 3, pos := "judge.go:27", after := #[{ on := 15, ground := Ground.data }, { on := 13, ground := Ground.guard }], guard := some (13, false) }) (v := undef) rfl (by kernel_rfl) (by kernel_rfl) (by kernel_rfl) (fun _ _ _ h => h) (Or.inr ⟨by rfl, rfl⟩) hS ?rjb16
  refine wpAnyH_take (i := 20) (oi := { dst := some 29, op := Op.load 3 (Operand.tmp 28), type := 3, pos := "judge.go:27", after := #[{ on := 19, ground := Ground.data }, { on := 13, ground := Ground.guard }], guard := some (13, false) }) (v := undef) rfl (by kernel_rfl) (by kernel_rfl) (by kernel_rfl) (fun _ _ _ h => h) (Or.inr ⟨by rfl, rfl⟩) hS ?rjb20
  refine wpAnyH_take (i := 22) (oi := { dst := some 31, op := Op.load 3 (Operand.tmp 30), type := 3, pos := "judge.go:27", after := #[{ on := 21, ground := Ground.data }, { on := 13, ground := Ground.guard }], guard := some (13, false) }) (v := undef) rfl (by kernel_rfl) (by kernel_rfl) (by kernel_rfl) (fun _ _ _ h => h) (Or.inr ⟨by rfl, rfl⟩) hS ?rjb22
  refine wpAnyH_take (i := 24) (oi := { dst := some 33, op := Op.load 26 (Operand.tmp 32), type := 26, pos := "judge.go:27", after := #[{ on := 23, ground := Ground.data }, { on := 13, ground := Ground.guard }], guard := some (13, false) }) (v := undef) rfl (by kernel_rfl) (by kernel_rfl) (by kernel_rfl) (fun _ _ _ h => h) (Or.inr ⟨by rfl, rfl⟩) hS ?rjb24
  go_simp
  refine wpAnyH_take (i := 17) (oi := { dst := some 26, op := Op.indexAddr 22 (Operand.tmp 23) (Operand.tmp 25), type := 0, pos := "judge.go:27", after := #[{ on := 14, ground := Ground.data }, { on := 16, ground := Ground.data }, { on := 13, ground := Ground.guard }], guard := some (13, false) }) (v := undef) rfl (by kernel_rfl) (by kernel_rfl) (by kernel_rfl) (fun _ _ _ h => h) (Or.inr ⟨by rfl, rfl⟩) hS ?rjb17
  go_simp
  refine wpAnyH_take (i := 18) (oi := { dst := some 27, op := Op.load 3 (Operand.tmp 26), type := 3, pos := "judge.go:27", after := #[{ on := 17, ground := Ground.data }, { on := 13, ground := Ground.guard }], guard := some (13, false) }) (v := undef) rfl (by kernel_rfl) (by kernel_rfl) (by kernel_rfl) (fun _ _ _ h => h) (Or.inr ⟨by rfl, rfl⟩) hS ?rjb18
  go_simp
  refine wpAnyH_take (i := 25) (oi := { dst := some 34, op := Op.call { callee := Callee.value (Operand.func 40), args := #[Operand.const (Value.int IntKind.i64 4), Operand.tmp 27, Operand.tmp 29, Operand.tmp 31, Operand.tmp 33], argTypes := #[3, 3, 3, 3, 26] }, type := 4, pos := "judge.go:27", after := #[{ on := 18, ground := Ground.data }, { on := 20, ground := Ground.data }, { on := 22, ground := Ground.data }, { on := 24, ground := Ground.data }, { on := 13, ground := Ground.chain }, { on := 13, ground := Ground.guard }], guard := some (13, false) }) (v := undef) rfl (by kernel_rfl) (by kernel_rfl) (by kernel_rfl) (fun _ _ _ h => h) (Or.inr ⟨by rfl, rfl⟩) hS ?rjb25
  go_simp
  refine wpAnyH_take (i := 26) (oi := { dst := some 35, op := Op.unOp UnOp.not 4 (Operand.tmp 34), type := 4, pos := "judge.go:27", after := #[{ on := 25, ground := Ground.data }, { on := 13, ground := Ground.guard }], guard := some (13, false) }) (v := undef) rfl (by kernel_rfl) (by kernel_rfl) (by kernel_rfl) (fun _ _ _ h => h) (Or.inr ⟨by rfl, rfl⟩) hS ?rjb26
  go_simp
  refine wpAnyH_take (i := 27) (oi := { dst := some 36, op := Op.pick (Operand.tmp 22) (Operand.const (Value.bool true)) (Operand.tmp 35), type := 4, pos := "judge.go:27", after := #[{ on := 13, ground := Ground.data }, { on := 26, ground := Ground.data }], guard := none }) (v := ?vjb27) rfl (by kernel_rfl) (by kernel_rfl) (by kernel_rfl) (fun _ _ _ h => h) (Or.inl ⟨by rfl, ?yjb27⟩) hS ?rjb27
  case yjb27 => (intro w hS; go_simp; try with_reducible rfl)
  refine wpAnyH_done (by kernel_rfl) ?_ _
  try dsimp only [Act.put]
  go_wp2
  go_ret
  exact ⟨rfl, hS.b⟩
set_option maxRecDepth 100000 in
set_option maxHeartbeats 4000000 in
theorem Judge_core (w : World) (k : Nat) (pt ky C Z kk : Int) (b o : Nat) (p q : Option Addr) (l lc n c m e : Nat) (r t : Bool) (X Y : Int) (hk : k < l) (hl : l ≤ 1000000000) (hc : w.cell? ⟨b, o + k, none⟩ = some (.int .i64 kk))
    (I1 : Hid (∀ W, Calls Tryz.prog 39 #[.int .i64 (k : Int), .int .i64 (l : Int)] W fun e w' => e = .returned (.bool true) ∧ Below W.heap.size W w')) (K1 : Hid (∀ W, Below w.heap.size w W → Calls Tryz.prog 25 #[.agg #[.slice p n c, .int .i64 pt, .slice q m e], .int .i64 (l : Int)] W fun e w' => e = .returned (.bool true) ∧ Below W.heap.size W w'))
    (V1 : Hid (∀ W, Below w.heap.size w W → Calls Tryz.prog 40 #[.int .i64 4, .int .i64 kk, .int .i64 pt, .int .i64 ky, .agg #[.int .i64 C, .int .i64 Z]] W fun e w' => e = .returned (.bool r) ∧ Below W.heap.size W w'))
    (T1 : Hid (r = true → ∀ W, Below w.heap.size w W → Calls Tryz.prog 41 #[.int .i64 ky, .agg #[.slice p n c, .int .i64 pt, .slice q m e], .int .i64 (k : Int)] W fun e w' => e = .returned (.tuple #[.agg #[.int .i64 X, .int .i64 Y], .bool t]) ∧ Below W.heap.size W w')) :
    Calls Tryz.prog 12 #[.slice (some ⟨b, o, none⟩) l lc, .agg #[.slice p n c, .int .i64 pt, .slice q m e], .agg #[.int .i64 (k : Int), .int .i64 ky, .int .i64 C, .int .i64 Z]] w fun e w' => e = .returned (.int .i64 (if r then (if t then 2 else 1) else 0)) ∧ Below w.heap.size w w' := by
  obtain ⟨W, hW⟩ : ∃ W, (w.alloc (.cells #[.slice p n c, .int .i64 pt, .slice q m e] 34)).alloc (.cells #[.int .i64 (k : Int), .int .i64 ky, .int .i64 C, .int .i64 Z] 28) = W := ⟨_, rfl⟩
  have K0 : CK w [(⟨w.heap.size, 0, none⟩, .slice p n c), (⟨w.heap.size, 1, none⟩, .int .i64 pt), (⟨w.heap.size, 2, none⟩, .slice q m e), (⟨w.heap.size + 1, 0, none⟩, .int .i64 (k : Int)), (⟨w.heap.size + 1, 1, none⟩, .int .i64 ky), (⟨w.heap.size + 1, 2, none⟩, .int .i64 C), (⟨w.heap.size + 1, 3, none⟩, .int .i64 Z), (⟨b, o + k, none⟩, .int .i64 kk)] [] W := by
    have := ((CK.start w).cells #[.slice p n c, .int .i64 pt, .slice q m e] 34 _ rfl).cells #[.int .i64 (k : Int), .int .i64 ky, .int .i64 C, .int .i64 Z] 28 _ rfl
    rw [hW, World.size_alloc] at this
    exact ⟨this.b, fun x hx => by
      simp only [List.mem_cons, List.not_mem_nil, or_false] at hx
      rcases hx with rfl | rfl | rfl | rfl | rfl | rfl | rfl | rfl
      · exact this.c _ (by simp)
      · exact this.c _ (by simp)
      · exact this.c _ (by simp)
      · exact this.c _ (by simp)
      · exact this.c _ (by simp)
      · exact this.c _ (by simp)
      · exact this.c _ (by simp)
      · exact (this.b.cell (p := ⟨b, o + k, none⟩) (World.block_lt_of_cell? _ _ hc)).trans hc, fun p hp => (by cases hp)⟩
  have HK := Lib.hid K0; clear K0
  go_enter Tryz.func12, Tryz.ntmps12
  go_upto_region 1 with fail
  clear hW
  refine wp_region_held_drew (S := CK w [(⟨w.heap.size, 0, none⟩, .slice p n c), (⟨w.heap.size, 1, none⟩, .int .i64 pt), (⟨w.heap.size, 2, none⟩, .slice q m e), (⟨w.heap.size + 1, 0, none⟩, .int .i64 (k : Int)), (⟨w.heap.size + 1, 1, none⟩, .int .i64 ky), (⟨w.heap.size + 1, 2, none⟩, .int .i64 C), (⟨w.heap.size + 1, 3, none⟩, .int .i64 Z), (⟨b, o + k, none⟩, .int .i64 kk)] []) (by kernel_rfl) HK.out.drew (fun hS => ?_)
  clear HK
  refine wpAnyH_take (i := 0) (oi := { dst := some 9, op := Op.fieldAddr 28 (Operand.tmp 5) 0, type := 0, pos := "judge.go:27", after := #[], guard := none }) (v := ?vjc0) rfl (by kernel_rfl) (by kernel_rfl) (by kernel_rfl) (fun _ _ _ h => h) (Or.inl ⟨by rfl, ?yjc0⟩) hS ?rjc0
  case yjc0 => (intro w hS; go_simp; try with_reducible rfl)
  refine wpAnyH_take (i := 2) (oi := { dst := some 11, op := Op.move (Operand.tmp 0), type := 22, pos := "judge.go:27", after := #[], guard := none }) (v := ?vjc2) rfl (by kernel_rfl) (by kernel_rfl) (by kernel_rfl) (fun _ _ _ h => h) (Or.inl ⟨by rfl, ?yjc2⟩) hS ?rjc2
  case yjc2 => (intro w hS; go_simp; try with_reducible rfl)
  go_simp
  refine wpAnyH_take (i := 1) (oi := { dst := some 10, op := Op.load 3 (Operand.tmp 9), type := 3, pos := "judge.go:27", after := #[{ on := 0, ground := Ground.data }], guard := none }) (v := .int .i64 (k : Int)) rfl (by kernel_rfl) (by kernel_rfl) (by kernel_rfl) (fun _ _ _ h => h) (Or.inl ⟨by rfl, ?yjc1⟩) hS ?rjc1
  case yjc1 => (intro w' hS; have cf := hS.get ⟨w.heap.size + 1, 0, none⟩ (.int .i64 (k : Int)) (by simp); go_simp; try with_reducible rfl)
  refine wpAnyH_take (i := 3) (oi := { dst := some 12, op := Op.call { callee := Callee.builtin Builtin.len, args := #[Operand.tmp 11], argTypes := #[22] }, type := 3, pos := "judge.go:27", after := #[{ on := 2, ground := Ground.data }], guard := none }) (v := ?vjc3) rfl (by kernel_rfl) (by kernel_rfl) (by kernel_rfl) (fun _ _ _ h => h) (Or.inl ⟨by rfl, ?yjc3⟩) hS ?rjc3
  case yjc3 => (intro w hS; go_simp; try with_reducible rfl)
  go_simp
  refine wpAnyH_ready (rs := [4]) (by kernel_rfl) (by simp) ?_
  refine AllReadyH.cons (o := { dst := some 13, op := Op.call { callee := Callee.value (Operand.func 39), args := #[Operand.tmp 10, Operand.tmp 12], argTypes := #[3, 3] }, type := 4, pos := "judge.go:27", after := #[{ on := 1, ground := Ground.data }, { on := 3, ground := Ground.data }], guard := none }) rfl (fun K hK => ?_) AllReadyH.nil
  go_simp
  go_at_call 39
  refine (I1.out _).mono ?_
  rintro e w' ⟨rfl, b⟩
  have hS2 := hS.next b
  clear b hS
  try go_simp
  refine hK.out _ _ hS2 (fun hS => ?_)
  clear hK K hS2
  refine wpAnyH_take (i := 5) (oi := { dst := some 14, op := Op.unOp UnOp.not 4 (Operand.tmp 13), type := 4, pos := "judge.go:27", after := #[{ on := 4, ground := Ground.data }], guard := none }) (v := ?vjc5) rfl (by kernel_rfl) (by kernel_rfl) (by kernel_rfl) (fun _ _ _ h => h) (Or.inl ⟨by rfl, ?yjc5⟩) hS ?rjc5
  case yjc5 => (intro w hS; go_simp; try with_reducible rfl)
  go_simp
  refine wpAnyH_take (i := 6) (oi := { dst := some 15, op := Op.move (Operand.tmp 14), type := 4, pos := "judge.go:27", after := #[{ on := 5, ground := Ground.data }, { on := 4, ground := Ground.chain }], guard := none }) (v := ?vjc6) rfl (by kernel_rfl) (by kernel_rfl) (by kernel_rfl) (fun _ _ _ h => h) (Or.inl ⟨by rfl, ?yjc6⟩) hS ?rjc6
  case yjc6 => (intro w hS; go_simp; try with_reducible rfl)
  go_simp
  refine wpAnyH_take (i := 7) (oi := { dst := some 16, op := Op.load 34 (Operand.tmp 4), type := 34, pos := "judge.go:27", after := #[{ on := 6, ground := Ground.guard }], guard := some (6, false) }) (v := .agg #[.slice p n c, .int .i64 pt, .slice q m e]) rfl (by kernel_rfl) (by kernel_rfl) (by kernel_rfl) (fun _ _ _ h => h) (Or.inl ⟨by rfl, ?yjc7⟩) hS ?rjc7
  case yjc7 => (intro w' hS; have cf := (show w'.cell? ⟨w.heap.size, 0, none⟩ = some (.slice p n c) ∧ w'.cell? ⟨w.heap.size, 1, none⟩ = some (.int .i64 pt) ∧ w'.cell? ⟨w.heap.size, 2, none⟩ = some (.slice q m e) from ⟨hS.get _ _ (by simp), hS.get _ _ (by simp), hS.get _ _ (by simp)⟩); go_simp; try with_reducible rfl)
  refine wpAnyH_take (i := 8) (oi := { dst := some 17, op := Op.move (Operand.tmp 0), type := 22, pos := "judge.go:27", after := #[{ on := 6, ground := Ground.guard }], guard := some (6, false) }) (v := ?vjc8) rfl (by kernel_rfl) (by kernel_rfl) (by kernel_rfl) (fun _ _ _ h => h) (Or.inl ⟨by rfl, ?yjc8⟩) hS ?rjc8
  case yjc8 => (intro w hS; go_simp; try with_reducible rfl)
  go_simp
  refine wpAnyH_take (i := 9) (oi := { dst := some 18, op := Op.call { callee := Callee.builtin Builtin.len, args := #[Operand.tmp 17], argTypes := #[22] }, type := 3, pos := "judge.go:27", after := #[{ on := 8, ground := Ground.data }, { on := 6, ground := Ground.guard }], guard := some (6, false) }) (v := ?vjc9) rfl (by kernel_rfl) (by kernel_rfl) (by kernel_rfl) (fun _ _ _ h => h) (Or.inl ⟨by rfl, ?yjc9⟩) hS ?rjc9
  case yjc9 => (intro w hS; go_simp; try with_reducible rfl)
  go_simp
  refine wpAnyH_ready (rs := [10]) (by kernel_rfl) (by simp) ?_
  refine AllReadyH.cons (o := { dst := some 19, op := Op.call { callee := Callee.value (Operand.func 25), args := #[Operand.tmp 16, Operand.tmp 18], argTypes := #[34, 3] }, type := 4, pos := "judge.go:27", after := #[{ on := 7, ground := Ground.data }, { on := 9, ground := Ground.data }, { on := 6, ground := Ground.chain }, { on := 6, ground := Ground.guard }], guard := some (6, false) }) rfl (fun K hK => ?_) AllReadyH.nil
  go_simp
  go_at_call 25
  refine (K1.out _ hS.b).mono ?_
  rintro e w' ⟨rfl, b⟩
  have hS2 := hS.next b
  clear b hS
  try go_simp
  refine hK.out _ _ hS2 (fun hS => ?_)
  clear hK K hS2
  refine wpAnyH_take (i := 11) (oi := { dst := some 20, op := Op.unOp UnOp.not 4 (Operand.tmp 19), type := 4, pos := "judge.go:27", after := #[{ on := 10, ground := Ground.data }, { on := 6, ground := Ground.guard }], guard := some (6, false) }) (v := ?vjc11) rfl (by kernel_rfl) (by kernel_rfl) (by kernel_rfl) (fun _ _ _ h => h) (Or.inl ⟨by rfl, ?yjc11⟩) hS ?rjc11
  case yjc11 => (intro w hS; go_simp; try with_reducible rfl)
  go_simp
  refine wpAnyH_take (i := 12) (oi := { dst := some 21, op := Op.pick (Operand.tmp 15) (Operand.const (Value.bool true)) (Operand.tmp 20), type := 4, pos := "judge.go:27", after := #[{ on := 6, ground := Ground.data }, { on := 11, ground := Ground.data }], guard := none }) (v := ?vjc12) rfl (by kernel_rfl) (by kernel_rfl) (by kernel_rfl) (fun _ _ _ h => h) (Or.inl ⟨by rfl, ?yjc12⟩) hS ?rjc12
  case yjc12 => (intro w hS; go_simp; try with_reducible rfl)
  go_simp
  refine wpAnyH_take (i := 13) (oi := { dst := some 22, op := Op.move (Operand.tmp 21), type := 4, pos := "judge.go:27", after := #[{ on := 12, ground := Ground.data }, { on := 10, ground := Ground.chain }], guard := none }) (v := ?vjc13) rfl (by kernel_rfl) (by kernel_rfl) (by kernel_rfl) (fun _ _ _ h => h) (Or.inl ⟨by rfl, ?yjc13⟩) hS ?rjc13
  case yjc13 => (intro w hS; go_simp; try with_reducible rfl)
  go_simp
  refine wpAnyH_take (i := 14) (oi := { dst := some 23, op := Op.move (Operand.tmp 0), type := 22, pos := "judge.go:27", after := #[{ on := 13, ground := Ground.guard }], guard := some (13, false) }) (v := ?vjc14) rfl (by kernel_rfl) (by kernel_rfl) (by kernel_rfl) (fun _ _ _ h => h) (Or.inl ⟨by rfl, ?yjc14⟩) hS ?rjc14
  case yjc14 => (intro w hS; go_simp; try with_reducible rfl)
  refine wpAnyH_take (i := 15) (oi := { dst := some 24, op := Op.fieldAddr 28 (Operand.tmp 5) 0, type := 0, pos := "judge.go:27", after := #[{ on := 13, ground := Ground.guard }], guard := some (13, false) }) (v := ?vjc15) rfl (by kernel_rfl) (by kernel_rfl) (by kernel_rfl) (fun _ _ _ h => h) (Or.inl ⟨by rfl, ?yjc15⟩) hS ?rjc15
  case yjc15 => (intro w hS; go_simp; try with_reducible rfl)
  refine wpAnyH_take (i := 19) (oi := { dst := some 28, op := Op.fieldAddr 34 (Operand.tmp 4) 1, type := 0, pos := "judge.go:27", after := #[{ on := 13, ground := Ground.guard }], guard := some (13, false) }) (v := ?vjc19) rfl (by kernel_rfl) (by kernel_rfl) (by kernel_rfl) (fun _ _ _ h => h) (Or.inl ⟨by rfl, ?yjc19⟩) hS ?rjc19
  case yjc19 => (intro w hS; go_simp; try with_reducible rfl)
  refine wpAnyH_take (i := 21) (oi := { dst := some 30, op := Op.fieldAddr 28 (Operand.tmp 5) 1, type := 0, pos := "judge.go:27", after := #[{ on := 13, ground := Ground.guard }], guard := some (13, false) }) (v := ?vjc21) rfl (by kernel_rfl) (by kernel_rfl) (by kernel_rfl) (fun _ _ _ h => h) (Or.inl ⟨by rfl, ?yjc21⟩) hS ?rjc21
  case yjc21 => (intro w hS; go_simp; try with_reducible rfl)
  refine wpAnyH_take (i := 23) (oi := { dst := some 32, op := Op.fieldAddr 28 (Operand.tmp 5) 2, type := 0, pos := "judge.go:27", after := #[{ on := 13, ground := Ground.guard }], guard := some (13, false) }) (v := ?vjc23) rfl (by kernel_rfl) (by kernel_rfl) (by kernel_rfl) (fun _ _ _ h => h) (Or.inl ⟨by rfl, ?yjc23⟩) hS ?rjc23
  case yjc23 => (intro w hS; go_simp; try with_reducible rfl)
  go_simp
  refine wpAnyH_take (i := 16) (oi := { dst := some 25, op := Op.load 3 (Operand.tmp 24), type := 3, pos := "judge.go:27", after := #[{ on := 15, ground := Ground.data }, { on := 13, ground := Ground.guard }], guard := some (13, false) }) (v := .int .i64 (k : Int)) rfl (by kernel_rfl) (by kernel_rfl) (by kernel_rfl) (fun _ _ _ h => h) (Or.inl ⟨by rfl, ?yjc16⟩) hS ?rjc16
  case yjc16 => (intro w' hS; have cf := hS.get ⟨w.heap.size + 1, 0, none⟩ (.int .i64 (k : Int)) (by simp); go_simp; try with_reducible rfl)
  refine wpAnyH_take (i := 20) (oi := { dst := some 29, op := Op.load 3 (Operand.tmp 28), type := 3, pos := "judge.go:27", after := #[{ on := 19, ground := Ground.data }, { on := 13, ground := Ground.guard }], guard := some (13, false) }) (v := .int .i64 pt) rfl (by kernel_rfl) (by kernel_rfl) (by kernel_rfl) (fun _ _ _ h => h) (Or.inl ⟨by rfl, ?yjc20⟩) hS ?rjc20
  case yjc20 => (intro w' hS; have cf := hS.get ⟨w.heap.size, 1, none⟩ (.int .i64 pt) (by simp); go_simp; try with_reducible rfl)
  refine wpAnyH_take (i := 22) (oi := { dst := some 31, op := Op.load 3 (Operand.tmp 30), type := 3, pos := "judge.go:27", after := #[{ on := 21, ground := Ground.data }, { on := 13, ground := Ground.guard }], guard := some (13, false) }) (v := .int .i64 ky) rfl (by kernel_rfl) (by kernel_rfl) (by kernel_rfl) (fun _ _ _ h => h) (Or.inl ⟨by rfl, ?yjc22⟩) hS ?rjc22
  case yjc22 => (intro w' hS; have cf := hS.get ⟨w.heap.size + 1, 1, none⟩ (.int .i64 ky) (by simp); go_simp; try with_reducible rfl)
  refine wpAnyH_take (i := 24) (oi := { dst := some 33, op := Op.load 26 (Operand.tmp 32), type := 26, pos := "judge.go:27", after := #[{ on := 23, ground := Ground.data }, { on := 13, ground := Ground.guard }], guard := some (13, false) }) (v := .agg #[.int .i64 C, .int .i64 Z]) rfl (by kernel_rfl) (by kernel_rfl) (by kernel_rfl) (fun _ _ _ h => h) (Or.inl ⟨by rfl, ?yjc24⟩) hS ?rjc24
  case yjc24 => (intro w' hS; have cf := (show w'.cell? ⟨w.heap.size + 1, 2, none⟩ = some (.int .i64 C) ∧ w'.cell? ⟨w.heap.size + 1, 3, none⟩ = some (.int .i64 Z) from ⟨hS.get _ _ (by simp), hS.get _ _ (by simp)⟩); go_simp; try with_reducible rfl)
  go_simp
  refine wpAnyH_take (i := 17) (oi := { dst := some 26, op := Op.indexAddr 22 (Operand.tmp 23) (Operand.tmp 25), type := 0, pos := "judge.go:27", after := #[{ on := 14, ground := Ground.data }, { on := 16, ground := Ground.data }, { on := 13, ground := Ground.guard }], guard := some (13, false) }) (v := ?vjc17) rfl (by kernel_rfl) (by kernel_rfl) (by kernel_rfl) (fun _ _ _ h => h) (Or.inl ⟨by rfl, ?yjc17⟩) hS ?rjc17
  case yjc17 => (intro w hS; go_simp; try with_reducible rfl)
  go_simp
  refine wpAnyH_take (i := 18) (oi := { dst := some 27, op := Op.load 3 (Operand.tmp 26), type := 3, pos := "judge.go:27", after := #[{ on := 17, ground := Ground.data }, { on := 13, ground := Ground.guard }], guard := some (13, false) }) (v := .int .i64 kk) rfl (by kernel_rfl) (by kernel_rfl) (by kernel_rfl) (fun _ _ _ h => h) (Or.inl ⟨by rfl, ?yjc18⟩) hS ?rjc18
  case yjc18 => (intro w' hS; have cf := hS.get ⟨b, o + k, none⟩ (.int .i64 kk) (by simp); go_simp; try with_reducible rfl)
  go_simp
  refine wpAnyH_ready (rs := [25]) (by kernel_rfl) (by simp) ?_
  refine AllReadyH.cons (o := { dst := some 34, op := Op.call { callee := Callee.value (Operand.func 40), args := #[Operand.const (Value.int IntKind.i64 4), Operand.tmp 27, Operand.tmp 29, Operand.tmp 31, Operand.tmp 33], argTypes := #[3, 3, 3, 3, 26] }, type := 4, pos := "judge.go:27", after := #[{ on := 18, ground := Ground.data }, { on := 20, ground := Ground.data }, { on := 22, ground := Ground.data }, { on := 24, ground := Ground.data }, { on := 13, ground := Ground.chain }, { on := 13, ground := Ground.guard }], guard := some (13, false) }) rfl (fun K hK => ?_) AllReadyH.nil
  go_simp
  go_at_call 40
  refine (V1.out _ hS.b).mono ?_
  rintro e w' ⟨rfl, b⟩
  have hS2 := hS.next b
  clear b hS
  try go_simp
  refine hK.out _ _ hS2 (fun hS => ?_)
  clear hK K hS2
  refine wpAnyH_take (i := 26) (oi := { dst := some 35, op := Op.unOp UnOp.not 4 (Operand.tmp 34), type := 4, pos := "judge.go:27", after := #[{ on := 25, ground := Ground.data }, { on := 13, ground := Ground.guard }], guard := some (13, false) }) (v := ?vjc26) rfl (by kernel_rfl) (by kernel_rfl) (by kernel_rfl) (fun _ _ _ h => h) (Or.inl ⟨by rfl, ?yjc26⟩) hS ?rjc26
  case yjc26 => (intro w hS; go_simp; try with_reducible rfl)
  go_simp
  refine wpAnyH_take (i := 27) (oi := { dst := some 36, op := Op.pick (Operand.tmp 22) (Operand.const (Value.bool true)) (Operand.tmp 35), type := 4, pos := "judge.go:27", after := #[{ on := 13, ground := Ground.data }, { on := 26, ground := Ground.data }], guard := none }) (v := ?vjc27) rfl (by kernel_rfl) (by kernel_rfl) (by kernel_rfl) (fun _ _ _ h => h) (Or.inl ⟨by rfl, ?yjc27⟩) hS ?rjc27
  case yjc27 => (intro w hS; go_simp; try with_reducible rfl)
  refine wpAnyH_done (by kernel_rfl) ?_ _
  try dsimp only [Act.put]
  have HS := Lib.hid hS; clear hS
  cases r with
  | false =>
    go_wp2
    go_ret
    exact ⟨rfl, HS.out.b⟩
  | true =>
    have c0 := HS.out.get ⟨w.heap.size, 0, none⟩ (.slice p n c) (by simp)
    have c1 := HS.out.get ⟨w.heap.size, 1, none⟩ (.int .i64 pt) (by simp)
    have c2 := HS.out.get ⟨w.heap.size, 2, none⟩ (.slice q m e) (by simp)
    have e0 := HS.out.get ⟨w.heap.size + 1, 0, none⟩ (.int .i64 (k : Int)) (by simp)
    have e1 := HS.out.get ⟨w.heap.size + 1, 1, none⟩ (.int .i64 ky) (by simp)
    go_wp2_with fail
    refine (T1.out trivial _ HS.out.b).mono ?_
    rintro e w5 ⟨rfl, b5⟩
    have H5 := Lib.hid ((HS.out.b.trans (b5.mono HS.out.b.size)).alloc (by have := HS.out.b.size; have := b5.size; omega) (.cells #[.int .i64 X, .int .i64 Y] 55)); clear b5 c0 c1 c2 e0 e1
    cases t with
    | false =>
      go_wp2
      go_ret
      exact ⟨rfl, H5.out⟩
    | true =>
      go_wp2
      go_ret
      exact ⟨rfl, H5.out⟩
end Go.Proofs.YtjfbpmpdcmealaaGreatDoor.D7
