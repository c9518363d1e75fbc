/-
  The walks of deal.take and deal.Open, in words.
-/
import Derived.Test.YtjfbpmpdcmealaaGreatDoorDTake
namespace Go.Proofs.YtjfbpmpdcmealaaGreatDoor.D7
open Go.RowKit GM SH G4 E6 D7P
theorem tk_two (a b : Bool) (x y : Int) : (if a && b then (if a then x else 0) else 0) = if a && b then x else (0 : Int) := by cases a <;> simp
theorem wrap_i (x : Int) : i64 (wrap64 x) := ⟨by unfold wrap64; omega, by unfold wrap64; omega⟩
theorem ct_i64 (a b : List UInt8) : i64 (ct a b) := wrap_i _
theorem k_i64 (k m : Nat) (h : k < m) (hm : m ≤ 1000000000) : i64 ((k : Int) + 1) := ⟨by omega, by omega⟩
theorem take_pad (w : World) (N : Int) (k : Nat) (P : List UInt8) (hP : P.length = 16) (pt : Int) (p q : Option Addr) (n c m e : Nat) (C : List Int) (BL : List ByteArray) (s : ByteArray) (hs : BL[k]? = some s) (hV : SL w (.slice p n c) C) (hB : ZL w (.slice q m e) BL) (hr : ∀ y ∈ C, i64 y) (hln : C.length ≤ 1000000000) (hm : m ≤ 1000000000)
    (P1 : Hid (∀ W, Below w.heap.size w W → Calls Tryz.prog 37 #[.int .i64 N, .int .i64 (k : Int)] W fun e w' => e = .returned (.agg (hcells P)) ∧ Below W.heap.size W w')) :
    Calls Tryz.prog 41 #[.int .i64 N, .agg #[.slice p n c, .int .i64 pt, .slice q m e], .int .i64 (k : Int)] w fun e w' => e = .returned (.tuple #[.agg #[.int .i64 (if fit s.data.toList P && fits (ct s.data.toList P) C ((k : Int) + 1) then (k : Int) + 1 else 0), .int .i64 (if fit s.data.toList P && fits (ct s.data.toList P) C ((k : Int) + 1) then ct s.data.toList P else 0)], .bool (fit s.data.toList P && fits (ct s.data.toList P) C ((k : Int) + 1))]) ∧ Below w.heap.size w w' := by
  obtain ⟨q', e', h1, h2⟩ := hB.form
  obtain ⟨b, o, h3, h4⟩ := h2 k s hs
  injection h1 with h5 h6 h7
  subst h5 h6 h7 h3
  have hk : k < BL.length := (List.getElem?_eq_some_iff.1 hs).1
  have hyi := ct_i64 s.data.toList P
  have hki := k_i64 k _ hk hm
  by_cases hz : s.size = 16
  · have O0 := fun W => open_any W P s hP hz (s.data.toList.drop 8 == P.drop 8) rfl
    have ef : fit s.data.toList P = (s.data.toList.drop 8 == P.drop 8) := by
      unfold fit; rw [show s.data.toList.length = 16 from hz]; rfl
    rw [ef]
    generalize ct s.data.toList P = Y at *
    cases hf : (s.data.toList.drop 8 == P.drop 8) with
    | false =>
      have O1 := fun W => O0 W
      rw [hf] at O1
      simp only [if_true, Bool.false_eq_true, if_false] at O1
      have Z := take_core w N k pt 0 p b o n c BL.length e s _ (hcells P) rfl false (fits 0 C ((k : Int) + 1)) hk hm h4 P1 (Lib.hid O1) (Lib.hid fun W hb => fits_any W ((k : Int) + 1) _ pt p _ n c _ e C _ rfl (hV.below hb) hr hki (by decide) hln)
      generalize fits 0 C ((k : Int) + 1) = f0 at Z
      generalize fits Y C ((k : Int) + 1) = f1
      simp only [Bool.false_and, Bool.false_eq_true, if_false] at Z ⊢
      exact Z
    | true =>
      have O1 := fun W => O0 W
      rw [hf] at O1
      simp only [if_true, Bool.false_eq_true, if_false] at O1
      have Z := take_core w N k pt Y p b o n c BL.length e s _ (hcells P) rfl true (fits Y C ((k : Int) + 1)) hk hm h4 P1 (Lib.hid O1) (Lib.hid fun W hb => fits_any W ((k : Int) + 1) _ pt p _ n c _ e C _ rfl (hV.below hb) hr hki hyi hln)
      generalize fits Y C ((k : Int) + 1) = f1 at Z ⊢
      simp only [Bool.true_and] at Z ⊢
      exact Z
  · have O1 := fun W => open_len W P s hz
    have ef : fit s.data.toList P = false := by
      unfold fit; rw [show (s.data.toList.length == 16) = false by simp; exact hz]; rfl
    rw [ef]
    have Z := take_core w N k pt 0 p b o n c BL.length e s _ (hcells P) rfl false (fits 0 C ((k : Int) + 1)) hk hm h4 P1 (Lib.hid O1) (Lib.hid fun W hb => fits_any W ((k : Int) + 1) _ pt p _ n c _ e C _ rfl (hV.below hb) hr hki (by decide) hln)
    generalize fits 0 C ((k : Int) + 1) = f0 at Z
    generalize fits (ct s.data.toList P) C ((k : Int) + 1) = f1
    simp only [Bool.false_and, Bool.false_eq_true, if_false] at Z ⊢
    exact Z
theorem take_any (w : World) (N : Int) (k : Nat) (pt : Int) (p q : Option Addr) (n c m e : Nat) (C : List Int) (BL : List ByteArray) (s : ByteArray) (hs : BL[k]? = some s) (hV : SL w (.slice p n c) C) (hB : ZL w (.slice q m e) BL) (hr : ∀ y ∈ C, i64 y) (hln : C.length ≤ 1000000000) (hm : m ≤ 1000000000) (hN : i64 N) (hT : TS w) (r : Bool) (h : tk N (k : Int) s.data.toList C = r) :
    Calls Tryz.prog 41 #[.int .i64 N, .agg #[.slice p n c, .int .i64 pt, .slice q m e], .int .i64 (k : Int)] w fun e w' => e = .returned (.tuple #[.agg #[.int .i64 (if r then (k : Int) + 1 else 0), .int .i64 (if r then ct s.data.toList (pd N k) else 0)], .bool r]) ∧ Below w.heap.size w w' := by
  have hk : k < m := by
    obtain ⟨q', e', h1, _⟩ := hB.form
    injection h1 with _ h6 _
    rw [h6]; exact (List.getElem?_eq_some_iff.1 hs).1
  have hki : i64 (k : Int) := ⟨by omega, by omega⟩
  have P1 := Lib.hid fun W (hb : Below w.heap.size w W) => pad_any W N k hN hki (hT.below hb)
  have hl := pd_len N (k : Int)
  unfold tk at h
  generalize pd N (k : Int) = P at *
  subst h
  exact take_pad w N k P hl pt p q n c m e C BL s hs hV hB hr hln hm P1
set_option maxRecDepth 100000 in
set_option maxHeartbeats 4000000 in
theorem Open_core (w : World) (sec i pt N x y : Int) (p q : Option Addr) (n c m e : Nat) (r : Bool) (hi : (decide (0 ≤ i) && decide (i < (m : Int))) = true)
    (S1 : Hid (∀ W, Calls Tryz.prog 42 #[.int .i64 sec, .agg #[.slice p n c, .int .i64 pt, .slice q m e]] W fun e w' => e = .returned (.int .i64 N) ∧ Below W.heap.size W w'))
    (T1 : Hid (∀ W, Below w.heap.size w W → Calls Tryz.prog 41 #[.int .i64 N, .agg #[.slice p n c, .int .i64 pt, .slice q m e], .int .i64 i] W fun e w' => e = .returned (.tuple #[.agg #[.int .i64 x, .int .i64 y], .bool r]) ∧ Below W.heap.size W w')) :
    Calls Tryz.prog 26 #[.int .i64 sec, .agg #[.slice p n c, .int .i64 pt, .slice q m e], .int .i64 i] w fun e w' => e = .returned (.tuple #[.agg #[.int .i64 x, .int .i64 y], .bool r]) ∧ Below w.heap.size w w' := by
  obtain ⟨W, hW⟩ : ∃ W, (w.alloc (.cells #[.slice p n c, .int .i64 pt, .slice q m e] 34)).alloc (.cells #[.int .i64 0, .int .i64 0] 55) = W := ⟨_, rfl⟩
  have K0 : CK w [(⟨w.heap.size, 0, none⟩, .slice p n c), (⟨w.heap.size, 1, none⟩, .int .i64 pt), (⟨w.heap.size, 2, none⟩, .slice q m e)] [(w.heap.size + 1, 2, 55)] W := by
    have := ((CK.start w).cells #[.slice p n c, .int .i64 pt, .slice q m e] 34 _ rfl).new #[.int .i64 0, .int .i64 0] 55
    rw [hW, World.size_alloc] at this
    exact this.sub (by simp) (by simp)
  have c2 := K0.get ⟨w.heap.size, 2, none⟩ (.slice q m e) (by simp)
  have HK := Lib.hid K0
  have I1 := Lib.hid fun W => within_c W i m true hi
  clear hi K0
  go_enter Tryz.func26, Tryz.ntmps26
  go_upto_region 1 with fail
  clear hW
  go_wp2_with fail
  refine (I1.out _).mono ?_
  rintro e w1 ⟨rfl, rfl⟩
  clear c2
  go_upto_region 3 with fail
  refine wp_region_held_drew (S := CK w [(⟨w.heap.size, 0, none⟩, .slice p n c), (⟨w.heap.size, 1, none⟩, .int .i64 pt), (⟨w.heap.size, 2, none⟩, .slice q m e)] [(w.heap.size + 1, 2, 55)]) (by kernel_rfl) HK.out.drew (fun hS => ?_)
  clear HK
  refine wpAnyH_take (i := 0) (oi := { dst := some 15, op := Op.move (Operand.tmp 0), type := 3, pos := "judge.go:14", after := #[], guard := none }) (v := ?vop0) rfl (by kernel_rfl) (by kernel_rfl) (by kernel_rfl) (fun _ _ _ h => h) (Or.inl ⟨by rfl, ?yop0⟩) hS ?rop0
  case yop0 => (intro w hS; go_simp; try with_reducible rfl)
  refine wpAnyH_take (i := 1) (oi := { dst := some 16, op := Op.load 34 (Operand.tmp 4), type := 34, pos := "judge.go:14", after := #[], guard := none }) (v := .agg #[.slice p n c, .int .i64 pt, .slice q m e]) rfl (by kernel_rfl) (by kernel_rfl) (by kernel_rfl) (fun _ _ _ h => h) (Or.inl ⟨by rfl, ?yop1⟩) hS ?rop1
  case yop1 => (intro w' hS; have cf := (show w'.cell? ⟨w.heap.size, 0, none⟩ = some (.slice p n c) ∧ w'.cell? ⟨w.heap.size, 1, none⟩ = some (.int .i64 pt) ∧ w'.cell? ⟨w.heap.size, 2, none⟩ = some (.slice q m e) from ⟨hS.get _ _ (by simp), hS.get _ _ (by simp), hS.get _ _ (by simp)⟩); go_simp; try with_reducible rfl)
  refine wpAnyH_take (i := 3) (oi := { dst := some 18, op := Op.load 34 (Operand.tmp 4), type := 34, pos := "judge.go:14", after := #[], guard := none }) (v := .agg #[.slice p n c, .int .i64 pt, .slice q m e]) rfl (by kernel_rfl) (by kernel_rfl) (by kernel_rfl) (fun _ _ _ h => h) (Or.inl ⟨by rfl, ?yop3⟩) hS ?rop3
  case yop3 => (intro w' hS; have cf := (show w'.cell? ⟨w.heap.size, 0, none⟩ = some (.slice p n c) ∧ w'.cell? ⟨w.heap.size, 1, none⟩ = some (.int .i64 pt) ∧ w'.cell? ⟨w.heap.size, 2, none⟩ = some (.slice q m e) from ⟨hS.get _ _ (by simp), hS.get _ _ (by simp), hS.get _ _ (by simp)⟩); go_simp; try with_reducible rfl)
  refine wpAnyH_take (i := 4) (oi := { dst := some 19, op := Op.move (Operand.tmp 2), type := 3, pos := "judge.go:14", after := #[], guard := none }) (v := ?vop4) rfl (by kernel_rfl) (by kernel_rfl) (by kernel_rfl) (fun _ _ _ h => h) (Or.inl ⟨by rfl, ?yop4⟩) hS ?rop4
  case yop4 => (intro w hS; go_simp; try with_reducible rfl)
  go_simp
  refine wpAnyH_ready (rs := [2]) (by kernel_rfl) (by simp) ?_
  refine AllReadyH.cons (o := { dst := some 17, op := Op.call { callee := Callee.value (Operand.func 42), args := #[Operand.tmp 15, Operand.tmp 16], argTypes := #[3, 34] }, type := 3, pos := "judge.go:14", after := #[{ on := 0, ground := Ground.data }, { on := 1, ground := Ground.data }], guard := none }) rfl (fun K hK => ?_) AllReadyH.nil
  go_simp
  go_at_call 42
  refine (S1.out _).mono ?_
  rintro e w' ⟨rfl, b⟩
  have hS2 := hS.next b
  clear b hS
  try go_simp
  refine hK.out _ _ hS2 (fun hS => ?_)
  clear hK K hS2
  refine wpAnyH_ready (rs := [5]) (by kernel_rfl) (by simp) ?_
  refine AllReadyH.cons (o := { dst := some 20, op := Op.call { callee := Callee.value (Operand.func 41), args := #[Operand.tmp 17, Operand.tmp 18, Operand.tmp 19], argTypes := #[3, 34, 3] }, type := 56, pos := "judge.go:14", after := #[{ on := 2, ground := Ground.data }, { on := 3, ground := Ground.data }, { on := 4, ground := Ground.data }, { on := 2, ground := Ground.chain }], guard := none }) rfl (fun K hK => ?_) AllReadyH.nil
  go_simp
  go_at_call 41
  refine (T1.out _ hS.b).mono ?_
  rintro e w' ⟨rfl, b⟩
  have hS2 := hS.next b
  clear b hS
  try go_simp
  refine hK.out _ _ hS2 (fun hS => ?_)
  clear hK K hS2
  refine wpAnyH_take (i := 6) (oi := { dst := some 21, op := Op.extract (Operand.tmp 20) 0, type := 55, pos := "judge.go:14", after := #[{ on := 5, ground := Ground.data }], guard := none }) (v := ?vop6) rfl (by kernel_rfl) (by kernel_rfl) (by kernel_rfl) (fun _ _ _ h => h) (Or.inl ⟨by rfl, ?yop6⟩) hS ?rop6
  case yop6 => (intro w hS; go_simp; try with_reducible rfl)
  refine wpAnyH_take (i := 7) (oi := { dst := some 22, op := Op.extract (Operand.tmp 20) 1, type := 4, pos := "judge.go:14", after := #[{ on := 5, ground := Ground.data }], guard := none }) (v := ?vop7) rfl (by kernel_rfl) (by kernel_rfl) (by kernel_rfl) (fun _ _ _ h => h) (Or.inl ⟨by rfl, ?yop7⟩) hS ?rop7
  case yop7 => (intro w hS; go_simp; try with_reducible rfl)
  go_simp
  obtain ⟨rs, hrs, hrow⟩ := hS.row (w.heap.size + 1) 2 55 (by simp)
  refine wpAnyH_ready (rs := [8]) (by kernel_rfl) (by simp) ?_
  refine AllReadyH.cons (o := { dst := none, op := Op.store 55 (Operand.tmp 6) (Operand.tmp 21), type := 0, pos := "judge.go:14", after := #[{ on := 6, ground := Ground.data }, { on := 5, ground := Ground.chain }, { on := 0, ground := Ground.phase }, { on := 1, ground := Ground.phase }, { on := 2, ground := Ground.phase }, { on := 3, ground := Ground.phase }, { on := 4, ground := Ground.phase }, { on := 5, ground := Ground.phase }, { on := 6, ground := Ground.phase }, { on := 7, ground := Ground.phase }], guard := none }) rfl (fun K hK => ?_) AllReadyH.nil
  rw [if_pos (by rfl)]
  refine wp_store_row 55 (.tmp 6) (.tmp 21) rfl (w.heap.size + 1) (#[.int .i64 x, .int .i64 y]) (by first | rfl | (simp [Act.eval])) (by first | rfl | (simp [Act.eval])) 55 rs hrow (infoS x y).out (two_sz _ _ hrs) (sh_one _ _) ?_
  have hS2 := hS.store (w.heap.size + 1) 2 55 (by simp) (#[.int .i64 x, .int .i64 y]) rfl (by simp [Addr.block]) (by simp)
  have hrow2 := setRow_heap _ _ _ (#[.int .i64 x, .int .i64 y]) _ _ hrow
  clear hS hrow
  refine hK.out _ _ hS2 (fun hS => ?_)
  clear hK K hS2
  refine wpAnyH_take (i := 9) (oi := { dst := some 7, op := Op.assign (Operand.tmp 22), type := 4, pos := "judge.go:14", after := #[{ on := 7, ground := Ground.data }, { on := 8, ground := Ground.chain }, { on := 0, ground := Ground.phase }, { on := 1, ground := Ground.phase }, { on := 2, ground := Ground.phase }, { on := 3, ground := Ground.phase }, { on := 4, ground := Ground.phase }, { on := 5, ground := Ground.phase }, { on := 6, ground := Ground.phase }, { on := 7, ground := Ground.phase }, { on := 8, ground := Ground.phase }], guard := none }) (v := ?vop9) rfl (by kernel_rfl) (by kernel_rfl) (by kernel_rfl) (fun _ _ _ h => h) (Or.inl ⟨by rfl, ?yop9⟩) hS ?rop9
  case yop9 => (intro w hS; go_simp; try with_reducible rfl)
  refine wpAnyH_done (by kernel_rfl) ?_ _
  have HS := Lib.hid hS; clear hS
  have h0 := infoS x y
  try dsimp only [Act.put]
  go_wp2
  refine bodyPost_ret (results_row_tmp rfl _ _ (w.heap.size + 1) _ #[.int .i64 x, .int .i64 y] _ _ rfl hrow2 Tryz.underlying55 rfl h0.out) rfl ?_
  exact ⟨rfl, HS.out.b⟩
set_option maxRecDepth 100000 in
set_option maxHeartbeats 4000000 in
theorem Open_out (w : World) (sec i pt : Int) (p q : Option Addr) (n c m e : Nat) (hi : (decide (0 ≤ i) && decide (i < (m : Int))) = false) :
    Calls Tryz.prog 26 #[.int .i64 sec, .agg #[.slice p n c, .int .i64 pt, .slice q m e], .int .i64 i] w fun e w' => e = .returned (.tuple #[.agg #[.int .i64 0, .int .i64 0], .bool false]) ∧ Below w.heap.size w w' := by
  obtain ⟨W, hW⟩ : ∃ W, (w.alloc (.cells #[.slice p n c, .int .i64 pt, .slice q m e] 34)).alloc (.cells #[.int .i64 0, .int .i64 0] 55) = W := ⟨_, rfl⟩
  have K0 : CK w [(⟨w.heap.size, 0, none⟩, .slice p n c), (⟨w.heap.size, 1, none⟩, .int .i64 pt), (⟨w.heap.size, 2, none⟩, .slice q m e)] [(w.heap.size + 1, 2, 55)] W := by
    have := ((CK.start w).cells #[.slice p n c, .int .i64 pt, .slice q m e] 34 _ rfl).new #[.int .i64 0, .int .i64 0] 55
    rw [hW, World.size_alloc] at this
    exact this.sub (by simp) (by simp)
  have c2 := K0.get ⟨w.heap.size, 2, none⟩ (.slice q m e) (by simp)
  obtain ⟨rs, hrs, hrow⟩ := K0.row (w.heap.size + 1) 2 55 (by simp)
  have HK := Lib.hid (And.intro K0.b hrs)
  have I1 := Lib.hid fun W => within_c W i m false hi
  have h0 := infoS 0 0
  clear hi K0 hrs
  go_enter Tryz.func26, Tryz.ntmps26
  go_upto_region 1 with fail
  clear hW
  go_wp2_with fail
  refine (I1.out _).mono ?_
  rintro e w1 ⟨rfl, rfl⟩
  clear c2
  go_wp2_with (refine wpList_store_row rfl 55 (.tmp 6) (.tmp 14) rfl (w.heap.size + 1) #[.int .i64 0, .int .i64 0] rfl rfl 55 rs hrow h0.out (two_sz _ _ HK.out.2) (sh_one _ _) ?_)
  refine bodyPost_ret (results_row_tmp rfl _ _ (w.heap.size + 1) _ #[.int .i64 0, .int .i64 0] _ _ rfl (setRow_heap _ _ _ _ _ _ hrow) Tryz.underlying55 rfl h0.out) rfl ?_
  exact ⟨rfl, Below.setRow' HK.out.1 (by omega) _⟩
/-- what Open gives -/
def opn (sec pt i : Int) (C : List Int) (BL : List ByteArray) : Bool := match (if 0 ≤ i then BL[i.toNat]? else none) with
  | none => false
  | some s => tk (pp pt (ex sec)) i s.data.toList C
theorem Open_any (w : World) (sec pt : Int) (k : Nat) (p q : Option Addr) (n c m e : Nat) (C : List Int) (BL : List ByteArray) (s : ByteArray) (hs : BL[k]? = some s) (hV : SL w (.slice p n c) C) (hB : ZL w (.slice q m e) BL) (hr : ∀ y ∈ C, i64 y) (hln : C.length ≤ 1000000000) (hm : m ≤ 1000000000) (hx : i64 sec) (hp : i64 pt) (hT : TS w) (r : Bool) (h : tk (pp pt (ex sec)) (k : Int) s.data.toList C = r) :
    Calls Tryz.prog 26 #[.int .i64 sec, .agg #[.slice p n c, .int .i64 pt, .slice q m e], .int .i64 (k : Int)] w fun e w' => e = .returned (.tuple #[.agg #[.int .i64 (if r then (k : Int) + 1 else 0), .int .i64 (if r then ct s.data.toList (pd (pp pt (ex sec)) k) else 0)], .bool r]) ∧ Below w.heap.size w w' := by
  have hk : k < m := by
    obtain ⟨q', e', h1, _⟩ := hB.form
    injection h1 with _ h6 _
    rw [h6]; exact (List.getElem?_eq_some_iff.1 hs).1
  exact Open_core w sec k pt (pp pt (ex sec)) _ _ p q n c m e r (by rw [decide_eq_true (by omega), decide_eq_true (by omega)]; rfl) (Lib.hid fun W => shared_any W sec pt p q n c m e _ rfl hx hp)
    (Lib.hid fun W hb => take_any W _ k pt p q n c m e C BL s hs (hV.below hb) (hB.below hb) hr hln hm (pp_i _ _) (hT.below hb) r h)
end Go.Proofs.YtjfbpmpdcmealaaGreatDoor.D7
