/-
  Small functions of the reference: Mod, Made, Shared; Complain and Judge over whole dealings.
-/
import Derived.Test.YtjfbpmpdcmealaaGreatDoorDJudge
import Derived.Test.YtjfbpmpdcmealaaGreatDoorDMath
import Derived.Test.YtjfbpmpdcmealaaGreatDoorDDealNo
import Derived.Test.YtjfbpmpdcmealaaGreatDoorDPlan
import Derived.Test.YtjfbpmpdcmealaaGreatDoorERefV
namespace Go.Proofs.YtjfbpmpdcmealaaGreatDoor.D7
open Go.RowKit GM SH G4 E6 D7P
theorem mod_num (n : Int) (m : Nat) (hm : 1 ≤ m) : (n.tmod (m : Int) + (m : Int)).tmod (m : Int) = n % (m : Int) := by
  have h1 : -(m : Int) < n.tmod (m : Int) := by
    have := Int.lt_tmod_of_pos n (b := (m : Int)) (by omega)
    omega
  rw [Int.tmod_eq_emod_of_nonneg (by omega), Int.add_emod_right]
  have h3 : n.tmod (m : Int) = n - (m : Int) * n.tdiv (m : Int) := Int.tmod_def n m
  rw [h3, Int.sub_mul_emod_self_left]
theorem tmod_bd (n : Int) (m : Nat) (hm : 1 ≤ m) : -(m : Int) < n.tmod (m : Int) ∧ n.tmod (m : Int) < (m : Int) := by
  have h1 := Int.lt_tmod_of_pos n (b := (m : Int)) (by omega)
  have h2 := Int.tmod_lt_of_pos n (b := (m : Int)) (by omega)
  omega
set_option maxRecDepth 100000 in
set_option maxHeartbeats 4000000 in
theorem mod_c (w : World) (n : Int) (m : Nat) (r : Int) (h : n % (m : Int) = r) (hm : 1 ≤ m) (hm2 : m ≤ 1000000) (hn : i64 n) :
    Calls Tryz.prog 13 #[.int .i64 n, .int .i64 (m : Int)] w fun e w' => e = .returned (.int .i64 r) ∧ w' = w := by
  have hb := tmod_bd n m hm
  have e := mod_num n m hm
  have hr := Int.emod_nonneg n (b := (m : Int)) (by omega)
  have hr2 := Int.emod_lt_of_pos n (b := (m : Int)) (by omega)
  rw [h] at e hr hr2
  have hn1 := hn.1
  have hn2 := hn.2
  generalize hM : (m : Int) = M at *
  have hM0 : M ≠ 0 := by omega
  have hM1 : 1 ≤ M := by omega
  have hM2 : M ≤ 1000000 := by omega
  clear hM hm hm2 h hn
  go_enter Tryz.func13, Tryz.ntmps13
  go_wp2
  go_ret
  exact ⟨rfl, rfl⟩

theorem same_b {P : Program} {f : Nat} {args : Array Value} {w : World} {v : Value} (h : Calls P f args w fun e w' => e = .returned v ∧ w' = w) : Calls P f args w fun e w' => e = .returned v ∧ Below w.heap.size w w' := h.mono fun e w' hh => ⟨hh.1, hh.2 ▸ Below.refl _ _⟩
def mdv (n : Int) : Int := gm (1 + n % 2305843009213691578) (1 + n % 2305843009213691578) 2305843009213691579
theorem mdv_i (n : Int) : i64 (mdv n) := by
  have : 0 ≤ mdv n ∧ mdv n < 2305843009213691579 := by unfold mdv; exact mPr _ _
  exact ⟨by omega, by omega⟩
set_option maxRecDepth 100000 in
set_option maxHeartbeats 4000000 in
theorem made_c (w : World) (n : Int) (r : Int) (h : mdv n = r) (hn : i64 n) :
    Calls Tryz.prog 16 #[.int .i64 n] w fun e w' => e = .returned (.int .i64 r) ∧ w' = w := by
  have R1 := Lib.hid fun W => refResidue_any W n 2305843009213691578 hn.1 hn.2 (by decide) (by decide)
  obtain ⟨x, hx⟩ : ∃ x, n % 2305843009213691578 = x := ⟨_, rfl⟩
  have x0 : 0 ≤ x := by omega
  have x1 : x < 2305843009213691578 := by omega
  unfold mdv at h
  rw [hx] at R1 h
  have M1 := Lib.hid fun W => refMul_k W (1 + x) (1 + x) 2305843009213691579 r h ⟨by omega, by omega⟩ ⟨by omega, by omega⟩ (by decide)
  clear h hx hn
  go_enter Tryz.func16, Tryz.ntmps16
  go_wp2_with fail
  refine (R1.out _).mono ?_
  rintro e w1 ⟨rfl, rfl⟩
  go_wp2_with fail
  refine (M1.out _).mono ?_
  rintro e w2 ⟨rfl, rfl⟩
  go_wp2
  go_ret
  exact ⟨rfl, rfl⟩
set_option maxRecDepth 100000 in
set_option maxHeartbeats 4000000 in
theorem refShared_core (w : World) (sec pt x v : Int) (p q : Option Addr) (n c m e : Nat)
    (R1 : Hid (∀ W, Calls Tryz.prog 31 #[.int .i64 sec, .int .i64 1152921504606845789] W fun e w' => e = .returned (.int .i64 x) ∧ Below W.heap.size W w'))
    (P1 : Hid (∀ W, Calls Tryz.prog 28 #[.int .i64 pt, .int .i64 x, .int .i64 2305843009213691579] W fun e w' => e = .returned (.int .i64 v) ∧ Below W.heap.size W w')) :
    Calls Tryz.prog 17 #[.int .i64 sec, .agg #[.slice p n c, .int .i64 pt, .slice q m e]] w fun e w' => e = .returned (.int .i64 v) ∧ Below w.heap.size w w' := by
  obtain ⟨W, hW⟩ : ∃ W, w.alloc (.cells #[.slice p n c, .int .i64 pt, .slice q m e] 34) = W := ⟨_, rfl⟩
  have K0 : CK w [(⟨w.heap.size, 1, none⟩, .int .i64 pt)] [] W := by
    have := (CK.start w).cells #[.slice p n c, .int .i64 pt, .slice q m e] 34 _ rfl
    rw [hW] at this
    exact this.sub (by simp) (by simp)
  have HK := Lib.hid K0; clear K0
  go_enter Tryz.func17, Tryz.ntmps17
  go_upto_region 1 with fail
  clear hW
  refine wp_region_held_drew (S := CK w [(⟨w.heap.size, 1, none⟩, .int .i64 pt)] []) (by kernel_rfl) HK.out.drew (fun hS => ?_)
  clear HK
  refine wpAnyH_take (i := 0) (oi := { dst := some 5, op := Op.fieldAddr 34 (Operand.tmp 3) 1, type := 0, pos := "ref.go:141", after := #[], guard := none }) (v := ?vsh0) rfl (by kernel_rfl) (by kernel_rfl) (by kernel_rfl) (fun _ _ _ h => h) (Or.inl ⟨by rfl, ?ysh0⟩) hS ?rsh0
  case ysh0 => (intro w hS; go_simp; try with_reducible rfl)
  refine wpAnyH_take (i := 2) (oi := { dst := some 7, op := Op.move (Operand.tmp 0), type := 3, pos := "ref.go:141", after := #[], guard := none }) (v := ?vsh2) rfl (by kernel_rfl) (by kernel_rfl) (by kernel_rfl) (fun _ _ _ h => h) (Or.inl ⟨by rfl, ?ysh2⟩) hS ?rsh2
  case ysh2 => (intro w hS; go_simp; try with_reducible rfl)
  go_simp
  refine wpAnyH_take (i := 1) (oi := { dst := some 6, op := Op.load 3 (Operand.tmp 5), type := 3, pos := "ref.go:141", after := #[{ on := 0, ground := Ground.data }], guard := none }) (v := .int .i64 pt) rfl (by kernel_rfl) (by kernel_rfl) (by kernel_rfl) (fun _ _ _ h => h) (Or.inl ⟨by rfl, ?ysh1⟩) hS ?rsh1
  case ysh1 => (intro w' hS; have cf := hS.get ⟨w.heap.size, 1, none⟩ (.int .i64 pt) (by simp); go_simp; try with_reducible rfl)
  go_simp
  refine wpAnyH_ready (rs := [3]) (by kernel_rfl) (by simp) ?_
  refine AllReadyH.cons (o := { dst := some 8, op := Op.call { callee := Callee.value (Operand.func 31), args := #[Operand.tmp 7, Operand.const (Value.int IntKind.i64 1152921504606845789)], argTypes := #[3, 3] }, type := 3, pos := "ref.go:141", after := #[{ on := 2, ground := Ground.data }], guard := none }) rfl (fun K hK => ?_) AllReadyH.nil
  go_simp
  go_at_call 31
  refine (R1.out _).mono ?_
  rintro e w' ⟨rfl, b⟩
  have hS2 := hS.next b
  clear b hS
  try go_simp
  refine hK.out _ _ hS2 (fun hS => ?_)
  clear hK K hS2
  refine wpAnyH_ready (rs := [4]) (by kernel_rfl) (by simp) ?_
  refine AllReadyH.cons (o := { dst := some 9, op := Op.call { callee := Callee.value (Operand.func 28), args := #[Operand.tmp 6, Operand.tmp 8, Operand.const (Value.int IntKind.i64 2305843009213691579)], argTypes := #[3, 3, 3] }, type := 3, pos := "ref.go:141", after := #[{ on := 1, ground := Ground.data }, { on := 3, ground := Ground.data }, { on := 3, ground := Ground.chain }], guard := none }) rfl (fun K hK => ?_) AllReadyH.nil
  go_simp
  go_at_call 28
  refine (P1.out _).mono ?_
  rintro e w' ⟨rfl, b⟩
  have hS2 := hS.next b
  clear b hS
  try go_simp
  refine hK.out _ _ hS2 (fun hS => ?_)
  clear hK K hS2
  refine wpAnyH_take (i := 5) (oi := { dst := some 4, op := Op.assign (Operand.tmp 9), type := 3, pos := "ref.go:141", after := #[{ on := 4, ground := Ground.data }, { on := 4, ground := Ground.chain }, { on := 0, ground := Ground.phase }, { on := 1, ground := Ground.phase }, { on := 2, ground := Ground.phase }, { on := 3, ground := Ground.phase }, { on := 4, ground := Ground.phase }], guard := none }) (v := ?vsh5) rfl (by kernel_rfl) (by kernel_rfl) (by kernel_rfl) (fun _ _ _ h => h) (Or.inl ⟨by rfl, ?ysh5⟩) hS ?rsh5
  case ysh5 => (intro w hS; go_simp; try with_reducible rfl)
  refine wpAnyH_done (by kernel_rfl) ?_ _
  try dsimp only [Act.put]
  go_wp2
  go_ret
  exact ⟨rfl, hS.b⟩
theorem refShared_any (w : World) (sec pt : Int) (p q : Option Addr) (n c m e : Nat) (v : Int) (h : pp pt (ex sec) = v) (hs : i64 sec) (hp : i64 pt) :
    Calls Tryz.prog 17 #[.int .i64 sec, .agg #[.slice p n c, .int .i64 pt, .slice q m e]] w fun e w' => e = .returned (.int .i64 v) ∧ Below w.heap.size w w' :=
  refShared_core w sec pt (ex sec) v p q n c m e (Lib.hid fun W => same_b (residue_c W sec _ rfl hs)) (Lib.hid fun W => same_b (refPow_w W pt (ex sec) 2305843009213691579 v h hp (ex_i sec).2 (by decide)))
theorem mem4 : mem 4 = true := mem_4
theorem mem_i {a : Int} (h : mem a = true) : i64 a := by have := mem_rng h; exact ⟨by omega, by omega⟩
theorem Complain_any (w : World) (sec pt : Int) (k : Nat) (p q : Option Addr) (n c m e : Nat) (hk : k < m) (hs : i64 sec) (hp : mem pt = true) (hT : TS w) :
    Calls Tryz.prog 14 #[.int .i64 sec, .agg #[.slice p n c, .int .i64 pt, .slice q m e], .int .i64 (k : Int)] w fun e w' => e = .returned (.agg #[.int .i64 (k : Int), .int .i64 (pp pt (ex sec)), .int .i64 (prC sec 4 pt), .int .i64 (prZ sec 4 pt)]) ∧ Below w.heap.size w w' :=
  Complain_core w sec k pt (pp pt (ex sec)) (prC sec 4 pt) (prZ sec 4 pt) p q n c m e (by simp; omega) (Lib.hid fun W => member_k W pt true hp (mem_i hp).1 (mem_i hp).2) (Lib.hid fun W => shared_any W sec pt p q n c m e _ rfl hs (mem_i hp)) (Lib.hid fun W b => Prove_any W sec 4 pt hs (by decide) (mem_i hp) (hT.below b))
/-- the verdict on a complaint -/
def jd (C : List Int) (kk pt : Int) (s : List UInt8) (k : Int) (ky Cp Z : Int) : Int := if E6.vf 4 kk pt ky Cp Z then (if tk ky k s C then 2 else 1) else 0
theorem Judge_any (w : World) (k : Nat) (pt ky Cp Z kk : Int) (ks p q : Option Addr) (l lc n c m e : Nat) (K C : List Int) (B : List ByteArray) (s : ByteArray) (hK : SL w (.slice ks l lc) K) (hV : SL w (.slice p n c) C) (hB : ZL w (.slice q m e) B) (hkk : K[k]? = some kk) (hs : B[k]? = some s)
    (hrk : ∀ x ∈ K, i64 x) (hrc : ∀ x ∈ C, i64 x) (hp : i64 pt) (hky : i64 ky) (hC : i64 Cp) (hZ : i64 Z) (hc : chk C pt B l = true) (hl : l ≤ 1000000000) (hm : m ≤ 1000000000) (hn : n ≤ 1000000000) (hT : TS w) :
    Calls Tryz.prog 12 #[.slice ks l lc, .agg #[.slice p n c, .int .i64 pt, .slice q m e], .agg #[.int .i64 (k : Int), .int .i64 ky, .int .i64 Cp, .int .i64 Z]] w fun e w' => e = .returned (.int .i64 (jd C kk pt s.data.toList k ky Cp Z)) ∧ Below w.heap.size w w' := by
  obtain ⟨ks', lc', h1, hcell⟩ := hK.form
  injection h1 with h2 h3 h4
  subst h2 h4
  obtain ⟨b, o, rfl, hck⟩ := hcell k kk hkk
  have hkl : k < l := by have := (List.getElem?_eq_some_iff.1 hkk).1; omega
  have hn1 : C.length = n := by obtain ⟨p', c', h1, _⟩ := hV.form; injection h1 with _ h _; exact h.symm
  unfold jd
  exact Judge_core w k pt ky Cp Z kk b o p q l lc n c m e (E6.vf 4 kk pt ky Cp Z) (tk ky k s.data.toList C) _ _ hkl hl hck (Lib.hid fun W => same_b (within_c W k l true (by simp; omega))) (Lib.hid fun W bb => Check_any W pt l p q n c m e C B true hc (hV.below bb) (hB.below bb) hrc hp hm hn hl)
    (Lib.hid fun W bb => Verify_any W 4 kk pt ky Cp Z (by decide) (hrk kk (List.mem_of_getElem? hkk)) hp hky hC hZ (hT.below bb)) (Lib.hid fun _ W bb => take_any W ky k pt p q n c m e C B s hs (hV.below bb) (hB.below bb) hrc (by omega) hm hky (hT.below bb) _ rfl)
/-- the verdict on what isn't a dealing -/
theorem Judge_zero (w : World) (ix ky Cp Z : Int) (ks : Option Addr) (l lc : Nat) (hl : l ≤ 1000000000) :
    Calls Tryz.prog 12 #[.slice ks l lc, .agg #[.slice none 0 0, .int .i64 0, .slice none 0 0], .agg #[.int .i64 ix, .int .i64 ky, .int .i64 Cp, .int .i64 Z]] w fun e w' => e = .returned (.int .i64 0) ∧ Below w.heap.size w w' := by
  cases h : (decide (0 ≤ ix) && decide (ix < (l : Int))) with
  | false => exact Judge_out w ix 0 ky Cp Z ks none none l lc 0 0 0 0 (Lib.hid fun W => same_b (within_c W ix l false h))
  | true => exact Judge_form w ix 0 ky Cp Z ks none none l lc 0 0 0 0 (Lib.hid fun W => same_b (within_c W ix l true h)) (Lib.hid fun W b => Check_any W 0 l none none 0 0 0 0 [] [] false (by unfold chk; simp) (VL.nil _ _ _) (VL.nil _ _ _) (fun x hx => by cases hx) (by decide) (by decide) (by decide) hl)
end Go.Proofs.YtjfbpmpdcmealaaGreatDoor.D7
