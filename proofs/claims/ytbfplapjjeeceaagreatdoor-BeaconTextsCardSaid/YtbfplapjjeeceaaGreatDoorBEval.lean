/-
  What a walk keeps: the frame, cells, rows of its own.
  The reference's text of a proof.
  The base of a round; Eval, in the program and in the reference.
-/
import Derived.Test.YtbfplapjjeeceaaGreatDoorEVerify
import Derived.Deep.RegionHeld3
import Derived.Test.YtbfplapjjeeceaaGreatDoorERefV
import Derived.Test.YtbfplapjjeeceaaGreatDoorDRefA
import Derived.Test.YtbfplapjjeeceaaGreatDoorDValue
import Derived.Test.YtbfplapjjeeceaaGreatDoorBList
namespace Go.Proofs.YtbfplapjjeeceaaGreatDoor.B9
open Go.RowKit GM SH G4 E6
theorem results_row_tmp {P : Program} {fn : Func} {p u : Tmp} {ty : TypeId} (h : fn.results = #[.cell p ty, .tmp u]) (tmps : Array Value) (w : World) (g : Nat) (t : TypeId) (cs : Array Value) (fr : Nat × Nat) (d : TypeDesc)
    (hp : tmps.getD p undef = .pointer (some ⟨g, 0, none⟩)) (hg : w.heap[g]? = some (.cells cs t fr))
    (hu : P.underlying ty = some d) (hd : (match d with | .struct _ | .array _ _ => true | _ => false) = true) (hi : (P.info? ty).map (·.size) = some cs.size) :
    (results fn tmps).run P w = .ok (.tuple #[.agg cs, tmps.getD u undef]) w := by
  have hp' : tmps[p]?.getD undef = .pointer (some ⟨g, 0, none⟩) := by simpa using hp
  simp [results, h, hp', asAddr, run_loadVar_row w g t ty cs fr d hg hu hd hi]
/-- the frame, cells that stay, rows that may be written -/
structure CK (w : World) (L : List (Addr × Value)) (Z : List (Nat × Nat × TypeId)) (W : World) : Prop where
  b : Below w.heap.size w W
  c : ∀ p ∈ L, W.cell? p.1 = some p.2
  z : ∀ p ∈ Z, w.heap.size ≤ p.1 ∧ ∃ cs : Array Value, cs.size = p.2.1 ∧ W.heap[p.1]? = some (.cells cs p.2.2 (0, 0))
theorem CK.next {w u v : World} {L : List (Addr × Value)} {Z : List (Nat × Nat × TypeId)} (h : CK w L Z u) (k : Below u.heap.size u v) : CK w L Z v :=
  ⟨h.b.trans (k.mono h.b.size), fun p hp => (k.cell (p := p.1) (World.block_lt_of_cell? _ _ (h.c p hp))).trans (h.c p hp), fun p hp => by
    obtain ⟨h0, cs, h1, h2⟩ := h.z p hp
    exact ⟨h0, cs, h1, (k.block _ (Array.getElem?_eq_some_iff.1 h2).1).trans h2⟩⟩
theorem CK.drew {w u : World} {L : List (Addr × Value)} {Z : List (Nat × Nat × TypeId)} (h : CK w L Z u) : CK w L Z u.drew := ⟨h.b.drew, fun p hp => h.c p hp, fun p hp => h.z p hp⟩
theorem CK.get {w u : World} {L : List (Addr × Value)} {Z : List (Nat × Nat × TypeId)} (h : CK w L Z u) (p : Addr) (v : Value) (hp : (p, v) ∈ L) : u.cell? p = some v := h.c (p, v) hp
theorem CK.row {w u : World} {L : List (Addr × Value)} {Z : List (Nat × Nat × TypeId)} (h : CK w L Z u) (b n : Nat) (t : TypeId) (hp : (b, n, t) ∈ Z) : ∃ cs : Array Value, cs.size = n ∧ u.heap[b]? = some (.cells cs t (0, 0)) := (h.z _ hp).2
theorem CK.start (w : World) : CK w [] [] w := ⟨Below.refl _ _, fun p hp => (by cases hp), fun p hp => (by cases hp)⟩
/-- cells of a new block -/
theorem CK.new {w u : World} {L : List (Addr × Value)} {Z : List (Nat × Nat × TypeId)} (h : CK w L Z u) (cs : Array Value) (t : TypeId) : CK w L ((u.heap.size, cs.size, t) :: Z) (u.alloc (.cells cs t)) := by
  have k := h.next ((Below.refl _ u).alloc (Nat.le_refl _) (.cells cs t))
  refine ⟨k.b, k.c, fun p hp => ?_⟩
  rcases List.mem_cons.1 hp with rfl | hp
  · exact ⟨h.b.size, cs, rfl, heap_alloc_new _ _⟩
  · exact k.z p hp
theorem CK.cells {w u : World} {L : List (Addr × Value)} {Z : List (Nat × Nat × TypeId)} (h : CK w L Z u) (cs : Array Value) (t : TypeId) (l : List Value) (hl : cs.toList = l) : CK w (l.mapIdx (fun j v => ((⟨u.heap.size, j, none⟩ : Addr), v)) ++ L) Z (u.alloc (.cells cs t)) := by
  have k := h.next ((Below.refl _ u).alloc (Nat.le_refl _) (.cells cs t))
  refine ⟨k.b, fun p hp => ?_, k.z⟩
  rcases List.mem_append.1 hp with hp | hp
  · obtain ⟨j, hj, rfl⟩ := List.mem_mapIdx.1 hp
    rw [World.cell?_alloc_at _ _ _ _ rfl]
    subst hl
    simp at hj
    simp [hj]
  · exact k.c p hp
/-- a row is written -/
theorem CK.store {w u : World} {L : List (Addr × Value)} {Z : List (Nat × Nat × TypeId)} (h : CK w L Z u) (b n : Nat) (t : TypeId) (hp : (b, n, t) ∈ Z) (cs : Array Value) (hn : cs.size = n) (hL : ∀ p ∈ L, p.1.block ≠ b) (hZ : ∀ p ∈ Z, p.1 = b → p = (b, n, t)) : CK w L Z (u.setRow b cs) := by
  obtain ⟨hb, old, h1, h2⟩ := h.z _ hp
  refine ⟨Below.setRow' h.b hb _, fun p hm => ?_, fun p hm => ?_⟩
  · have := h.c p hm
    rw [World.cell?_of_block (setRow_other u b p.1.block cs (hL p hm))]; exact this
  · obtain ⟨k0, cs2, k1, k2⟩ := h.z p hm
    by_cases e : p.1 = b
    · have := hZ p hm e
      subst this
      exact ⟨k0, cs, hn, setRow_heap _ _ _ _ _ _ h2⟩
    · exact ⟨k0, cs2, k1, (setRow_other u b p.1 cs e).trans k2⟩
theorem CK.sub {w u : World} {L M : List (Addr × Value)} {Z Y : List (Nat × Nat × TypeId)} (h : CK w L Z u) (hL : ∀ p ∈ M, p ∈ L) (hZ : ∀ p ∈ Y, p ∈ Z) : CK w M Y u := ⟨h.b, fun p hp => h.c p (hL p hp), fun p hp => h.z p (hZ p hp)⟩
end Go.Proofs.YtbfplapjjeeceaaGreatDoor.B9
namespace Go.Proofs.YtbfplapjjeeceaaGreatDoor.B9
open Go.RowKit GM SH G4 E6
/-- the text of a proof -/
def txt (R S : Int) : ByteArray := dcm R ++ (⟨#[46]⟩ : ByteArray) ++ dcm S
theorem tx_next {w u v : World} {p : Nat} {R S : Int} (h : TS u ∧ Below w.heap.size w u ∧ u.cell? ⟨p, 0, none⟩ = some (.int .i64 R) ∧ u.cell? ⟨p, 1, none⟩ = some (.int .i64 S)) (b : Below u.heap.size u v) :
    TS v ∧ Below w.heap.size w v ∧ v.cell? ⟨p, 0, none⟩ = some (.int .i64 R) ∧ v.cell? ⟨p, 1, none⟩ = some (.int .i64 S) := ⟨h.1.below b, two_next h.2 b⟩
set_option maxRecDepth 100000 in
set_option maxHeartbeats 2000000 in
theorem refText_any (w : World) (R S : Int) (hR : -9223372036854775808 ≤ R ∧ R ≤ 9223372036854775807) (hS : -9223372036854775808 ≤ S ∧ S ≤ 9223372036854775807) (hT : TS w) :
    Calls Tryz.prog 70 #[pfv R S] w fun e w' => e = .returned (.string (txt R S)) ∧ Below w.heap.size w w' := by
  obtain ⟨W, hW⟩ : ∃ W, w.alloc (.cells #[.int .i64 R, .int .i64 S] 28) = W := ⟨_, rfl⟩
  have h1 : PM W w.heap.size R S := by rw [← hW]; exact PM.new _ _ _
  have hb : Below w.heap.size w W := by rw [← hW]; exact (Below.refl w.heap.size w).alloc (Nat.le_refl _) _
  have hTW : TS W := hT.below hb
  have c0 := h1.c0
  have c1 := h1.c1
  have I1 := Lib.hid fun W (h : TS W) => decimal_any W R hR
  have I2 := Lib.hid fun W (h : TS W) => decimal_any W S hS
  have E := Lib.hid (show txt R S = dcm R ++ (⟨#[46]⟩ : ByteArray) ++ dcm S from rfl)
  have z1 := dcm_size R hR
  have z2 := dcm_size S hS
  generalize txt R S = T at *
  generalize dcm R = X at *
  generalize dcm S = Y at *
  have b1 : (9223372036854775807 < X.size + 1) = False := eq_false (by omega)
  have b2 : (9223372036854775807 < X.size + 1 + Y.size) = False := eq_false (by omega)
  clear h1 hT z1 z2
  have HR := Lib.hid (And.intro hR hS); clear hR hS
  go_enter Tryz.func70, Tryz.ntmps70
  go_upto_region 1 with fail
  clear hW
  go_region_held3 (fun w' => TS w' ∧ Below w.heap.size w w' ∧ w'.cell? ⟨w.heap.size, 0, none⟩ = some (.int .i64 R) ∧ w'.cell? ⟨w.heap.size, 1, none⟩ = some (.int .i64 S))
    (first | assumption | exact ⟨hTW.below (Below.drew (Below.refl _ _)), hb.drew, c0, c1⟩ | exact ⟨hTW, hb, c0, c1⟩ | exact tx_next (by assumption) b)
    (first
      | (go_at_call_of 98 (Value.int .i64 R); refine (I1.out _ (And.left (by assumption))).mono ?_; rintro e w' ⟨rfl, b⟩)
      | (go_at_call_of 98 (Value.int .i64 S); refine (I2.out _ (And.left (by assumption))).mono ?_; rintro e w' ⟨rfl, b⟩))
  all_goals go_wp2
  all_goals go_ret
  all_goals exact ⟨by rw [E.out]; rfl, (And.left (And.right (by assumption)) : Below w.heap.size w _)⟩
end Go.Proofs.YtbfplapjjeeceaaGreatDoor.B9
namespace Go.Proofs.YtbfplapjjeeceaaGreatDoor.B9
open Go.RowKit GM SH G4 E6 D7P
open W8 hiding i64 jn
theorem infoPa (a b c d : Int) : Hid ((Tryz.prog.info? 30).map (·.size) = some (#[Value.int .i64 a, .int .i64 b, .int .i64 c, .int .i64 d]).size) := Lib.hid (by show _ = some 4; kernel_rfl)
theorem pa_size (a b c d e f g h : Value) : (#[a, b, c, d]).size = (#[e, f, g, h]).size := by simp
theorem pa_one (a b c d : Int) : (#[Value.int .i64 a, .int .i64 b, .int .i64 c, .int .i64 d]).all (·.oneCell') = true := by simp [Value.oneCell']
/-- the value of a partial -/
abbrev pav (p : Pa) : Value := .agg #[.int .i64 p.1, .int .i64 p.2.1, .int .i64 p.2.2.1, .int .i64 p.2.2.2]
/-- the partial of a share -/
def evl (x y r : Int) : Pa := if 1 ≤ x ∧ x ≤ 60 ∧ 0 ≤ y ∧ y < 1152921504606845789 then (x, pp (bs r) y, prC y 4 (bs r), prZ y 4 (bs r)) else (0, 0, 0, 0)
theorem evl_yes (x y r : Int) (h : 1 ≤ x ∧ x ≤ 60 ∧ 0 ≤ y ∧ y < 1152921504606845789) : evl x y r = (x, pp (bs r) y, prC y 4 (bs r), prZ y 4 (bs r)) := if_pos h
theorem evl_no (x y r : Int) (h : ¬ (1 ≤ x ∧ x ≤ 60 ∧ 0 ≤ y ∧ y < 1152921504606845789)) : evl x y r = (0, 0, 0, 0) := if_neg h
theorem wR_size (r : Int) (_ : i64 r) : ((⟨#[114, 111, 117, 110, 100, 47]⟩ : ByteArray) ++ dcm r).size = 6 + (dcm r).size := by rw [ByteArray.size_append]; rfl
theorem Base_any (w : World) (r b : Int) (h : bs r = b) (hr : i64 r) (hT : TS w) :
    Calls Tryz.prog 12 #[.int .i64 r] w fun e w' => e = .returned (.int .i64 b) ∧ Below w.heap.size w w' := by
  have I1 := Lib.hid (itoa_any w r hr hT)
  have z := dcm_size r hr
  have z2 := wR_size r hr
  have E : ∀ W, TS W → Calls Tryz.prog 34 #[.string ((⟨#[114, 111, 117, 110, 100, 47]⟩ : ByteArray) ++ dcm r)] W fun e w' => e = .returned (.int .i64 b) ∧ Below W.heap.size W w' := fun W h2 => by
    subst h
    exact Element_any W _ (by rw [z2]; omega) h2.tb.sq h2.tb.cb
  have E := Lib.hid E
  have HT := Lib.hid hT; clear hT h z2
  generalize dcm r = D at *
  have b1 : (9223372036854775807 < 6 + D.size) = False := eq_false (by omega)
  clear z
  go_enter Tryz.func12, Tryz.ntmps12
  go_wp2_with fail
  refine I1.out.mono ?_
  rintro e w1 ⟨rfl, k1⟩
  have H1 := Lib.hid (And.intro k1 (HT.out.below k1)); clear k1 I1
  go_wp2_with fail
  refine (E.out _ H1.out.2).mono ?_
  rintro e w2 ⟨rfl, k2⟩
  have H2 := Lib.hid (H1.out.1.trans (k2.mono H1.out.1.size)); clear k2
  go_wp2
  go_ret
  exact ⟨rfl, H2.out⟩
theorem refText0 (w : World) (n : Int) (h : i64 n) (hT : TS w) :
    Calls Tryz.prog 70 #[.agg #[.int .i64 n, .int .i64 0]] w fun e w' => e = .returned (.string (dcm n ++ (⟨#[46, 48]⟩ : ByteArray))) ∧ Below w.heap.size w w' := by
  refine (refText_any w n 0 h (by decide) hT).mono ?_
  rintro e w' ⟨rfl, b⟩
  refine ⟨?_, b⟩
  have : dcm 0 = (⟨#[48]⟩ : ByteArray) := by decide +kernel
  unfold txt
  rw [this, ba_assoc]; rfl
theorem cut_two (D : ByteArray) : (D ++ (⟨#[46, 48]⟩ : ByteArray)).extract 0 D.size = D := by
  rw [ByteArray.extract_append_eq_left rfl]
theorem decimal9 (w : World) (n : Int) (h : i64 n) (hT : TS w) :
    Calls Tryz.prog 37 #[.int .i64 n] w fun e w' => e = .returned (.string (dcm n)) ∧ Below w.heap.size w w' := by
  have I1 := Lib.hid (refText0 w n h hT)
  have z := dcm_size n h
  have E := cut_two (dcm n)
  have E2 : (dcm n ++ (⟨#[46, 48]⟩ : ByteArray)).size = (dcm n).size + 2 := by rw [ByteArray.size_append]; rfl
  obtain ⟨T, hT2⟩ : ∃ T, dcm n ++ (⟨#[46, 48]⟩ : ByteArray) = T := ⟨_, rfl⟩
  rw [hT2] at I1 E E2
  clear hT2
  generalize dcm n = D at *
  obtain ⟨m, hm⟩ : ∃ m, D.size = m := ⟨_, rfl⟩
  rw [hm] at E E2 z
  have HE := Lib.hid (And.intro E hm); clear E hm hT h
  go_enter Tryz.func37, Tryz.ntmps37
  go_wp2_with fail
  refine I1.out.mono ?_
  rintro e w1 ⟨rfl, k1⟩
  have H1 := Lib.hid k1; clear k1 I1
  go_wp2
  go_ret
  exact ⟨by rw [HE.out.1]; rfl, H1.out⟩
theorem refBase_any (w : World) (r b : Int) (h : bs r = b) (hr : i64 r) (hT : TS w) :
    Calls Tryz.prog 13 #[.int .i64 r] w fun e w' => e = .returned (.int .i64 b) ∧ Below w.heap.size w w' := by
  have I1 := Lib.hid (decimal9 w r hr hT)
  have z := dcm_size r hr
  have z2 := wR_size r hr
  have E : ∀ W, Calls Tryz.prog 36 #[.string ((⟨#[114, 111, 117, 110, 100, 47]⟩ : ByteArray) ++ dcm r)] W fun e w' => e = .returned (.int .i64 b) ∧ Below W.heap.size W w' := fun W => by
    subst h
    exact G4.refElement_any W _ (by rw [z2]; omega)
  have E := Lib.hid E
  clear hT h z2
  generalize dcm r = D at *
  have b1 : (9223372036854775807 < 6 + D.size) = False := eq_false (by omega)
  clear z
  go_enter Tryz.func13, Tryz.ntmps13
  go_wp2_with fail
  refine I1.out.mono ?_
  rintro e w1 ⟨rfl, k1⟩
  have H1 := Lib.hid k1; clear k1 I1
  go_wp2_with fail
  refine (E.out _).mono ?_
  rintro e w2 ⟨rfl, k2⟩
  have H2 := Lib.hid (H1.out.trans (k2.mono H1.out.size)); clear k2
  go_wp2
  go_ret
  exact ⟨rfl, H2.out⟩
set_option maxRecDepth 100000 in
set_option maxHeartbeats 4000000 in
theorem Eval_core (w : World) (x y r b u C Z : Int) (hx : 1 ≤ x) (hx2 : x ≤ 60) (hy : 0 ≤ y) (hy2 : y < 1152921504606845789)
    (BS : Hid (∀ W, Below w.heap.size w W → Calls Tryz.prog 12 #[.int .i64 r] W fun e w' => e = .returned (.int .i64 b) ∧ Below W.heap.size W w'))
    (PW : Hid (∀ W, Calls Tryz.prog 21 #[.int .i64 b, .int .i64 y, .int .i64 2305843009213691579] W fun e w' => e = .returned (.int .i64 u) ∧ Below W.heap.size W w'))
    (PV : Hid (∀ W, Below w.heap.size w W → Calls Tryz.prog 38 #[.int .i64 y, .int .i64 4, .int .i64 b] W fun e w' => e = .returned (.agg #[.int .i64 C, .int .i64 Z]) ∧ Below W.heap.size W w')) :
    Calls Tryz.prog 14 #[.agg #[.int .i64 x, .int .i64 y], .int .i64 r] w fun e w' => e = .returned (.agg #[.int .i64 x, .int .i64 u, .int .i64 C, .int .i64 Z]) ∧ Below w.heap.size w w' := by
  obtain ⟨W, hW⟩ : ∃ W, (w.alloc (.cells #[.int .i64 x, .int .i64 y] 23)).alloc (.cells #[.int .i64 0, .int .i64 0, .int .i64 0, .int .i64 0] 30) = W := ⟨_, rfl⟩
  have K0 : CK w [(⟨w.heap.size, 0, none⟩, .int .i64 x), (⟨w.heap.size, 1, none⟩, .int .i64 y)] [(w.heap.size + 1, 4, 30)] W := by
    have := ((CK.start w).cells #[.int .i64 x, .int .i64 y] 23 _ rfl).new #[.int .i64 0, .int .i64 0, .int .i64 0, .int .i64 0] 30
    rw [hW, World.size_alloc] at this
    exact this.sub (by simp) (by simp)
  go_enter Tryz.func14, Tryz.ntmps14
  go_upto_region 1 with fail
  clear hW
  have c0 := K0.get ⟨w.heap.size, 0, none⟩ (.int .i64 x) (by simp)
  have c1 := K0.get ⟨w.heap.size, 1, none⟩ (.int .i64 y) (by simp)
  have HK := Lib.hid K0; clear K0
  go_wp2_with fail
  refine (BS.out _ HK.out.b).mono ?_
  rintro e w1 ⟨rfl, b1⟩
  have HK1 := Lib.hid (HK.out.next b1); clear b1 HK c0 c1
  go_upto_region 4 with fail
  refine wp_region_held_drew (S := CK w [(⟨w.heap.size, 0, none⟩, .int .i64 x), (⟨w.heap.size, 1, none⟩, .int .i64 y)] [(w.heap.size + 1, 4, 30)]) (by kernel_rfl) HK1.out.drew (fun hS => ?_)
  clear HK1
  refine wpAnyH_take (i := 0) (v := ?vea0) rfl (by kernel_rfl) (by kernel_rfl) (by kernel_rfl) (fun _ _ _ h => h) (Or.inl ⟨by rfl, ?yea0⟩) hS ?rea0
  case yea0 => (intro w hS; go_simp; try with_reducible rfl)
  refine wpAnyH_take (i := 2) (v := ?vea2) rfl (by kernel_rfl) (by kernel_rfl) (by kernel_rfl) (fun _ _ _ h => h) (Or.inl ⟨by rfl, ?yea2⟩) hS ?rea2
  case yea2 => (intro w hS; go_simp; try with_reducible rfl)
  refine wpAnyH_take (i := 3) (v := ?vea3) rfl (by kernel_rfl) (by kernel_rfl) (by kernel_rfl) (fun _ _ _ h => h) (Or.inl ⟨by rfl, ?yea3⟩) hS ?rea3
  case yea3 => (intro w hS; go_simp; try with_reducible rfl)
  refine wpAnyH_take (i := 6) (v := ?vea6) rfl (by kernel_rfl) (by kernel_rfl) (by kernel_rfl) (fun _ _ _ h => h) (Or.inl ⟨by rfl, ?yea6⟩) hS ?rea6
  case yea6 => (intro w hS; go_simp; try with_reducible rfl)
  refine wpAnyH_take (i := 8) (v := ?vea8) rfl (by kernel_rfl) (by kernel_rfl) (by kernel_rfl) (fun _ _ _ h => h) (Or.inl ⟨by rfl, ?yea8⟩) hS ?rea8
  case yea8 => (intro w hS; go_simp; try with_reducible rfl)
  go_simp
  refine wpAnyH_take (i := 1) (v := .int .i64 x) rfl (by kernel_rfl) (by kernel_rfl) (by kernel_rfl) (fun _ _ _ h => h) (Or.inl ⟨by rfl, ?yea1⟩) hS ?rea1
  case yea1 => (intro w' hS; have cf := hS.get ⟨w.heap.size, 0, none⟩ (.int .i64 x) (by simp); go_simp; try with_reducible rfl)
  refine wpAnyH_take (i := 4) (v := .int .i64 y) rfl (by kernel_rfl) (by kernel_rfl) (by kernel_rfl) (fun _ _ _ h => h) (Or.inl ⟨by rfl, ?yea4⟩) hS ?rea4
  case yea4 => (intro w' hS; have cf := hS.get ⟨w.heap.size, 1, none⟩ (.int .i64 y) (by simp); go_simp; try with_reducible rfl)
  refine wpAnyH_take (i := 7) (v := .int .i64 y) rfl (by kernel_rfl) (by kernel_rfl) (by kernel_rfl) (fun _ _ _ h => h) (Or.inl ⟨by rfl, ?yea7⟩) hS ?rea7
  case yea7 => (intro w' hS; have cf := hS.get ⟨w.heap.size, 1, none⟩ (.int .i64 y) (by simp); go_simp; try with_reducible rfl)
  go_simp
  refine wpAnyH_ready (rs := [5]) (by kernel_rfl) (by simp) ?_
  refine AllReadyH.cons (o := { dst := some 32, op := .call { callee := .value (.func 21), args := #[.tmp 29, .tmp 31, .const (.int .i64 2305843009213691579)], argTypes := #[3, 3, 3] }, type := 3, pos := "beacon.go:25", after := #[⟨2, .data⟩, ⟨4, .data⟩], guard := none }) rfl (fun K hK => ?_) AllReadyH.nil
  go_simp
  go_at_call 21
  refine (PW.out _).mono ?_
  rintro e w' ⟨rfl, b⟩
  have hS2 := hS.next b
  clear b hS
  try go_simp
  refine hK.out _ _ hS2 (fun hS => ?_)
  clear hK K hS2
  refine wpAnyH_ready (rs := [9]) (by kernel_rfl) (by simp) ?_
  refine AllReadyH.cons (o := { dst := some 36, op := .call { callee := .value (.func 38), args := #[.tmp 34, .const (.int .i64 4), .tmp 35], argTypes := #[3, 3, 3] }, type := 28, pos := "beacon.go:25", after := #[⟨7, .data⟩, ⟨8, .data⟩, ⟨5, .chain⟩], guard := none }) rfl (fun K hK => ?_) AllReadyH.nil
  go_simp
  go_at_call 38
  refine (PV.out _ hS.b).mono ?_
  rintro e w' ⟨rfl, b⟩
  have hS2 := hS.next b
  clear b hS
  try go_simp
  refine hK.out _ _ hS2 (fun hS => ?_)
  clear hK K hS2
  refine wpAnyH_take (i := 10) (v := ?vea10) rfl (by kernel_rfl) (by kernel_rfl) (by kernel_rfl) (fun _ _ _ h => h) (Or.inl ⟨by rfl, ?yea10⟩) hS ?rea10
  case yea10 => (intro w hS; go_simp; try with_reducible rfl)
  go_simp
  obtain ⟨rs, hrs, hrow⟩ := hS.row (w.heap.size + 1) 4 30 (by simp)
  refine wpAnyH_ready (rs := [11]) (by kernel_rfl) (by simp) ?_
  refine AllReadyH.cons (o := { dst := none, op := .store 30 (.tmp 4) (.tmp 37), type := 0, pos := "beacon.go:25", after := #[⟨10, .data⟩, ⟨9, .chain⟩, ⟨0, .phase⟩, ⟨1, .phase⟩, ⟨2, .phase⟩, ⟨3, .phase⟩, ⟨4, .phase⟩, ⟨5, .phase⟩, ⟨6, .phase⟩, ⟨7, .phase⟩, ⟨8, .phase⟩, ⟨9, .phase⟩, ⟨10, .phase⟩], guard := none }) rfl (fun K hK => ?_) AllReadyH.nil
  rw [if_pos (by rfl)]
  refine wp_store_row 30 (.tmp 4) (.tmp 37) rfl (w.heap.size + 1) (#[.int .i64 x, .int .i64 u, .int .i64 C, .int .i64 Z]) (by first | rfl | (simp [Act.eval])) (by first | rfl | (simp [Act.eval])) 30 rs hrow (infoPa x u C Z).out (hrs) (pa_one x u C Z) ?_
  have hS2 := hS.store (w.heap.size + 1) 4 30 (by simp) (#[.int .i64 x, .int .i64 u, .int .i64 C, .int .i64 Z]) rfl (by simp) (by simp)
  have hrow2 := setRow_heap _ _ _ (#[.int .i64 x, .int .i64 u, .int .i64 C, .int .i64 Z]) _ _ hrow
  clear hS hrow
  refine hK.out _ _ hS2 (fun hS => ?_)
  clear hK K hS2
  refine wpAnyH_done (by kernel_rfl) ?_ _
  go_wp2_with fail
  refine bodyPost_ret (results_cell_row rfl _ _ (w.heap.size + 1) _ #[.int .i64 x, .int .i64 u, .int .i64 C, .int .i64 Z] _ _ rfl hrow2 Tryz.underlying30 rfl (infoPa x u C Z).out) rfl ?_
  exact ⟨rfl, hS.b⟩
set_option maxRecDepth 100000 in
set_option maxHeartbeats 4000000 in
theorem Eval_no (w : World) (x y r : Int) (h : x < 1 ∨ 60 < x ∨ y < 0 ∨ 1152921504606845789 ≤ y) :
    Calls Tryz.prog 14 #[.agg #[.int .i64 x, .int .i64 y], .int .i64 r] w fun e w' => e = .returned (.agg #[.int .i64 0, .int .i64 0, .int .i64 0, .int .i64 0]) ∧ Below w.heap.size w w' := by
  obtain ⟨W, hW⟩ : ∃ W, (w.alloc (.cells #[.int .i64 x, .int .i64 y] 23)).alloc (.cells #[.int .i64 0, .int .i64 0, .int .i64 0, .int .i64 0] 30) = W := ⟨_, rfl⟩
  have hm : W.heap[w.heap.size + 1]? = some (.cells #[.int .i64 0, .int .i64 0, .int .i64 0, .int .i64 0] 30 (0, 0)) := by
    rw [← hW]
    have := heap_alloc_new (w.alloc (.cells #[.int .i64 x, .int .i64 y] 23)) (.cells #[.int .i64 0, .int .i64 0, .int .i64 0, .int .i64 0] 30)
    rwa [World.size_alloc] at this
  have K0 : CK w [(⟨w.heap.size, 0, none⟩, .int .i64 x), (⟨w.heap.size, 1, none⟩, .int .i64 y)] [] W := by
    have := ((CK.start w).cells #[.int .i64 x, .int .i64 y] 23 _ rfl).next ((Below.refl _ _).alloc (Nat.le_refl _) (.cells #[.int .i64 0, .int .i64 0, .int .i64 0, .int .i64 0] 30))
    rw [hW] at this
    exact this.sub (by simp) (by simp)
  go_enter Tryz.func14, Tryz.ntmps14
  go_upto_region 1 with fail
  clear hW
  have c0 := K0.get ⟨w.heap.size, 0, none⟩ (.int .i64 x) (by simp)
  have c1 := K0.get ⟨w.heap.size, 1, none⟩ (.int .i64 y) (by simp)
  have HB := Lib.hid K0.b; clear K0
  have hp : w.heap.size ≤ w.heap.size + 1 := Nat.le_succ _
  have HP := Lib.hid hp; clear hp
  by_cases h1 : x < 1
  · clear h
    go_wp2_with (refine wpList_store_row rfl 30 (.tmp 4) (.tmp 24) rfl (w.heap.size + 1) #[.int .i64 0, .int .i64 0, .int .i64 0, .int .i64 0] rfl rfl 30 _ hm (infoPa 0 0 0 0).out (pa_size _ _ _ _ _ _ _ _) (pa_one _ _ _ _) ?_)
    refine bodyPost_ret (results_cell_row rfl _ _ (w.heap.size + 1) _ #[.int .i64 0, .int .i64 0, .int .i64 0, .int .i64 0] _ _ rfl (setRow_heap _ _ _ _ _ _ hm) Tryz.underlying30 rfl (infoPa 0 0 0 0).out) rfl ?_
    exact ⟨rfl, Below.setRow' HB.out HP.out _⟩
  by_cases h2 : 60 < x
  · clear h
    go_wp2_with (refine wpList_store_row rfl 30 (.tmp 4) (.tmp 24) rfl (w.heap.size + 1) #[.int .i64 0, .int .i64 0, .int .i64 0, .int .i64 0] rfl rfl 30 _ hm (infoPa 0 0 0 0).out (pa_size _ _ _ _ _ _ _ _) (pa_one _ _ _ _) ?_)
    refine bodyPost_ret (results_cell_row rfl _ _ (w.heap.size + 1) _ #[.int .i64 0, .int .i64 0, .int .i64 0, .int .i64 0] _ _ rfl (setRow_heap _ _ _ _ _ _ hm) Tryz.underlying30 rfl (infoPa 0 0 0 0).out) rfl ?_
    exact ⟨rfl, Below.setRow' HB.out HP.out _⟩
  by_cases h3 : y < 0
  · clear h
    go_wp2_with (refine wpList_store_row rfl 30 (.tmp 4) (.tmp 24) rfl (w.heap.size + 1) #[.int .i64 0, .int .i64 0, .int .i64 0, .int .i64 0] rfl rfl 30 _ hm (infoPa 0 0 0 0).out (pa_size _ _ _ _ _ _ _ _) (pa_one _ _ _ _) ?_)
    refine bodyPost_ret (results_cell_row rfl _ _ (w.heap.size + 1) _ #[.int .i64 0, .int .i64 0, .int .i64 0, .int .i64 0] _ _ rfl (setRow_heap _ _ _ _ _ _ hm) Tryz.underlying30 rfl (infoPa 0 0 0 0).out) rfl ?_
    exact ⟨rfl, Below.setRow' HB.out HP.out _⟩
  have h4 : 1152921504606845789 ≤ y := by omega
  clear h
  go_wp2_with (refine wpList_store_row rfl 30 (.tmp 4) (.tmp 24) rfl (w.heap.size + 1) #[.int .i64 0, .int .i64 0, .int .i64 0, .int .i64 0] rfl rfl 30 _ hm (infoPa 0 0 0 0).out (pa_size _ _ _ _ _ _ _ _) (pa_one _ _ _ _) ?_)
  refine bodyPost_ret (results_cell_row rfl _ _ (w.heap.size + 1) _ #[.int .i64 0, .int .i64 0, .int .i64 0, .int .i64 0] _ _ rfl (setRow_heap _ _ _ _ _ _ hm) Tryz.underlying30 rfl (infoPa 0 0 0 0).out) rfl ?_
  exact ⟨rfl, Below.setRow' HB.out HP.out _⟩
set_option maxRecDepth 100000 in
set_option maxHeartbeats 4000000 in
theorem refEval_core (w : World) (x y r b u C Z : Int) (hx : 1 ≤ x) (hx2 : x ≤ 60) (hy : 0 ≤ y) (hy2 : y < 1152921504606845789)
    (BS : Hid (∀ W, Below w.heap.size w W → Calls Tryz.prog 13 #[.int .i64 r] W fun e w' => e = .returned (.int .i64 b) ∧ Below W.heap.size W w'))
    (PW : Hid (∀ W, Calls Tryz.prog 39 #[.int .i64 b, .int .i64 y, .int .i64 2305843009213691579] W fun e w' => e = .returned (.int .i64 u) ∧ Below W.heap.size W w'))
    (PV : Hid (∀ W, Below w.heap.size w W → Calls Tryz.prog 40 #[.int .i64 y, .int .i64 4, .int .i64 b] W fun e w' => e = .returned (.agg #[.int .i64 C, .int .i64 Z]) ∧ Below W.heap.size W w')) :
    Calls Tryz.prog 15 #[.agg #[.int .i64 x, .int .i64 y], .int .i64 r] w fun e w' => e = .returned (.agg #[.int .i64 x, .int .i64 u, .int .i64 C, .int .i64 Z]) ∧ Below w.heap.size w w' := by
  obtain ⟨W, hW⟩ : ∃ W, (w.alloc (.cells #[.int .i64 x, .int .i64 y] 23)).alloc (.cells #[.int .i64 0, .int .i64 0, .int .i64 0, .int .i64 0] 30) = W := ⟨_, rfl⟩
  have K0 : CK w [(⟨w.heap.size, 0, none⟩, .int .i64 x), (⟨w.heap.size, 1, none⟩, .int .i64 y)] [(w.heap.size + 1, 4, 30)] W := by
    have := ((CK.start w).cells #[.int .i64 x, .int .i64 y] 23 _ rfl).new #[.int .i64 0, .int .i64 0, .int .i64 0, .int .i64 0] 30
    rw [hW, World.size_alloc] at this
    exact this.sub (by simp) (by simp)
  go_enter Tryz.func15, Tryz.ntmps15
  go_upto_region 1 with fail
  clear hW
  have c0 := K0.get ⟨w.heap.size, 0, none⟩ (.int .i64 x) (by simp)
  have c1 := K0.get ⟨w.heap.size, 1, none⟩ (.int .i64 y) (by simp)
  have HK := Lib.hid K0; clear K0
  go_wp2_with fail
  refine (BS.out _ HK.out.b).mono ?_
  rintro e w1 ⟨rfl, b1⟩
  have HK1 := Lib.hid (HK.out.next b1); clear b1 HK c0 c1
  go_upto_region 4 with fail
  refine wp_region_held_drew (S := CK w [(⟨w.heap.size, 0, none⟩, .int .i64 x), (⟨w.heap.size, 1, none⟩, .int .i64 y)] [(w.heap.size + 1, 4, 30)]) (by kernel_rfl) HK1.out.drew (fun hS => ?_)
  clear HK1
  refine wpAnyH_take (i := 0) (v := ?veb0) rfl (by kernel_rfl) (by kernel_rfl) (by kernel_rfl) (fun _ _ _ h => h) (Or.inl ⟨by rfl, ?yeb0⟩) hS ?reb0
  case yeb0 => (intro w hS; go_simp; try with_reducible rfl)
  refine wpAnyH_take (i := 2) (v := ?veb2) rfl (by kernel_rfl) (by kernel_rfl) (by kernel_rfl) (fun _ _ _ h => h) (Or.inl ⟨by rfl, ?yeb2⟩) hS ?reb2
  case yeb2 => (intro w hS; go_simp; try with_reducible rfl)
  refine wpAnyH_take (i := 3) (v := ?veb3) rfl (by kernel_rfl) (by kernel_rfl) (by kernel_rfl) (fun _ _ _ h => h) (Or.inl ⟨by rfl, ?yeb3⟩) hS ?reb3
  case yeb3 => (intro w hS; go_simp; try with_reducible rfl)
  refine wpAnyH_take (i := 6) (v := ?veb6) rfl (by kernel_rfl) (by kernel_rfl) (by kernel_rfl) (fun _ _ _ h => h) (Or.inl ⟨by rfl, ?yeb6⟩) hS ?reb6
  case yeb6 => (intro w hS; go_simp; try with_reducible rfl)
  refine wpAnyH_take (i := 8) (v := ?veb8) rfl (by kernel_rfl) (by kernel_rfl) (by kernel_rfl) (fun _ _ _ h => h) (Or.inl ⟨by rfl, ?yeb8⟩) hS ?reb8
  case yeb8 => (intro w hS; go_simp; try with_reducible rfl)
  go_simp
  refine wpAnyH_take (i := 1) (v := .int .i64 x) rfl (by kernel_rfl) (by kernel_rfl) (by kernel_rfl) (fun _ _ _ h => h) (Or.inl ⟨by rfl, ?yeb1⟩) hS ?reb1
  case yeb1 => (intro w' hS; have cf := hS.get ⟨w.heap.size, 0, none⟩ (.int .i64 x) (by simp); go_simp; try with_reducible rfl)
  refine wpAnyH_take (i := 4) (v := .int .i64 y) rfl (by kernel_rfl) (by kernel_rfl) (by kernel_rfl) (fun _ _ _ h => h) (Or.inl ⟨by rfl, ?yeb4⟩) hS ?reb4
  case yeb4 => (intro w' hS; have cf := hS.get ⟨w.heap.size, 1, none⟩ (.int .i64 y) (by simp); go_simp; try with_reducible rfl)
  refine wpAnyH_take (i := 7) (v := .int .i64 y) rfl (by kernel_rfl) (by kernel_rfl) (by kernel_rfl) (fun _ _ _ h => h) (Or.inl ⟨by rfl, ?yeb7⟩) hS ?reb7
  case yeb7 => (intro w' hS; have cf := hS.get ⟨w.heap.size, 1, none⟩ (.int .i64 y) (by simp); go_simp; try with_reducible rfl)
  go_simp
  refine wpAnyH_ready (rs := [5]) (by kernel_rfl) (by simp) ?_
  refine AllReadyH.cons (o := { dst := some 32, op := .call { callee := .value (.func 39), args := #[.tmp 29, .tmp 31, .const (.int .i64 2305843009213691579)], argTypes := #[3, 3, 3] }, type := 3, pos := "ref.go:27", after := #[⟨2, .data⟩, ⟨4, .data⟩], guard := none }) rfl (fun K hK => ?_) AllReadyH.nil
  go_simp
  go_at_call 39
  refine (PW.out _).mono ?_
  rintro e w' ⟨rfl, b⟩
  have hS2 := hS.next b
  clear b hS
  try go_simp
  refine hK.out _ _ hS2 (fun hS => ?_)
  clear hK K hS2
  refine wpAnyH_ready (rs := [9]) (by kernel_rfl) (by simp) ?_
  refine AllReadyH.cons (o := { dst := some 36, op := .call { callee := .value (.func 40), args := #[.tmp 34, .const (.int .i64 4), .tmp 35], argTypes := #[3, 3, 3] }, type := 28, pos := "ref.go:27", after := #[⟨7, .data⟩, ⟨8, .data⟩, ⟨5, .chain⟩], guard := none }) rfl (fun K hK => ?_) AllReadyH.nil
  go_simp
  go_at_call 40
  refine (PV.out _ hS.b).mono ?_
  rintro e w' ⟨rfl, b⟩
  have hS2 := hS.next b
  clear b hS
  try go_simp
  refine hK.out _ _ hS2 (fun hS => ?_)
  clear hK K hS2
  refine wpAnyH_take (i := 10) (v := ?veb10) rfl (by kernel_rfl) (by kernel_rfl) (by kernel_rfl) (fun _ _ _ h => h) (Or.inl ⟨by rfl, ?yeb10⟩) hS ?reb10
  case yeb10 => (intro w hS; go_simp; try with_reducible rfl)
  go_simp
  obtain ⟨rs, hrs, hrow⟩ := hS.row (w.heap.size + 1) 4 30 (by simp)
  refine wpAnyH_ready (rs := [11]) (by kernel_rfl) (by simp) ?_
  refine AllReadyH.cons (o := { dst := none, op := .store 30 (.tmp 4) (.tmp 37), type := 0, pos := "ref.go:27", after := #[⟨10, .data⟩, ⟨9, .chain⟩, ⟨0, .phase⟩, ⟨1, .phase⟩, ⟨2, .phase⟩, ⟨3, .phase⟩, ⟨4, .phase⟩, ⟨5, .phase⟩, ⟨6, .phase⟩, ⟨7, .phase⟩, ⟨8, .phase⟩, ⟨9, .phase⟩, ⟨10, .phase⟩], guard := none }) rfl (fun K hK => ?_) AllReadyH.nil
  rw [if_pos (by rfl)]
  refine wp_store_row 30 (.tmp 4) (.tmp 37) rfl (w.heap.size + 1) (#[.int .i64 x, .int .i64 u, .int .i64 C, .int .i64 Z]) (by first | rfl | (simp [Act.eval])) (by first | rfl | (simp [Act.eval])) 30 rs hrow (infoPa x u C Z).out (hrs) (pa_one x u C Z) ?_
  have hS2 := hS.store (w.heap.size + 1) 4 30 (by simp) (#[.int .i64 x, .int .i64 u, .int .i64 C, .int .i64 Z]) rfl (by simp) (by simp)
  have hrow2 := setRow_heap _ _ _ (#[.int .i64 x, .int .i64 u, .int .i64 C, .int .i64 Z]) _ _ hrow
  clear hS hrow
  refine hK.out _ _ hS2 (fun hS => ?_)
  clear hK K hS2
  refine wpAnyH_done (by kernel_rfl) ?_ _
  go_wp2_with fail
  refine bodyPost_ret (results_cell_row rfl _ _ (w.heap.size + 1) _ #[.int .i64 x, .int .i64 u, .int .i64 C, .int .i64 Z] _ _ rfl hrow2 Tryz.underlying30 rfl (infoPa x u C Z).out) rfl ?_
  exact ⟨rfl, hS.b⟩
set_option maxRecDepth 100000 in
set_option maxHeartbeats 4000000 in
theorem refEval_no (w : World) (x y r : Int) (h : x < 1 ∨ 60 < x ∨ y < 0 ∨ 1152921504606845789 ≤ y) :
    Calls Tryz.prog 15 #[.agg #[.int .i64 x, .int .i64 y], .int .i64 r] w fun e w' => e = .returned (.agg #[.int .i64 0, .int .i64 0, .int .i64 0, .int .i64 0]) ∧ Below w.heap.size w w' := by
  obtain ⟨W, hW⟩ : ∃ W, (w.alloc (.cells #[.int .i64 x, .int .i64 y] 23)).alloc (.cells #[.int .i64 0, .int .i64 0, .int .i64 0, .int .i64 0] 30) = W := ⟨_, rfl⟩
  have hm : W.heap[w.heap.size + 1]? = some (.cells #[.int .i64 0, .int .i64 0, .int .i64 0, .int .i64 0] 30 (0, 0)) := by
    rw [← hW]
    have := heap_alloc_new (w.alloc (.cells #[.int .i64 x, .int .i64 y] 23)) (.cells #[.int .i64 0, .int .i64 0, .int .i64 0, .int .i64 0] 30)
    rwa [World.size_alloc] at this
  have K0 : CK w [(⟨w.heap.size, 0, none⟩, .int .i64 x), (⟨w.heap.size, 1, none⟩, .int .i64 y)] [] W := by
    have := ((CK.start w).cells #[.int .i64 x, .int .i64 y] 23 _ rfl).next ((Below.refl _ _).alloc (Nat.le_refl _) (.cells #[.int .i64 0, .int .i64 0, .int .i64 0, .int .i64 0] 30))
    rw [hW] at this
    exact this.sub (by simp) (by simp)
  go_enter Tryz.func15, Tryz.ntmps15
  go_upto_region 1 with fail
  clear hW
  have c0 := K0.get ⟨w.heap.size, 0, none⟩ (.int .i64 x) (by simp)
  have c1 := K0.get ⟨w.heap.size, 1, none⟩ (.int .i64 y) (by simp)
  have HB := Lib.hid K0.b; clear K0
  have hp : w.heap.size ≤ w.heap.size + 1 := Nat.le_succ _
  have HP := Lib.hid hp; clear hp
  by_cases h1 : x < 1
  · clear h
    go_wp2_with (refine wpList_store_row rfl 30 (.tmp 4) (.tmp 24) rfl (w.heap.size + 1) #[.int .i64 0, .int .i64 0, .int .i64 0, .int .i64 0] rfl rfl 30 _ hm (infoPa 0 0 0 0).out (pa_size _ _ _ _ _ _ _ _) (pa_one _ _ _ _) ?_)
    refine bodyPost_ret (results_cell_row rfl _ _ (w.heap.size + 1) _ #[.int .i64 0, .int .i64 0, .int .i64 0, .int .i64 0] _ _ rfl (setRow_heap _ _ _ _ _ _ hm) Tryz.underlying30 rfl (infoPa 0 0 0 0).out) rfl ?_
    exact ⟨rfl, Below.setRow' HB.out HP.out _⟩
  by_cases h2 : 60 < x
  · clear h
    go_wp2_with (refine wpList_store_row rfl 30 (.tmp 4) (.tmp 24) rfl (w.heap.size + 1) #[.int .i64 0, .int .i64 0, .int .i64 0, .int .i64 0] rfl rfl 30 _ hm (infoPa 0 0 0 0).out (pa_size _ _ _ _ _ _ _ _) (pa_one _ _ _ _) ?_)
    refine bodyPost_ret (results_cell_row rfl _ _ (w.heap.size + 1) _ #[.int .i64 0, .int .i64 0, .int .i64 0, .int .i64 0] _ _ rfl (setRow_heap _ _ _ _ _ _ hm) Tryz.underlying30 rfl (infoPa 0 0 0 0).out) rfl ?_
    exact ⟨rfl, Below.setRow' HB.out HP.out _⟩
  by_cases h3 : y < 0
  · clear h
    go_wp2_with (refine wpList_store_row rfl 30 (.tmp 4) (.tmp 24) rfl (w.heap.size + 1) #[.int .i64 0, .int .i64 0, .int .i64 0, .int .i64 0] rfl rfl 30 _ hm (infoPa 0 0 0 0).out (pa_size _ _ _ _ _ _ _ _) (pa_one _ _ _ _) ?_)
    refine bodyPost_ret (results_cell_row rfl _ _ (w.heap.size + 1) _ #[.int .i64 0, .int .i64 0, .int .i64 0, .int .i64 0] _ _ rfl (setRow_heap _ _ _ _ _ _ hm) Tryz.underlying30 rfl (infoPa 0 0 0 0).out) rfl ?_
    exact ⟨rfl, Below.setRow' HB.out HP.out _⟩
  have h4 : 1152921504606845789 ≤ y := by omega
  clear h
  go_wp2_with (refine wpList_store_row rfl 30 (.tmp 4) (.tmp 24) rfl (w.heap.size + 1) #[.int .i64 0, .int .i64 0, .int .i64 0, .int .i64 0] rfl rfl 30 _ hm (infoPa 0 0 0 0).out (pa_size _ _ _ _ _ _ _ _) (pa_one _ _ _ _) ?_)
  refine bodyPost_ret (results_cell_row rfl _ _ (w.heap.size + 1) _ #[.int .i64 0, .int .i64 0, .int .i64 0, .int .i64 0] _ _ rfl (setRow_heap _ _ _ _ _ _ hm) Tryz.underlying30 rfl (infoPa 0 0 0 0).out) rfl ?_
  exact ⟨rfl, Below.setRow' HB.out HP.out _⟩
theorem Eval_any (w : World) (x y r : Int) (p : Pa) (h : evl x y r = p) (hx : i64 x) (hy : i64 y) (hr : i64 r) (hT : TS w) :
    Calls Tryz.prog 14 #[.agg #[.int .i64 x, .int .i64 y], .int .i64 r] w fun e w' => e = .returned (pav p) ∧ Below w.heap.size w w' := by
  subst h
  by_cases hc : 1 ≤ x ∧ x ≤ 60 ∧ 0 ≤ y ∧ y < 1152921504606845789
  · rw [evl_yes x y r hc]
    have hb := bs_rng r
    have hbi : i64 (bs r) := ⟨by omega, by omega⟩
    have B1 : ∀ W, Below w.heap.size w W → Calls Tryz.prog 12 #[.int .i64 r] W fun e w' => e = .returned (.int .i64 (bs r)) ∧ Below W.heap.size W w' := fun W b => Base_any W r _ rfl hr (hT.below b)
    have V1 : ∀ W, Below w.heap.size w W → Calls Tryz.prog 38 #[.int .i64 y, .int .i64 4, .int .i64 (bs r)] W fun e w' => e = .returned (pfv (prC y 4 (bs r)) (prZ y 4 (bs r))) ∧ Below W.heap.size W w' := fun W b => Prove_any W y 4 (bs r) hy ⟨by decide, by decide⟩ hbi (hT.below b)
    obtain ⟨u, hu⟩ : ∃ u, pp (bs r) y = u := ⟨_, rfl⟩
    obtain ⟨c9, h9⟩ : ∃ c, prC y 4 (bs r) = c := ⟨_, rfl⟩
    obtain ⟨z9, h8⟩ : ∃ z, prZ y 4 (bs r) = z := ⟨_, rfl⟩
    have P1 : ∀ W, Calls Tryz.prog 21 #[.int .i64 (bs r), .int .i64 y, .int .i64 2305843009213691579] W fun e w' => e = .returned (.int .i64 u) ∧ Below W.heap.size W w' := fun W => pow_k W (bs r) y 2305843009213691579 u ((pp_def (bs r) y).trans hu) hbi.1 hbi.2 hy.2 (by decide)
    rw [h9, h8] at V1
    rw [hu, h9, h8]
    exact Eval_core w x y r (bs r) u c9 z9 hc.1 hc.2.1 hc.2.2.1 hc.2.2.2 (Lib.hid B1) (Lib.hid P1) (Lib.hid V1)
  · rw [evl_no x y r hc]
    exact Eval_no w x y r (by omega)
theorem refEval_any (w : World) (x y r : Int) (p : Pa) (h : evl x y r = p) (hx : i64 x) (hy : i64 y) (hr : i64 r) (hT : TS w) :
    Calls Tryz.prog 15 #[.agg #[.int .i64 x, .int .i64 y], .int .i64 r] w fun e w' => e = .returned (pav p) ∧ Below w.heap.size w w' := by
  subst h
  by_cases hc : 1 ≤ x ∧ x ≤ 60 ∧ 0 ≤ y ∧ y < 1152921504606845789
  · rw [evl_yes x y r hc]
    have hb := bs_rng r
    have hbi : i64 (bs r) := ⟨by omega, by omega⟩
    have B1 : ∀ W, Below w.heap.size w W → Calls Tryz.prog 13 #[.int .i64 r] W fun e w' => e = .returned (.int .i64 (bs r)) ∧ Below W.heap.size W w' := fun W b => refBase_any W r _ rfl hr (hT.below b)
    have V1 : ∀ W, Below w.heap.size w W → Calls Tryz.prog 40 #[.int .i64 y, .int .i64 4, .int .i64 (bs r)] W fun e w' => e = .returned (pfv (prC y 4 (bs r)) (prZ y 4 (bs r))) ∧ Below W.heap.size W w' := fun W b => refProve_any W y 4 (bs r) hy ⟨by decide, by decide⟩ hbi
    obtain ⟨u, hu⟩ : ∃ u, pp (bs r) y = u := ⟨_, rfl⟩
    obtain ⟨c9, h9⟩ : ∃ c, prC y 4 (bs r) = c := ⟨_, rfl⟩
    obtain ⟨z9, h8⟩ : ∃ z, prZ y 4 (bs r) = z := ⟨_, rfl⟩
    have P1 : ∀ W, Calls Tryz.prog 39 #[.int .i64 (bs r), .int .i64 y, .int .i64 2305843009213691579] W fun e w' => e = .returned (.int .i64 u) ∧ Below W.heap.size W w' := fun W => (refPow_b W (bs r) y 2305843009213691579 u ((pp_def (bs r) y).trans hu) hbi hy.2 (by decide)).mono fun _ _ h => ⟨h.1, by rw [h.2]; exact Below.refl _ _⟩
    rw [h9, h8] at V1
    rw [hu, h9, h8]
    exact refEval_core w x y r (bs r) u c9 z9 hc.1 hc.2.1 hc.2.2.1 hc.2.2.2 (Lib.hid B1) (Lib.hid P1) (Lib.hid V1)
  · rw [evl_no x y r hc]
    exact refEval_no w x y r (by omega)
end Go.Proofs.YtbfplapjjeeceaaGreatDoor.B9
