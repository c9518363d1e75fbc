/-
  The walk of the law's sanity: the document's examples.
-/
import Derived.Test.YteccbedmpjeamaaGreatDoorQF
namespace Go.Proofs.YteccbedmpjeamaaGreatDoor
open Go.RowKit NM QM
theorem ok_lit {q : Rat} {g : Bool} {A B : ByteArray} (h : qcells q = rrow g A B) : okq g A B = true ∧ rvq g A B = q := by
  unfold qcells rrow at h
  have h2 := congrArg Array.toList h
  simp only [List.cons.injEq, Value.bool.injEq, Value.string.injEq, and_true] at h2
  obtain ⟨rfl, rfl, rfl⟩ := h2
  exact ⟨okq_QV q, rvq_QV q⟩
theorem NB_lit (n : Nat) (b : UInt8) (h : b.toNat = n) (h0 : n ≠ 0) : NB n = ⟨#[b]⟩ := by
  have e := tz_NB ⟨#[b]⟩
  have hb : b ≠ 0 := by rintro rfl; exact h0 h.symm
  have h1 : sv ⟨#[b]⟩ = n := by rw [← h]; show 256 * 0 + b.toNat = _; omega
  rw [h1] at e
  rw [← e]
  unfold tz
  simp [dz, hb]
theorem lit_12 : qcells (1/2) = rrow false ⟨#[1]⟩ ⟨#[2]⟩ := by
  unfold qcells rrow
  rw [show ((1/2 : Rat)).num = 1 by decide +kernel, show ((1/2 : Rat)).den = 2 by decide +kernel, show (1 : Int).natAbs = 1 from rfl, NB_lit 1 1 rfl (by decide), NB_lit 2 2 rfl (by decide)]
  rfl
theorem lit_13 : qcells (1/3) = rrow false ⟨#[1]⟩ ⟨#[3]⟩ := by
  unfold qcells rrow
  rw [show ((1/3 : Rat)).num = 1 by decide +kernel, show ((1/3 : Rat)).den = 3 by decide +kernel, show (1 : Int).natAbs = 1 from rfl, NB_lit 1 1 rfl (by decide), NB_lit 3 3 rfl (by decide)]
  rfl
theorem lit_01 : qcells 0 = rrow false ⟨#[]⟩ ⟨#[1]⟩ := zc_q
def sl : List T3 := [(false, ⟨#[1]⟩, ⟨#[2]⟩), (false, ⟨#[1]⟩, ⟨#[3]⟩), (false, ⟨#[]⟩, ⟨#[1]⟩)]
theorem sl_good : sl.any badq = false := by
  unfold sl badq
  simp only [List.any_cons, List.any_nil, (ok_lit lit_12).1, (ok_lit lit_13).1, (ok_lit lit_01).1]
  rfl
theorem sl_lcl : lcl sl = 6 := by
  unfold sl lcl rv3
  simp only [List.foldl_cons, List.foldl_nil, (ok_lit lit_12).2, (ok_lit lit_13).2, (ok_lit lit_01).2]
  decide +kernel
theorem sl_wh (j : Nat) (hj : j < 3) : wh sl j = if j = 0 then NB 3 else if j = 1 then NB 2 else NB 0 := by
  match j, hj with
  | 0, _ => unfold wh; rw [sl_lcl]; show NB ((rvq false ⟨#[1]⟩ ⟨#[2]⟩).num.natAbs * (6 / (rvq false ⟨#[1]⟩ ⟨#[2]⟩).den)) = _; rw [(ok_lit lit_12).2, show (1/2 : Rat).num.natAbs * (6 / (1/2 : Rat).den) = 3 by decide +kernel]; rfl
  | 1, _ => unfold wh; rw [sl_lcl]; show NB ((rvq false ⟨#[1]⟩ ⟨#[3]⟩).num.natAbs * (6 / (rvq false ⟨#[1]⟩ ⟨#[3]⟩).den)) = _; rw [(ok_lit lit_13).2, show (1/3 : Rat).num.natAbs * (6 / (1/3 : Rat).den) = 2 by decide +kernel]; rfl
  | 2, _ => unfold wh; rw [sl_lcl]; show NB ((rvq false ⟨#[]⟩ ⟨#[1]⟩).num.natAbs * (6 / (rvq false ⟨#[]⟩ ⟨#[1]⟩).den)) = _; rw [(ok_lit lit_01).2, show (0 : Rat).num.natAbs * (6 / (0 : Rat).den) = 0 by decide +kernel]; rfl
theorem sl_size : SzL 8 sl := by
  intro t ht
  unfold sl at ht
  simp only [List.mem_cons, List.not_mem_nil, or_false] at ht
  rcases ht with rfl | rfl | rfl <;> decide
theorem sl_RL (u : World) (t : TypeId) : RL (u.alloc (.cells #[.bool false, .string ⟨#[1]⟩, .string ⟨#[2]⟩, .bool false, .string ⟨#[1]⟩, .string ⟨#[3]⟩, .bool false, .string ⟨#[]⟩, .string ⟨#[1]⟩] t)) u.heap.size sl := by
  intro i hi
  rw [World.cell?_alloc_at _ _ _ _ rfl, World.cell?_alloc_at _ _ _ _ rfl, World.cell?_alloc_at _ _ _ _ rfl]
  have hi3 : i < 3 := hi
  match i, hi3 with
  | 0, _ => exact ⟨rfl, rfl, rfl⟩
  | 1, _ => exact ⟨rfl, rfl, rfl⟩
  | 2, _ => exact ⟨rfl, rfl, rfl⟩
theorem par_1 : parq ⟨#[54, 47, 52]⟩ = none := by
  have e : parq ⟨#[54, 47, 52]⟩ = parp false true [54] [52] := by decide +kernel
  rw [e]; unfold parp
  rw [if_pos (by decide), if_pos rfl, if_neg]
  rintro ⟨_, _, h⟩
  rw [show dval [54] = 6 by decide, show dval [52] = 4 by decide, okq_pos false 6 4 (by decide) (by decide)] at h
  exact absurd h (by decide)
theorem par_2 : parq ⟨#[45, 48]⟩ = none := by
  have e : parq ⟨#[45, 48]⟩ = parp true false [48] [] := by decide +kernel
  rw [e]; unfold parp
  rw [if_pos (by decide), if_neg (by decide), if_neg]
  rw [show dval [48] = 0 by decide, ← NB_one, okq_zero true 1 (by decide)]
  decide
theorem par_3 : parq ⟨#[51, 47, 49]⟩ = none := by
  have e : parq ⟨#[51, 47, 49]⟩ = parp false true [51] [49] := by decide +kernel
  rw [e]; unfold parp
  rw [if_pos (by decide), if_pos rfl, if_neg]
  rintro ⟨_, h, _⟩
  exact absurd h (by decide)
theorem txt_1 : txq (-3/2) = ⟨#[45, 51, 47, 50]⟩ := by
  unfold txq txh
  rw [show (-3/2 : Rat).num = -3 by decide +kernel, show (-3/2 : Rat).den = 2 by decide +kernel, if_neg (by decide), if_pos (by decide), show (-3 : Int).natAbs = 3 from rfl]
  unfold dtext
  rw [Lib.decDigits_one (by decide), Lib.decDigits_one (by decide)]
  rfl
/-- the numbers, and a list of strings -/
structure KS (w : World) (fs : List (Nat × Array Value)) (g n : Nat) (F : Nat → ByteArray) (W : World) : Prop where
  k : KB w fs W
  s : SC W g n F
  lt : g < W.heap.size
theorem KS.t {w u : World} {fs : List (Nat × Array Value)} {g n : Nat} {F : Nat → ByteArray} (h : KS w fs g n F u) : Tp u := h.k.t
theorem KS.b {w u : World} {fs : List (Nat × Array Value)} {g n : Nat} {F : Nat → ByteArray} (h : KS w fs g n F u) : Below w.heap.size w u := h.k.b
theorem KS.next {w u v : World} {fs : List (Nat × Array Value)} {g n : Nat} {F : Nat → ByteArray} (h : KS w fs g n F u) (k : Below u.heap.size u v) : KS w fs g n F v :=
  ⟨h.k.next k, h.s.below k h.lt, Nat.lt_of_lt_of_le h.lt k.size⟩
theorem KS.push {w u : World} {fs : List (Nat × Array Value)} {g n : Nat} {F : Nat → ByteArray} (h : KS w fs g n F u) (cs : Array Value) : KS w ((u.heap.size, cs) :: fs) g n F (u.alloc (.cells cs 26)) := by
  have k := (Below.refl u.heap.size u).alloc (Nat.le_refl _) (.cells cs 26)
  exact ⟨h.k.push cs, h.s.below k h.lt, Nat.lt_of_lt_of_le h.lt k.size⟩
theorem KS.drew {w u : World} {fs : List (Nat × Array Value)} {g n : Nat} {F : Nat → ByteArray} (h : KS w fs g n F u) : KS w fs g n F u.drew := ⟨h.k.drew, h.s, h.lt⟩
theorem com_sl (W : World) (p : Nat) (hR : RL W p sl) (hp : p < W.heap.size) (hT : Tp W) :
    Calls Tryz.prog 39 #[.slice (some ⟨p, 0, none⟩) 3 3] W fun e w' => ∃ g, g < w'.heap.size ∧ e = .returned (.tuple #[.string (NB 6), .slice (some ⟨g, 0, none⟩) 3 3, .bool true]) ∧ SC w' g 3 (wh sl) ∧ Below W.heap.size W w' := by
  refine (qCommon W p 3 sl 8 hR hp sl_size (by decide) (by decide) (by decide) (by decide) hT.b).mono ?_
  rintro e w' (⟨h, _⟩ | ⟨_, g, _, h2, h3, h4, h5⟩)
  · rw [sl_good] at h; cases h
  · rw [sl_lcl] at h3
    exact ⟨g, h2, h3, h4.sc, h5⟩
theorem same_sl (W : World) (g q : Nat) (h : SC W g 3 (wh sl)) (hg : g < W.heap.size) (hq : q < W.heap.size) (h0 : W.cell? ⟨q, 0, none⟩ = some (.string (NB 3))) (h1 : W.cell? ⟨q, 1, none⟩ = some (.string (NB 2))) (h2 : W.cell? ⟨q, 2, none⟩ = some (.string (NB 0))) :
    Calls Tryz.prog 41 #[.slice (some ⟨g, 0, none⟩) 3 3, .slice (some ⟨q, 0, none⟩) 3 3] W fun e w' => e = .returned (.bool true) ∧ Below W.heap.size W w' := by
  have hs : SC W q 3 (fun j => if j = 0 then NB 3 else if j = 1 then NB 2 else NB 0) := by
    intro j hj
    match j, hj with
    | 0, _ => exact h0
    | 1, _ => exact h1
    | 2, _ => exact h2
  refine (same_any W g q 3 3 3 _ _ h hs hg hq (by decide) (by decide) (by decide)).mono ?_
  rintro e w' ⟨h1, h2⟩
  rw [eqAll_true (fun i hi => sl_wh i hi)] at h1
  exact ⟨h1, h2⟩
theorem kb_start (w : World) (h : Tp w) : KB w [] w := ⟨fun x hx => (by cases hx), Below.refl _ _, h⟩
set_option maxRecDepth 100000 in
set_option maxHeartbeats 16000000 in
theorem sanity_any (w : World) (hT : Tp w) :
    Calls Tryz.prog 10 #[] w fun e w' => e = .returned (.bool true) ∧ Below w.heap.size w w' := by
  have HS0 := Lib.hid (kb_start w hT)
  have q8 : (256 : Nat)^8 = 18446744073709551616 := by decide
  have MK1 := Lib.hid fun W (h : Below w.heap.size w W) => make_yes W true 6 4 8 (by omega) (by omega) (by decide) (by decide) (hT.b.t.below h hT.b.g) (Nat.lt_of_lt_of_le hT.b.g h.size)
  have MK2 := Lib.hid fun W => make_no W false (NB 1) ⟨#[]⟩ (by unfold fitq; rw [show sv ⟨#[]⟩ = 0 from rfl]; simp)
  have sm : SmQ 8 (1/2) ∧ SmQ 8 (-1/4) ∧ SmQ 8 (-1/3) ∧ SmQ 8 (-3/2) := by
    unfold SmQ; rw [q8]; decide +kernel
  have QU := Lib.hid fun W (h : Tp W) => aQuo1 W (1/2) (-1/4) 8 sm.1 sm.2.1 (by decide) (by decide) h (by decide +kernel)
  have F1 := fun W (h : Tp W) => frac_q W 1 2 (1/2) (by decide) (by decide) (by decide +kernel) h
  have F2 := fun W (h : Tp W) => frac_q W 1 3 (1/3) (by decide) (by decide) (by decide +kernel) h
  have F3 := fun W (h : Tp W) => frac_q W 0 1 0 (by decide) (by decide) (by decide +kernel) h
  rw [lit_12] at F1
  rw [lit_13] at F2
  rw [lit_01] at F3
  unfold rrow at F1 F2 F3
  have FH := Lib.hid (And.intro F1 (And.intro F2 F3))
  clear F1 F2 F3
  have E1 := fun W => aEq W (mk true 6 4) (-3/2) (by decide +kernel)
  have E2 := fun W => aEq W ((1/2) + (-1/3)) (1/6) (by decide +kernel)
  have E3 := fun W => aEq W ((1/2)/(-1/4)) (-2) (by decide +kernel)
  have A1 := fun W (h : Tp W) => frac_q W (-3) 2 (-3/2) (by decide) (by decide) (by decide +kernel) h
  have A2 := fun W (h : Tp W) => frac_q W 1 2 (1/2) (by decide) (by decide) (by decide +kernel) h
  have A3 := fun W (h : Tp W) => frac_q W (-1) 3 (-1/3) (by decide) (by decide) (by decide +kernel) h
  have A4 := fun W (h : Tp W) => aAdd W (1/2) (-1/3) 8 sm.1 sm.2.2.1 (by decide) (by decide) h
  have A5 := fun W (h : Tp W) => frac_q W 1 6 (1/6) (by decide) (by decide) (by decide +kernel) h
  have A6 := fun W (h : Tp W) => frac_q W (-2) 1 (-2) (by decide) (by decide) (by decide +kernel) h
  have FR := Lib.hid (And.intro A1 (And.intro A2 (And.intro A3 (And.intro A4 (And.intro A5 A6)))))
  have T1 := fun W (h : Tp W) => aText W (-3/2) 8 sm.2.2.2 (by decide) (by decide) h
  rw [txt_1] at T1
  have TX := Lib.hid T1
  have P1 := fun W (h : Tp W) => qParse W ⟨#[54, 47, 52]⟩ (by decide) h
  have P2 := fun W (h : Tp W) => qParse W ⟨#[45, 48]⟩ (by decide) h
  have P3 := fun W (h : Tp W) => qParse W ⟨#[51, 47, 49]⟩ (by decide) h
  rw [par_1] at P1
  rw [par_2] at P2
  rw [par_3] at P3
  unfold ParqV at P1 P2 P3
  have PA := Lib.hid (And.intro P1 (And.intro P2 P3))
  clear sm q8 A1 A2 A3 A4 A5 A6 T1 P1 P2 P3
  have EH := Lib.hid (And.intro E1 (And.intro E2 E3))
  clear E1 E2 E3
  unfold QV at MK1
  go_enter Tryz.func10, Tryz.ntmps10
  go_wp2_with fail
  refine (rof_q _ 6 (NB 6) rfl (by decide) (by decide)).mono ?_
  rintro e u1 ⟨rfl, b⟩
  have HS1 := Lib.hid (HS0.out.next b)
  clear b
  go_wp2_with fail
  refine (rof_q _ 4 (NB 4) rfl (by decide) (by decide)).mono ?_
  rintro e u2 ⟨rfl, b⟩
  have HS2 := Lib.hid (HS1.out.next b)
  clear b
  go_wp2_with fail
  refine (MK1.out _ HS2.out.b).mono ?_
  rintro e u3 ⟨rfl, b⟩
  have HS3 := Lib.hid (HS2.out.next b)
  clear b
  go_upto_region 2 with (refine wpList_store_row rfl 26 (.tmp 1) (.tmp 22) rfl u3.heap.size (qcells (mk true 6 4)) rfl rfl 26 zrow (heap_alloc_new _ _) info26.out rfl (qone _) ?_)
  change Code.wp _ _ _ _ ((u3.alloc (.cells zrow 26)).setRow u3.heap.size (qcells (mk true 6 4)))
  rw [World.setRow_alloc_new u3 zrow (qcells (mk true 6 4)) 26]
  have hx := HS3.out.push (qcells (mk true 6 4))
  generalize u3.alloc (.cells (qcells (mk true 6 4)) 26) = u4 at *
  obtain ⟨p4, hp⟩ : ∃ p, u3.heap.size = p := ⟨_, rfl⟩
  rw [hp] at hx ⊢
  clear hp
  have HS4 := Lib.hid hx
  clear hx
  go_wp2_with fail
  refine (rof_q _ 1 (NB 1) rfl (by decide) (by decide)).mono ?_
  rintro e u5 ⟨rfl, b⟩
  have HS5 := Lib.hid (HS4.out.next b)
  clear b
  go_wp2_with fail
  refine (rof_q _ 0 ⟨#[]⟩ NB_zero (by decide) (by decide)).mono ?_
  rintro e u6 ⟨rfl, b⟩
  have HS6 := Lib.hid (HS5.out.next b)
  clear b
  go_wp2_with fail
  refine (MK2.out _).mono ?_
  rintro e u7 ⟨rfl, b⟩
  have HS7 := Lib.hid (HS6.out.next b)
  clear b
  go_upto_region 3 with (refine wpList_store_row rfl 26 (.tmp 3) (.tmp 28) rfl u7.heap.size (zrow) rfl rfl 26 zrow (heap_alloc_new _ _) info26.out rfl (zone) ?_)
  change Code.wp _ _ _ _ ((u7.alloc (.cells zrow 26)).setRow u7.heap.size (zrow))
  rw [World.setRow_alloc_new u7 zrow (zrow) 26]
  have hx := HS7.out.push (zrow)
  generalize u7.alloc (.cells (zrow) 26) = u8 at *
  obtain ⟨p8, hp⟩ : ∃ p, u7.heap.size = p := ⟨_, rfl⟩
  rw [hp] at hx ⊢
  clear hp
  have HS8 := Lib.hid hx
  clear hx
  go_wp2_with fail
  refine (frac_q _ (1) 2 (1/2) (by decide) (by decide) (by decide +kernel) HS8.out.t).mono ?_
  rintro e u9 ⟨rfl, b⟩
  have HS9 := Lib.hid (HS8.out.next b)
  clear b
  go_wp2_with fail
  refine (frac_q _ (-1) 4 (-1/4) (by decide) (by decide) (by decide +kernel) HS9.out.t).mono ?_
  rintro e u10 ⟨rfl, b⟩
  have HS10 := Lib.hid (HS9.out.next b)
  clear b
  go_wp2_with fail
  refine (QU.out _ HS10.out.t).mono ?_
  rintro e u11 ⟨rfl, b⟩
  have HS11 := Lib.hid (HS10.out.next b)
  clear b
  go_upto_region 4 with (refine wpList_store_row rfl 26 (.tmp 5) (.tmp 34) rfl u11.heap.size (qcells ((1/2)/(-1/4))) rfl rfl 26 zrow (heap_alloc_new _ _) info26.out rfl (qone _) ?_)
  change Code.wp _ _ _ _ ((u11.alloc (.cells zrow 26)).setRow u11.heap.size (qcells ((1/2)/(-1/4))))
  rw [World.setRow_alloc_new u11 zrow (qcells ((1/2)/(-1/4))) 26]
  have hx := HS11.out.push (qcells ((1/2)/(-1/4)))
  generalize u11.alloc (.cells (qcells ((1/2)/(-1/4))) 26) = u12 at *
  obtain ⟨p12, hp⟩ : ∃ p, u11.heap.size = p := ⟨_, rfl⟩
  rw [hp] at hx ⊢
  clear hp
  have HS12 := Lib.hid hx
  clear hx
  go_wp2_with fail
  refine (FH.out.1 _ HS12.out.t).mono ?_
  rintro e u13 ⟨rfl, b⟩
  have HS13 := Lib.hid (HS12.out.next b)
  clear b
  go_wp2_with fail
  refine (FH.out.2.1 _ HS13.out.t).mono ?_
  rintro e u14 ⟨rfl, b⟩
  have HS14 := Lib.hid (HS13.out.next b)
  clear b
  go_wp2_with fail
  refine (FH.out.2.2 _ HS14.out.t).mono ?_
  rintro e u15 ⟨rfl, b⟩
  have HS15 := Lib.hid (HS14.out.next b)
  clear b
  go_wp2_with fail
  have HX := Lib.hid (And.intro (sl_RL u15 26) (HS15.out.next ((Below.refl u15.heap.size u15).alloc (Nat.le_refl _) (.cells #[.bool false, .string ⟨#[1]⟩, .string ⟨#[2]⟩, .bool false, .string ⟨#[1]⟩, .string ⟨#[3]⟩, .bool false, .string ⟨#[]⟩, .string ⟨#[1]⟩] 26))))
  have hlt : u15.heap.size < (u15.alloc (.cells #[.bool false, .string ⟨#[1]⟩, .string ⟨#[2]⟩, .bool false, .string ⟨#[1]⟩, .string ⟨#[3]⟩, .bool false, .string ⟨#[]⟩, .string ⟨#[1]⟩] 26)).heap.size := by simp
  refine (com_sl _ _ HX.out.1 hlt HX.out.2.t).mono ?_
  rintro e v1 ⟨g, h1, rfl, h3, b⟩
  have HV1 : Hid (KS w [(p12, qcells ((1/2)/(-1/4))), (p8, zrow), (p4, qcells (mk true 6 4))] g 3 (wh sl) v1) := Lib.hid ⟨HX.out.2.next b, h3, h1⟩
  clear b h1 h3 hlt HX
  go_wp2_with fail
  refine (PA.out.1 _ HV1.out.t).mono ?_
  rintro e u16 ⟨rfl, b⟩
  have HS16 := Lib.hid (HV1.out.next b)
  clear b
  go_upto_region 6 with (refine wpList_store_row rfl 26 (.tmp 10) (.tmp 47) rfl u16.heap.size (zrow) rfl rfl 26 zrow (heap_alloc_new _ _) info26.out rfl (zone) ?_)
  change Code.wp _ _ _ _ ((u16.alloc (.cells zrow 26)).setRow u16.heap.size (zrow))
  rw [World.setRow_alloc_new u16 zrow (zrow) 26]
  have hx := HS16.out.push (zrow)
  generalize u16.alloc (.cells (zrow) 26) = u17 at *
  obtain ⟨p17, hp⟩ : ∃ p, u16.heap.size = p := ⟨_, rfl⟩
  rw [hp] at hx ⊢
  clear hp
  have HS17 := Lib.hid hx
  clear hx
  go_wp2_with fail
  refine (PA.out.2.1 _ HS17.out.t).mono ?_
  rintro e u18 ⟨rfl, b⟩
  have HS18 := Lib.hid (HS17.out.next b)
  clear b
  go_upto_region 7 with (refine wpList_store_row rfl 26 (.tmp 12) (.tmp 51) rfl u18.heap.size (zrow) rfl rfl 26 zrow (heap_alloc_new _ _) info26.out rfl (zone) ?_)
  change Code.wp _ _ _ _ ((u18.alloc (.cells zrow 26)).setRow u18.heap.size (zrow))
  rw [World.setRow_alloc_new u18 zrow (zrow) 26]
  have hx := HS18.out.push (zrow)
  generalize u18.alloc (.cells (zrow) 26) = u19 at *
  obtain ⟨p19, hp⟩ : ∃ p, u18.heap.size = p := ⟨_, rfl⟩
  rw [hp] at hx ⊢
  clear hp
  have HS19 := Lib.hid hx
  clear hx
  go_wp2_with fail
  refine (PA.out.2.2 _ HS19.out.t).mono ?_
  rintro e u20 ⟨rfl, b⟩
  have HS20 := Lib.hid (HS19.out.next b)
  clear b
  go_upto_region 8 with (refine wpList_store_row rfl 26 (.tmp 14) (.tmp 55) rfl u20.heap.size (zrow) rfl rfl 26 zrow (heap_alloc_new _ _) info26.out rfl (zone) ?_)
  change Code.wp _ _ _ _ ((u20.alloc (.cells zrow 26)).setRow u20.heap.size (zrow))
  rw [World.setRow_alloc_new u20 zrow (zrow) 26]
  have hx := HS20.out.push (zrow)
  generalize u20.alloc (.cells (zrow) 26) = u21 at *
  obtain ⟨p21, hp⟩ : ∃ p, u20.heap.size = p := ⟨_, rfl⟩
  rw [hp] at hx ⊢
  clear hp
  have HS21 := Lib.hid hx
  clear hx
  go_upto_region 8 with fail
  clear HS0 HS1 HS2 HS3 HS4 HS5 HS6 HS7 HS8 HS9 HS10 HS11 HS12 HS13 HS14 HS15 HS16 HS17 HS18 HS19 HS20 HV1 MK1 MK2 QU FH PA
  have E1 := EH.out.1
  have E2 := EH.out.2.1
  have E3 := EH.out.2.2
  clear EH
  refine wp_region_held_drew (S := KS w [(p21, zrow), (p19, zrow), (p17, zrow), (p12, qcells ((1/2)/(-1/4))), (p8, zrow), (p4, qcells (mk true 6 4))] g 3 (wh sl)) (by kernel_rfl) HS21.out.drew (fun hS => ?_)
  clear HS21
  refine wpAnyH_take (i := 0) (oi := { dst := some 57, op := Op.move (Operand.tmp 2), type := 4, pos := "law.go:26", after := #[], guard := none }) (v := ?vsa0) rfl (by kernel_rfl) (by kernel_rfl) (by kernel_rfl) (fun _ _ _ h => h) (Or.inl ⟨by rfl, ?ysa0⟩) hS ?rsa0
  case ysa0 => (intro w hS; go_simp; try with_reducible rfl)
  go_simp
  refine wpAnyH_take (i := 1) (oi := { dst := some 58, op := Op.move (Operand.tmp 57), type := 4, pos := "law.go:26", after := #[{ on := 0, ground := Ground.data }], guard := none }) (v := ?vsa1) rfl (by kernel_rfl) (by kernel_rfl) (by kernel_rfl) (fun _ _ _ h => h) (Or.inl ⟨by rfl, ?ysa1⟩) hS ?rsa1
  case ysa1 => (intro w hS; go_simp; try with_reducible rfl)
  go_simp
  refine wpAnyH_take (i := 2) (oi := { dst := some 59, op := Op.load 26 (Operand.tmp 1), type := 26, pos := "law.go:26", after := #[{ on := 1, ground := Ground.guard }], guard := some (1, true) }) (v := .agg (qcells (mk true 6 4))) rfl (by kernel_rfl) (by kernel_rfl) (by kernel_rfl) (fun _ _ _ h => h) (Or.inl ⟨by rfl, ?ysa2⟩) hS ?rsa2
  case ysa2 => exact fun w' hS => exec_load_row w' 26 (.tmp 1) rfl p4 (by first | rfl | (simp [Act.eval])) 26 (qcells (mk true 6 4)) (0, 0) _ (hS.k.row (by simp)) Tryz.underlying26 rfl info26.out
  go_simp
  refine wpAnyH_ready (rs := [3]) (by kernel_rfl) (by simp) ?_
  refine AllReadyH.cons (o := { dst := some 60, op := Op.call { callee := Callee.value (Operand.func 44), args := #[Operand.const (Value.int IntKind.i64 (-3)), Operand.const (Value.int IntKind.i64 2)], argTypes := #[3, 3] }, type := 26, pos := "law.go:26", after := #[{ on := 1, ground := Ground.chain }, { on := 1, ground := Ground.guard }], guard := some (1, true) }) rfl (fun K hK => ?_) AllReadyH.nil
  go_simp
  go_at_call 44
  refine (FR.out.1 _ hS.t).mono ?_
  rintro e w' ⟨rfl, b⟩
  have hS2 := hS.next b
  clear b hS
  try go_simp
  refine hK.out _ _ hS2 (fun hS => ?_)
  clear hK K hS2
  refine wpAnyH_take (i := 4) (oi := { dst := some 61, op := Op.binOp BinOp.eql 26 (Operand.tmp 59) (Operand.tmp 60) 26, type := 4, pos := "law.go:26", after := #[{ on := 2, ground := Ground.data }, { on := 3, ground := Ground.data }, { on := 1, ground := Ground.guard }], guard := some (1, true) }) (v := ?vsa4) rfl (by kernel_rfl) (by kernel_rfl) (by kernel_rfl) (fun _ _ _ h => h) (Or.inl ⟨by rfl, ?ysa4⟩) hS ?rsa4
  case ysa4 => (intro w hS; go_simp; try with_reducible rfl)
  go_simp
  refine wpAnyH_take (i := 5) (oi := { dst := some 62, op := Op.pick (Operand.tmp 58) (Operand.tmp 61) (Operand.const (Value.bool false)), type := 4, pos := "law.go:26", after := #[{ on := 1, ground := Ground.data }, { on := 4, ground := Ground.data }], guard := none }) (v := ?vsa5) rfl (by kernel_rfl) (by kernel_rfl) (by kernel_rfl) (fun _ _ _ h => h) (Or.inl ⟨by rfl, ?ysa5⟩) hS ?rsa5
  case ysa5 => (intro w hS; go_simp; try with_reducible rfl)
  go_simp
  refine wpAnyH_take (i := 6) (oi := { dst := some 63, op := Op.move (Operand.tmp 62), type := 4, pos := "law.go:26", after := #[{ on := 5, ground := Ground.data }, { on := 3, ground := Ground.chain }], guard := none }) (v := ?vsa6) rfl (by kernel_rfl) (by kernel_rfl) (by kernel_rfl) (fun _ _ _ h => h) (Or.inl ⟨by rfl, ?ysa6⟩) hS ?rsa6
  case ysa6 => (intro w hS; go_simp; try with_reducible rfl)
  go_simp
  refine wpAnyH_take (i := 7) (oi := { dst := some 64, op := Op.move (Operand.tmp 4), type := 4, pos := "law.go:26", after := #[{ on := 6, ground := Ground.guard }], guard := some (6, true) }) (v := ?vsa7) rfl (by kernel_rfl) (by kernel_rfl) (by kernel_rfl) (fun _ _ _ h => h) (Or.inl ⟨by rfl, ?ysa7⟩) hS ?rsa7
  case ysa7 => (intro w hS; go_simp; try with_reducible rfl)
  go_simp
  refine wpAnyH_take (i := 8) (oi := { dst := some 65, op := Op.unOp UnOp.not 4 (Operand.tmp 64), type := 4, pos := "law.go:26", after := #[{ on := 7, ground := Ground.data }, { on := 6, ground := Ground.guard }], guard := some (6, true) }) (v := ?vsa8) rfl (by kernel_rfl) (by kernel_rfl) (by kernel_rfl) (fun _ _ _ h => h) (Or.inl ⟨by rfl, ?ysa8⟩) hS ?rsa8
  case ysa8 => (intro w hS; go_simp; try with_reducible rfl)
  go_simp
  refine wpAnyH_take (i := 9) (oi := { dst := some 66, op := Op.pick (Operand.tmp 63) (Operand.tmp 65) (Operand.const (Value.bool false)), type := 4, pos := "law.go:26", after := #[{ on := 6, ground := Ground.data }, { on := 8, ground := Ground.data }], guard := none }) (v := ?vsa9) rfl (by kernel_rfl) (by kernel_rfl) (by kernel_rfl) (fun _ _ _ h => h) (Or.inl ⟨by rfl, ?ysa9⟩) hS ?rsa9
  case ysa9 => (intro w hS; go_simp; try with_reducible rfl)
  go_simp
  refine wpAnyH_take (i := 10) (oi := { dst := some 67, op := Op.move (Operand.tmp 66), type := 4, pos := "law.go:26", after := #[{ on := 9, ground := Ground.data }, { on := 6, ground := Ground.chain }], guard := none }) (v := ?vsa10) rfl (by kernel_rfl) (by kernel_rfl) (by kernel_rfl) (fun _ _ _ h => h) (Or.inl ⟨by rfl, ?ysa10⟩) hS ?rsa10
  case ysa10 => (intro w hS; go_simp; try with_reducible rfl)
  go_simp
  refine wpAnyH_ready (rs := [11]) (by kernel_rfl) (by simp) ?_
  refine AllReadyH.cons (o := { dst := some 68, op := Op.call { callee := Callee.value (Operand.func 44), args := #[Operand.const (Value.int IntKind.i64 1), Operand.const (Value.int IntKind.i64 2)], argTypes := #[3, 3] }, type := 26, pos := "law.go:26", after := #[{ on := 10, ground := Ground.chain }, { on := 10, ground := Ground.guard }], guard := some (10, true) }) rfl (fun K hK => ?_) AllReadyH.nil
  go_simp
  go_at_call 44
  refine (FR.out.2.1 _ hS.t).mono ?_
  rintro e w' ⟨rfl, b⟩
  have hS2 := hS.next b
  clear b hS
  try go_simp
  refine hK.out _ _ hS2 (fun hS => ?_)
  clear hK K hS2
  refine wpAnyH_ready (rs := [12]) (by kernel_rfl) (by simp) ?_
  refine AllReadyH.cons (o := { dst := some 69, op := Op.call { callee := Callee.value (Operand.func 44), args := #[Operand.const (Value.int IntKind.i64 (-1)), Operand.const (Value.int IntKind.i64 3)], argTypes := #[3, 3] }, type := 26, pos := "law.go:26", after := #[{ on := 11, ground := Ground.chain }, { on := 10, ground := Ground.guard }], guard := some (10, true) }) rfl (fun K hK => ?_) AllReadyH.nil
  go_simp
  go_at_call 44
  refine (FR.out.2.2.1 _ hS.t).mono ?_
  rintro e w' ⟨rfl, b⟩
  have hS2 := hS.next b
  clear b hS
  try go_simp
  refine hK.out _ _ hS2 (fun hS => ?_)
  clear hK K hS2
  refine wpAnyH_ready (rs := [13]) (by kernel_rfl) (by simp) ?_
  refine AllReadyH.cons (o := { dst := some 70, op := Op.call { callee := Callee.value (Operand.func 14), args := #[Operand.tmp 68, Operand.tmp 69], argTypes := #[26, 26] }, type := 26, pos := "law.go:26", after := #[{ on := 11, ground := Ground.data }, { on := 12, ground := Ground.data }, { on := 12, ground := Ground.chain }, { on := 10, ground := Ground.guard }], guard := some (10, true) }) rfl (fun K hK => ?_) AllReadyH.nil
  go_simp
  go_at_call 14
  refine (FR.out.2.2.2.1 _ hS.t).mono ?_
  rintro e w' ⟨rfl, b⟩
  have hS2 := hS.next b
  clear b hS
  try go_simp
  refine hK.out _ _ hS2 (fun hS => ?_)
  clear hK K hS2
  refine wpAnyH_ready (rs := [14]) (by kernel_rfl) (by simp) ?_
  refine AllReadyH.cons (o := { dst := some 71, op := Op.call { callee := Callee.value (Operand.func 44), args := #[Operand.const (Value.int IntKind.i64 1), Operand.const (Value.int IntKind.i64 6)], argTypes := #[3, 3] }, type := 26, pos := "law.go:26", after := #[{ on := 13, ground := Ground.chain }, { on := 10, ground := Ground.guard }], guard := some (10, true) }) rfl (fun K hK => ?_) AllReadyH.nil
  go_simp
  go_at_call 44
  refine (FR.out.2.2.2.2.1 _ hS.t).mono ?_
  rintro e w' ⟨rfl, b⟩
  have hS2 := hS.next b
  clear b hS
  try go_simp
  refine hK.out _ _ hS2 (fun hS => ?_)
  clear hK K hS2
  refine wpAnyH_take (i := 15) (oi := { dst := some 72, op := Op.binOp BinOp.eql 26 (Operand.tmp 70) (Operand.tmp 71) 26, type := 4, pos := "law.go:26", after := #[{ on := 13, ground := Ground.data }, { on := 14, ground := Ground.data }, { on := 10, ground := Ground.guard }], guard := some (10, true) }) (v := ?vsa15) rfl (by kernel_rfl) (by kernel_rfl) (by kernel_rfl) (fun _ _ _ h => h) (Or.inl ⟨by rfl, ?ysa15⟩) hS ?rsa15
  case ysa15 => (intro w hS; go_simp; try with_reducible rfl)
  go_simp
  refine wpAnyH_take (i := 16) (oi := { dst := some 73, op := Op.pick (Operand.tmp 67) (Operand.tmp 72) (Operand.const (Value.bool false)), type := 4, pos := "law.go:26", after := #[{ on := 10, ground := Ground.data }, { on := 15, ground := Ground.data }], guard := none }) (v := ?vsa16) rfl (by kernel_rfl) (by kernel_rfl) (by kernel_rfl) (fun _ _ _ h => h) (Or.inl ⟨by rfl, ?ysa16⟩) hS ?rsa16
  case ysa16 => (intro w hS; go_simp; try with_reducible rfl)
  go_simp
  refine wpAnyH_take (i := 17) (oi := { dst := some 74, op := Op.move (Operand.tmp 73), type := 4, pos := "law.go:26", after := #[{ on := 16, ground := Ground.data }, { on := 14, ground := Ground.chain }], guard := none }) (v := ?vsa17) rfl (by kernel_rfl) (by kernel_rfl) (by kernel_rfl) (fun _ _ _ h => h) (Or.inl ⟨by rfl, ?ysa17⟩) hS ?rsa17
  case ysa17 => (intro w hS; go_simp; try with_reducible rfl)
  go_simp
  refine wpAnyH_take (i := 18) (oi := { dst := some 75, op := Op.move (Operand.tmp 6), type := 4, pos := "law.go:26", after := #[{ on := 17, ground := Ground.guard }], guard := some (17, true) }) (v := ?vsa18) rfl (by kernel_rfl) (by kernel_rfl) (by kernel_rfl) (fun _ _ _ h => h) (Or.inl ⟨by rfl, ?ysa18⟩) hS ?rsa18
  case ysa18 => (intro w hS; go_simp; try with_reducible rfl)
  go_simp
  refine wpAnyH_take (i := 19) (oi := { dst := some 76, op := Op.pick (Operand.tmp 74) (Operand.tmp 75) (Operand.const (Value.bool false)), type := 4, pos := "law.go:26", after := #[{ on := 17, ground := Ground.data }, { on := 18, ground := Ground.data }], guard := none }) (v := ?vsa19) rfl (by kernel_rfl) (by kernel_rfl) (by kernel_rfl) (fun _ _ _ h => h) (Or.inl ⟨by rfl, ?ysa19⟩) hS ?rsa19
  case ysa19 => (intro w hS; go_simp; try with_reducible rfl)
  go_simp
  refine wpAnyH_take (i := 20) (oi := { dst := some 77, op := Op.move (Operand.tmp 76), type := 4, pos := "law.go:26", after := #[{ on := 19, ground := Ground.data }, { on := 17, ground := Ground.chain }], guard := none }) (v := ?vsa20) rfl (by kernel_rfl) (by kernel_rfl) (by kernel_rfl) (fun _ _ _ h => h) (Or.inl ⟨by rfl, ?ysa20⟩) hS ?rsa20
  case ysa20 => (intro w hS; go_simp; try with_reducible rfl)
  go_simp
  refine wpAnyH_take (i := 21) (oi := { dst := some 78, op := Op.load 26 (Operand.tmp 5), type := 26, pos := "law.go:26", after := #[{ on := 20, ground := Ground.guard }], guard := some (20, true) }) (v := .agg (qcells ((1/2)/(-1/4)))) rfl (by kernel_rfl) (by kernel_rfl) (by kernel_rfl) (fun _ _ _ h => h) (Or.inl ⟨by rfl, ?ysa21⟩) hS ?rsa21
  case ysa21 => exact fun w' hS => exec_load_row w' 26 (.tmp 5) rfl p12 (by first | rfl | (simp [Act.eval])) 26 (qcells ((1/2)/(-1/4))) (0, 0) _ (hS.k.row (by simp)) Tryz.underlying26 rfl info26.out
  go_simp
  refine wpAnyH_ready (rs := [22]) (by kernel_rfl) (by simp) ?_
  refine AllReadyH.cons (o := { dst := some 79, op := Op.call { callee := Callee.value (Operand.func 44), args := #[Operand.const (Value.int IntKind.i64 (-2)), Operand.const (Value.int IntKind.i64 1)], argTypes := #[3, 3] }, type := 26, pos := "law.go:26", after := #[{ on := 20, ground := Ground.chain }, { on := 20, ground := Ground.guard }], guard := some (20, true) }) rfl (fun K hK => ?_) AllReadyH.nil
  go_simp
  go_at_call 44
  refine (FR.out.2.2.2.2.2 _ hS.t).mono ?_
  rintro e w' ⟨rfl, b⟩
  have hS2 := hS.next b
  clear b hS
  try go_simp
  refine hK.out _ _ hS2 (fun hS => ?_)
  clear hK K hS2
  refine wpAnyH_take (i := 23) (oi := { dst := some 80, op := Op.binOp BinOp.eql 26 (Operand.tmp 78) (Operand.tmp 79) 26, type := 4, pos := "law.go:26", after := #[{ on := 21, ground := Ground.data }, { on := 22, ground := Ground.data }, { on := 20, ground := Ground.guard }], guard := some (20, true) }) (v := ?vsa23) rfl (by kernel_rfl) (by kernel_rfl) (by kernel_rfl) (fun _ _ _ h => h) (Or.inl ⟨by rfl, ?ysa23⟩) hS ?rsa23
  case ysa23 => (intro w hS; go_simp; try with_reducible rfl)
  go_simp
  refine wpAnyH_take (i := 24) (oi := { dst := some 81, op := Op.pick (Operand.tmp 77) (Operand.tmp 80) (Operand.const (Value.bool false)), type := 4, pos := "law.go:26", after := #[{ on := 20, ground := Ground.data }, { on := 23, ground := Ground.data }], guard := none }) (v := ?vsa24) rfl (by kernel_rfl) (by kernel_rfl) (by kernel_rfl) (fun _ _ _ h => h) (Or.inl ⟨by rfl, ?ysa24⟩) hS ?rsa24
  case ysa24 => (intro w hS; go_simp; try with_reducible rfl)
  go_simp
  refine wpAnyH_take (i := 25) (oi := { dst := some 16, op := Op.assign (Operand.tmp 81), type := 4, pos := "law.go:26", after := #[{ on := 24, ground := Ground.data }, { on := 22, ground := Ground.chain }, { on := 0, ground := Ground.phase }, { on := 1, ground := Ground.phase }, { on := 2, ground := Ground.phase }, { on := 3, ground := Ground.phase }, { on := 4, ground := Ground.phase }, { on := 5, ground := Ground.phase }, { on := 6, ground := Ground.phase }, { on := 7, ground := Ground.phase }, { on := 8, ground := Ground.phase }, { on := 9, ground := Ground.phase }, { on := 10, ground := Ground.phase }, { on := 11, ground := Ground.phase }, { on := 12, ground := Ground.phase }, { on := 13, ground := Ground.phase }, { on := 14, ground := Ground.phase }, { on := 15, ground := Ground.phase }, { on := 16, ground := Ground.phase }, { on := 17, ground := Ground.phase }, { on := 18, ground := Ground.phase }, { on := 19, ground := Ground.phase }, { on := 20, ground := Ground.phase }, { on := 21, ground := Ground.phase }, { on := 22, ground := Ground.phase }, { on := 23, ground := Ground.phase }, { on := 24, ground := Ground.phase }], guard := none }) (v := ?vsa25) rfl (by kernel_rfl) (by kernel_rfl) (by kernel_rfl) (fun _ _ _ h => h) (Or.inl ⟨by rfl, ?ysa25⟩) hS ?rsa25
  case ysa25 => (intro w hS; go_simp; try with_reducible rfl)
  refine wpAnyH_done (by kernel_rfl) ?_ _
  have HT0 := Lib.hid hS
  clear hS E1 E2 E3
  go_wp2_with fail
  refine (rof_q _ 6 (NB 6) rfl (by decide) (by decide)).mono ?_
  rintro e u22 ⟨rfl, b⟩
  have HS22 := Lib.hid (HT0.out.next b)
  clear b
  go_wp2_with fail
  refine (rof_q _ 3 (NB 3) rfl (by decide) (by decide)).mono ?_
  rintro e u23 ⟨rfl, b⟩
  have HS23 := Lib.hid (HS22.out.next b)
  clear b
  go_wp2_with fail
  refine (rof_q _ 2 (NB 2) rfl (by decide) (by decide)).mono ?_
  rintro e u24 ⟨rfl, b⟩
  have HS24 := Lib.hid (HS23.out.next b)
  clear b
  go_wp2_with fail
  refine (rof_q _ 0 (NB 0) rfl (by decide) (by decide)).mono ?_
  rintro e u25 ⟨rfl, b⟩
  have HS25 := Lib.hid (HS24.out.next b)
  clear b
  go_wp2_with fail
  have hx := HS25.out.next ((Below.refl u25.heap.size u25).alloc (Nat.le_refl _) (.cells #[.string (NB 3), .string (NB 2), .string (NB 0)] 24))
  refine (same_sl _ g u25.heap.size hx.s hx.lt (by simp) (World.cell?_alloc_at _ _ _ _ rfl) (World.cell?_alloc_at _ _ _ _ rfl) (World.cell?_alloc_at _ _ _ _ rfl)).mono ?_
  rintro e y1 ⟨rfl, b⟩
  have HY := Lib.hid (hx.next b)
  clear b hx
  go_wp2_with fail
  refine (FR.out.1 _ HY.out.t).mono ?_
  rintro e u26 ⟨rfl, b⟩
  have HS26 := Lib.hid (HY.out.next b)
  clear b
  go_wp2_with fail
  refine (TX.out _ HS26.out.t).mono ?_
  rintro e u27 ⟨rfl, b⟩
  have HS27 := Lib.hid (HS26.out.next b)
  clear b
  go_wp2
  go_ret
  exact ⟨rfl, HS27.out.b⟩
end Go.Proofs.YteccbedmpjeamaaGreatDoor
