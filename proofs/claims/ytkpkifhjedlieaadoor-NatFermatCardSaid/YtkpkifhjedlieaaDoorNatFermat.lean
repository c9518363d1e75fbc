/-
  The law NatFermat: the row's statement and its card.
-/
import Derived.Test.YtkpkifhjedlieaaDoorFermat
import Derived.Test.YtkpkifhjedlieaaDoorCards
import Derived.Test.YtkpkifhjedlieaaDoorTie
import Derived.WalkKit
import Derived.ProofKit
import Derived.OpenShut
import Derived.Deep.DeepHandedRow
import Derived.Deep.DeepWitnessRowRef
import Derived.Lib.LaidTab
import Derived.Lay
import Derived.WideKeyPair
import Derived.Carry
import Derived.MakeChecks
import Derived.Stop.LaidErr
namespace Go.Proofs.YtkpkifhjedlieaaDoor.natFermat
open Go.ChangeShapes Go.WideShapes Go.ChangeAt Go.RowKit Go.WideMaps NM
theorem own : ownKnob Tryd.prog.godebug = none := by kernel_rfl
theorem laidOut : laidOutB Tryd.prog = true := by kernel_rfl
theorem cells1 : Tryd.prog.cellsOf 5 = 1 := by kernel_rfl
theorem cells64 : Tryd.prog.cellsOf 56 = 1 := by kernel_rfl
theorem arr : ArrKey Tryd.prog 38 37 2 := ⟨Tryd.underlying38, by kernel_rfl, by kernel_rfl, by kernel_rfl⟩
set_option maxRecDepth 100000 in
theorem barg_of {H : Type} {enc : TypeId × Value → H} {W : World} {v : Value} {d : DataW H} {p : List MemPlace} {base : Nat} (h : DataW.Trod enc Tryd.prog W 0 (fun _ => true) true 22 v d p) (hok : Value.okWide Tryd.prog W .any base 22 v) :
    ∃ A, BArg W 24 v A := by
  obtain ⟨a0, len, cap, rfl⟩ := okWide_slice Tryd.underlying22 hok
  obtain ⟨fuel, hf⟩ := h
  rcases open_ints Tryd.underlying22 Tryd.underlying5 cells1 hf with ⟨hcs, _⟩ | ⟨a, len', cap', zs, hcs, _, hl, hm, hz, _, hcell, _⟩
  · simp [Value.cells] at hcs
    obtain ⟨rfl, rfl, rfl⟩ := hcs
    exact ⟨ByteArray.empty, by decide, none, 0, 0, 0, rfl, by decide, Nat.le_refl _, Nat.le_refl _, fun W' _ =>
      run_convert_bytes_nil (P := Tryd.prog) W' 22 5 Tryd.underlying22 Tryd.underlying5 0 0 24 Tryd.underlying24⟩
  · simp [Value.cells] at hcs
    obtain ⟨rfl, rfl, rfl⟩ := hcs
    simp only [if_true] at hz
    by_cases hl0 : len = 0
    · subst hl0
      exact ⟨⟨([] : List UInt8).toArray⟩, by decide, some a, 0, cap, 0, rfl, by decide, Nat.zero_le _, Nat.le_refl _, fun W' _ =>
        run_convert_bytes_back (P := Tryd.prog) W' 22 24 5 a cap [] Tryd.underlying22 Tryd.underlying5 Tryd.underlying24 (fun j hj => absurd hj (Nat.not_lt_zero _))⟩
    · obtain ⟨b, off, spot⟩ := a
      have hspot : spot = none := by simpa [Addr.add] using World.cell?_spot (hcell 0 (by omega))
      subst hspot
      have hcell' : ∀ j, j < zs.length → W.cell? ⟨b, off + j, none⟩ = some (.int .u8 (zs.getD j 0)) := fun j hj => by rw [← Lib.add_plain]; exact hcell j hj
      have hbW : b < W.heap.size := World.block_lt_of_cell? _ _ (hcell' 0 (by omega))
      obtain ⟨m, hmm⟩ : ∃ m, m = min len 24 := ⟨_, rfl⟩
      refine ⟨strOfNums (zs.take m), by rw [strOfNums_size, List.length_take]; omega, some ⟨b, off, none⟩, len, cap, m, rfl, by omega, by omega, by omega, fun W' hB => ?_⟩
      exact run_convert_bytes_arg (P := Tryd.prog) W' 22 5 Tryd.underlying22 Tryd.underlying5 b off m cap (zs.take m) (by rw [List.length_take]; omega)
        (fun i hi => by
          rw [(hB.cell (p := ⟨b, off + i, none⟩) hbW).trans (hcell' i (by omega))]
          congr 2
          rw [List.getD_eq_getElem?_getD, List.getD_eq_getElem?_getD, List.getElem?_take_of_lt hi]) 24 Tryd.underlying24
def z64 : List Int := Lib.deBruijn64tab.map fun (n : Nat) => (n : Int)
theorem z64_at : ∀ j, j < 64 → z64.getD j 0 = ((Lib.deBruijn64tab.getD j 0 : Nat) : Int) := by decide
theorem met {W : World} (h : laidMetH Tryd.prog Rows.natFermatRow.laid W) : laidMet Tryd.prog Rows.natFermatRow.laid W := by
  have e : (Rows.natFermatRow.laid.filter fun x => x.2.handleName?.isSome) = [] := by kernel_rfl
  unfold laidMetH at h
  rw [e] at h
  exact h
theorem data64 : (Rows.laid_math_bits_deBruijn64tab : DataW Unit) = Lib.tabData .u8 z64 := by kernel_rfl
theorem data10 : (Rows.laid_internal_strconv_uint64pow10 : DataW Unit) = Lib.tabData .u64 Lib.pow10Tab := by kernel_rfl
theorem db {W : World} (h : laidMet Tryd.prog Rows.natFermatRow.laid W) : DB W := by
  have h1 := laidMet.tail h
  rw [data64] at h1
  have hT := Lib.tabIs_of_head (P := Tryd.prog) (W := W) (name := "math/bits.deBruijn64tab") (k := .u8) (zs := z64) (g := 2) (t := 120) (e := 5) (n := 64) (by kernel_rfl) (by kernel_rfl) Tryd.underlying120 Tryd.underlying5 cells1 (by kernel_rfl) h1
  intro j hj
  have := hT.cell (g := 2) (by kernel_rfl) j (by simpa [z64] using hj)
  rw [this, z64_at j hj]
theorem p10 {W : World} (h : laidMet Tryd.prog Rows.natFermatRow.laid W) : P10 W := by
  have h1 := laidMet.tail (laidMet.tail h)
  rw [data10] at h1
  exact Lib.tabIs_of_head (P := Tryd.prog) (W := W) (name := "internal/strconv.uint64pow10") (k := .u64) (zs := Lib.pow10Tab) (g := 3) (t := 123) (e := 56) (n := 20) (by kernel_rfl) (by kernel_rfl) Tryd.underlying123 Tryd.underlying56 cells64 (by kernel_rfl) h1
set_option maxRecDepth 100000 in
theorem contract (H : Type) (enc : TypeId × Value → H) (W : World) (base : Nat) (args : Array Value) (ds gs : List (DataW H)) (before : List MemPlace)
    (hval : ∀ (j : Nat) t v, Tryd.f5.params[j]? = some t → args[j]? = some v → Value.okWide Tryd.prog W .any base t v)
    (hW : DataW.Whole enc Tryd.prog Tryd.f5.params.toList Rows.natFermatSpec.vars false W args.toList ds gs before) (hL : laidMetH Tryd.prog Rows.natFermatRow.laid W) :
    Calls Tryd.prog 5 args W fun e W' => ∃ v, e = .returned v ∧ Rows.natFermatSpec.post enc Tryd.prog Tryd.f5 false true false false W args v W' := by
  have hW' := hW
  obtain ⟨p, q, hA0, hV, rfl, hfz, hnd⟩ := hW
  have hA : DataW.TrodAll enc Tryd.prog W 0 (fun _ => true) true Tryd.f5.params.toList args.toList ds p := hA0
  rw [Tryd.params5] at hA hval
  obtain ⟨v0, vs0, d0, ds0, p0, q0, hargs, rfl, rfl, h0, r0⟩ := trodAll_cons hA
  obtain ⟨v1, vs1, d1, ds1, p1, q1, rfl, rfl, rfl, h1, r1⟩ := trodAll_cons r0
  obtain ⟨v2, vs2, d2, ds2, p2, q2, rfl, rfl, rfl, h2, r2⟩ := trodAll_cons r1
  obtain ⟨rfl, rfl, rfl⟩ := trodAll_nil r2
  obtain rfl : args = #[v0, v1, v2] := by cases args; simp_all
  obtain ⟨rfl, rfl⟩ := trodVars_none hV
  obtain ⟨a0, b0, rfl, rfl, rfl, wa, wb⟩ := open_pair arr Tryd.underlying37 (hval 1 _ v1 rfl rfl) h1
  clear hA0
  simp only [List.append_nil, List.nil_append] at hW'
  have hlt : ∀ x ∈ p0 ++ p2, x.block < W.heap.size := fun x hx => by simpa using hW'.lt x hx
  have hm := met hL
  have c64 : ∃ u, W.cell? ⟨2, 0, none⟩ = some u := ⟨_, db hm 0 (by decide)⟩
  have g64 : 2 < W.heap.size := by obtain ⟨u, hu⟩ := c64; exact World.block_lt_of_cell? _ _ hu
  have c10 := (p10 hm).cell (g := 3) (by kernel_rfl) 0 (by decide)
  have g10 : 3 < W.heap.size := World.block_lt_of_cell? _ _ c10
  obtain ⟨A, bA⟩ := barg_of h0 (hval 0 _ v0 rfl rfl)
  obtain ⟨Z, bZ⟩ := barg_of h2 (hval 2 _ v2 rfl rfl)
  have bu0 := bounds_u32 wa
  have bu1 := bounds_u32 wb
  obtain ⟨e0, rfl⟩ : ∃ n : Nat, a0 = (n : Int) := ⟨a0.toNat, by omega⟩
  obtain ⟨e1, rfl⟩ : ∃ n : Nat, b0 = (n : Int) := ⟨b0.toNat, by omega⟩
  refine (fermat_walk W v0 v2 A Z e0 e1 (by omega) (by omega) bA bZ (db hm) g64 (p10 hm) g10).mono fun e W' ⟨he, hB⟩ => ?_
  subst he
  have k0 := Below.trod laidOut (by kernel_rfl) (of_decide_eq_true (by kernel_rfl)) h0 hB (fun x hx => hlt x (by simp [hx]))
  have k2 := Below.trod laidOut (by kernel_rfl) (of_decide_eq_true (by kernel_rfl)) h2 hB (fun x hx => hlt x (by simp [hx]))
  exact ⟨_, rfl, ⟨_, _, _, [], _, [], hW', trodAll_mk1 (shut_bool Tryd.underlying4 true), trodAll_cons_mk k0 (trodAll_cons_mk (shut_pair arr Tryd.underlying37 wa wb) (trodAll_cons_mk k2 trodAll_mk0)), rfl, hB.frame _, fun h => by cases h⟩⟩
/-- the world of the witness: the listed variables as their text lays them -/
noncomputable def start (os : Os) : World := World.laidAll Tryd.prog os Rows.natFermatRow.laid
theorem start_met (os : Os) : laidMet Tryd.prog Rows.natFermatRow.laid ((start os).forCall (fun _ _ => 0) ⟨#[], #[.slice none 0 0, .agg #[.int .u32 0, .int .u32 0], .slice none 0 0], []⟩).memory :=
  laidMet_laidAll _ (by kernel_rfl) (by kernel_rfl)
theorem reads (os : Os) {H : Type} (enc : TypeId × Value → H) : ∃ places, DataW.whole enc Tryd.prog ((start os).forCall (fun _ _ => 0) ⟨#[], #[.slice none 0 0, .agg #[.int .u32 0, .int .u32 0], .slice none 0 0], []⟩).memory Tryd.f5.params.toList Rows.natFermatSpec.vars false #[Value.slice none 0 0, .agg #[.int .u32 0, .int .u32 0], .slice none 0 0].toList 8 = some ([.nil, .agg [.lit (.int .u32 0), .lit (.int .u32 0)], .nil], [], places) :=
  ⟨[], by kernel_rfl⟩
set_option maxRecDepth 100000 in
theorem lifted (os : Os) (started : os.Started) (H : Type) (enc : TypeId × Value → H) (F : Stop.Interp) :
    ReturnsInHanded {} Tryd.checked os 5 .any ((OpenSpec.ofChange Rows.natFermatSpec).preRow enc Tryd.prog Tryd.f5 Rows.natFermatRow.domain false Rows.natFermatRow.laid) (((OpenSpec.ofChange Rows.natFermatSpec).at F).post enc Tryd.prog Tryd.f5 false true false false) := by
  obtain ⟨places, hx⟩ := reads os enc
  refine returnsInHanded_of_row (C := Tryd.checked) (s := OpenSpec.ofChange Rows.natFermatSpec) own started (by kernel_rfl) Tryd.func5
    (witness_row_at (enc := enc) (C := Tryd.checked) false (start os) #[.slice none 0 0, .agg #[.int .u32 0, .int .u32 0], .slice none 0 0] rfl (by kernel_rfl) (by kernel_rfl) (by kernel_rfl)
      (OpenSpec.preRow_of_cond 8 hx (by kernel_rfl) (fun k hk => by cases hk) (by kernel_rfl) (start_met os))) ?_
  intro W base args ds gs before hval hW _ _ _ hL _ _
  exact contract H enc W base args ds gs before hval hW hL
theorem said : Rows.NatFermatSaid :=
  OpenClaim.holds_of_cond 5 Tryd.f5 rfl rfl rfl rfl rfl rfl rfl ⟨rfl, rfl, rfl, rfl, rfl⟩ rfl rfl rfl rfl rfl (by kernel_rfl) Tryd.func5 (by kernel_rfl)
    (of_decide_eq_true (by kernel_rfl)) (by unfold Func.isWrapper; first | (rw [if_pos (by decide +kernel)]; kernel_rfl) | (rw [if_neg (by decide +kernel)]; exact ⟨rfl, rfl⟩))
    (fun os started H enc _ F => by rw [OpenClaim.pre_eq_preRow]; exact lifted os started H enc F)
theorem plain (f : FuncId) (fn : Func) (hf : Tryd.pinned.checked.prog.funcNamed "sortes/sorteslaw01.NatFermat" = some f) (hfn : Tryd.pinned.checked.prog.funcs[f]? = some fn) :
    false = Tryd.pinned.checked.prog.looks [] ∧ ∀ (j : Nat) t, fn.params[j]? = some t → Tryd.pinned.checked.prog.wantsStandIn t = false := by
  obtain rfl : f = 5 := Option.some.inj ((show Tryd.prog.funcNamed "sortes/sorteslaw01.NatFermat" = some 5 by kernel_rfl).symm.trans hf) |>.symm
  obtain rfl : fn = Tryd.f5 := (Option.some.inj (Tryd.func5.symm.trans hfn)).symm
  refine ⟨by kernel_rfl, fun j t ht => ?_⟩
  rw [Tryd.params5] at ht
  have hmem := Array.mem_of_getElem? ht
  simp at hmem
  rcases hmem with rfl | rfl | rfl
  · exact (show Tryd.prog.wantsStandIn 22 = false by kernel_rfl)
  · exact (show Tryd.prog.wantsStandIn 38 = false by kernel_rfl)
  · exact (show Tryd.prog.wantsStandIn 22 = false by kernel_rfl)
/-- the card of NatFermat -/
theorem card : Rows.NatFermatCardSaid :=
  Claim7.holds_tied_plain_at .later [] _ _ _ _ said (fun _ h => by cases h) (by kernel_rfl) (fun _ h => by cases h) natFermat_row_tie rfl ⟨rfl, rfl⟩ (by kernel_rfl) rfl plain (by kernel_rfl)
end Go.Proofs.YtkpkifhjedlieaaDoor.natFermat
