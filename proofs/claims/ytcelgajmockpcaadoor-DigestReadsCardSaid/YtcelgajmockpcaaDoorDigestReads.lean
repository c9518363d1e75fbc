/-
  The law DigestReads: the row's statement and its card.
-/
import Derived.Test.YtcelgajmockpcaaDoorOpenHash
import Derived.Test.YtcelgajmockpcaaDoorCards
import Derived.Test.YtcelgajmockpcaaDoorTie
import Derived.WalkKit
import Derived.ProofKit
import Derived.OpenShut
import Derived.Deep.DeepHandedRow
import Derived.Deep.DeepWitnessRowRef
import Derived.Lib.LaidTab
import Derived.Lay
import Derived.WideKeyPair
import Derived.WideKeyArr2
import Derived.ChangeMaps5
import Derived.Carry
import Derived.MakeChecks
import Derived.Stop.LaidErr
namespace Go.Proofs.YtcelgajmockpcaaDoor.digestReads
open Go.ChangeShapes Go.WideShapes Go.ChangeAt Go.RowKit Go.WideMaps SH
theorem own : ownKnob Tryd.prog.godebug = none := by kernel_rfl
theorem laidOut : laidOutB Tryd.prog = true := by kernel_rfl
theorem cells32 : Tryd.prog.cellsOf 43 = 1 := by kernel_rfl
theorem arrH : ArrKey Tryd.prog 23 5 32 := ⟨Tryd.underlying23, by kernel_rfl, by kernel_rfl, by kernel_rfl⟩
theorem arr : ArrKey Tryd.prog 24 3 2 := ⟨Tryd.underlying24, by kernel_rfl, by kernel_rfl, by kernel_rfl⟩
def zs8 : List Int := square.l.map fun (n : Nat) => (n : Int)
def zs64 : List Int := cube.map fun (n : Nat) => (n : Int)
theorem met {W : World} (h : laidMetH Tryd.prog Rows.digestReadsRow.laid W) : laidMet Tryd.prog Rows.digestReadsRow.laid W := by
  have e : (Rows.digestReadsRow.laid.filter fun x => x.2.handleName?.isSome) = [] := by kernel_rfl
  unfold laidMetH at h
  rw [e] at h
  exact h
theorem data8 : (Rows.laid_sortes_digest_squareRoots : DataW Unit) = Lib.tabData .u32 zs8 := by kernel_rfl
theorem data64 : (Rows.laid_sortes_digest_cubeRoots : DataW Unit) = Lib.tabData .u32 zs64 := by kernel_rfl
theorem sq {W : World} (h1 : laidMet Tryd.prog Rows.digestReadsRow.laid W) : SQ W := by
  have h1 : laidMet Tryd.prog (("sortes/digest.squareRoots", Rows.laid_sortes_digest_squareRoots) :: [("sortes/digest.cubeRoots", Rows.laid_sortes_digest_cubeRoots)]) W := h1
  rw [data8] at h1
  have hT := Lib.tabIs_of_head (P := Tryd.prog) (W := W) (name := "sortes/digest.squareRoots") (k := .u32) (zs := zs8) (g := 0) (t := 44) (e := 43) (n := 8) (by kernel_rfl) (by kernel_rfl) Tryd.underlying44 Tryd.underlying43 cells32 (by kernel_rfl) h1
  unfold Lib.TabIs World.var? at hT
  rw [show Tryd.prog.globalNamed "sortes/digest.squareRoots" = some 0 by kernel_rfl] at hT
  simp only [Option.bind_some] at hT
  split at hT
  · rename_i cs t fr hh
    refine ⟨t, fr, ?_⟩
    rw [hh]
    have : cs = cw square.l := by rw [Option.some.inj hT]; rfl
    rw [this]
  · cases hT
theorem cb {W : World} (h : laidMet Tryd.prog Rows.digestReadsRow.laid W) : CB W := by
  have h1 := laidMet.tail h
  rw [data64] at h1
  have hT := Lib.tabIs_of_head (P := Tryd.prog) (W := W) (name := "sortes/digest.cubeRoots") (k := .u32) (zs := zs64) (g := 1) (t := 54) (e := 43) (n := 64) (by kernel_rfl) (by kernel_rfl) Tryd.underlying54 Tryd.underlying43 cells32 (by kernel_rfl) h1
  intro j hj
  have := hT.cell (g := 1) (by kernel_rfl) j (by rw [show zs64.length = 64 from rfl]; exact hj)
  rw [this]
  have h2 : zs64.getD j 0 = ((gw cube j : Nat) : Int) := by
    have : ∀ j, j < 64 → zs64.getD j 0 = ((gw cube j : Nat) : Int) := by decide +kernel
    exact this j hj
  rw [h2]
theorem tb {W : World} (h : laidMet Tryd.prog Rows.digestReadsRow.laid W) : TB W := ⟨sq h, cb h⟩
set_option maxRecDepth 100000 in
theorem contract (H : Type) (enc : TypeId × Value → H) (W : World) (base : Nat) (args : Array Value) (ds gs : List (DataW H)) (before : List MemPlace)
    (hval : ∀ (j : Nat) t v, Tryd.f3.params[j]? = some t → args[j]? = some v → Value.okWide Tryd.prog W .any base t v)
    (hW : DataW.Whole enc Tryd.prog Tryd.f3.params.toList Rows.digestReadsSpec.vars false W args.toList ds gs before) (hL : laidMetH Tryd.prog Rows.digestReadsRow.laid W) :
    Calls Tryd.prog 3 args W fun e W' => ∃ v, e = .returned v ∧ Rows.digestReadsSpec.post enc Tryd.prog Tryd.f3 false true false false W args v W' := by
  have hW' := hW
  obtain ⟨p, q, hA0, hV, rfl, hfz, hnd⟩ := hW
  have hA : DataW.TrodAll enc Tryd.prog W 0 (fun _ => true) true Tryd.f3.params.toList args.toList ds p := hA0
  rw [Tryd.params3] at hA hval
  obtain ⟨v0, vs0, d0, ds0, p0, q0, hargs, rfl, rfl, h0, r0⟩ := trodAll_cons hA
  obtain ⟨v1, vs1, d1, ds1, p1, q1, rfl, rfl, rfl, h1, r1⟩ := trodAll_cons r0
  obtain ⟨v2, vs2, d2, ds2, p2, q2, rfl, rfl, rfl, h2, r2⟩ := trodAll_cons r1
  obtain ⟨rfl, rfl, rfl⟩ := trodAll_nil r2
  obtain rfl : args = #[v0, v1, v2] := by cases args; simp_all
  obtain ⟨rfl, rfl⟩ := trodVars_none hV
  obtain ⟨l0, hl0, rfl⟩ := open_hash arrH Tryd.underlying5 (by kernel_rfl) (hval 0 _ v0 rfl rfl) h0
  obtain ⟨a1, b1, rfl, rfl, rfl, wa1, wb1⟩ := open_pair arr Tryd.underlying3 (hval 1 _ v1 rfl rfl) h1
  obtain ⟨s2, rfl, rfl, rfl, w2⟩ := Go.ChangeMaps.open_string Tryd.underlying9 (hval 2 _ v2 rfl rfl) h2
  have bna1 := bounds_i64 wa1
  have bnb1 := bounds_i64 wb1
  clear hA0
  try simp only [List.append_nil, List.nil_append] at hW'
  have hm := met hL
  have hlt : ∀ x ∈ p0, x.block < W.heap.size := fun x hx => by simpa using hW'.lt x hx
  refine (reads_walk W l0 hl0 a1 b1 bna1 bnb1 s2 (tb hm)).mono fun e W' ⟨he, hB⟩ => ?_
  subst he
  have k0 := Below.trod laidOut (by kernel_rfl) (of_decide_eq_true (by kernel_rfl)) h0 hB (fun x hx => hlt x (by simp [hx]))
  exact ⟨_, rfl, ⟨_, _, _, [], _, [], hW', trodAll_mk1 (shut_bool Tryd.underlying4 true), (trodAll_cons_mk k0 (trodAll_cons_mk (shut_pair arr Tryd.underlying3 wa1 wb1) (trodAll_cons_mk (Go.ChangeMaps.shut_string Tryd.underlying9 w2) trodAll_mk0))), rfl, hB.frame _, fun h => by cases h⟩⟩
/-- the world of the witness: the listed variables as their text lays them -/
noncomputable def start (os : Os) : World := World.laidAll Tryd.prog os Rows.digestReadsRow.laid
theorem start_met (os : Os) : laidMet Tryd.prog Rows.digestReadsRow.laid ((start os).forCall (fun _ _ => 0) ⟨#[], #[.agg (Array.replicate 32 (.int .u8 0)), .agg #[.int .i64 0, .int .i64 0], .string ⟨#[]⟩], []⟩).memory :=
  laidMet_laidAll _ (by kernel_rfl) (by kernel_rfl)
theorem reads (os : Os) {H : Type} (enc : TypeId × Value → H) : ∃ places, DataW.whole enc Tryd.prog ((start os).forCall (fun _ _ => 0) ⟨#[], #[.agg (Array.replicate 32 (.int .u8 0)), .agg #[.int .i64 0, .int .i64 0], .string ⟨#[]⟩], []⟩).memory Tryd.f3.params.toList Rows.digestReadsSpec.vars false #[Value.agg (Array.replicate 32 (.int .u8 0)), .agg #[.int .i64 0, .int .i64 0], .string ⟨#[]⟩].toList 8 = some ([.agg (List.replicate 32 (.lit (.int .u8 0))), .agg [.lit (.int .i64 0), .lit (.int .i64 0)], .lit (.string [])], [], places) :=
  ⟨[], by kernel_rfl⟩
set_option maxRecDepth 100000 in
theorem lifted (os : Os) (started : os.Started) (H : Type) (enc : TypeId × Value → H) (F : Stop.Interp) :
    ReturnsInHanded {} Tryd.checked os 3 .any ((OpenSpec.ofChange Rows.digestReadsSpec).preRow enc Tryd.prog Tryd.f3 Rows.digestReadsRow.domain false Rows.digestReadsRow.laid) (((OpenSpec.ofChange Rows.digestReadsSpec).at F).post enc Tryd.prog Tryd.f3 false true false false) := by
  obtain ⟨places, hx⟩ := reads os enc
  refine returnsInHanded_of_row (C := Tryd.checked) (s := OpenSpec.ofChange Rows.digestReadsSpec) own started (by kernel_rfl) Tryd.func3
    (witness_row_at (enc := enc) (C := Tryd.checked) false (start os) #[.agg (Array.replicate 32 (.int .u8 0)), .agg #[.int .i64 0, .int .i64 0], .string ⟨#[]⟩] rfl (by kernel_rfl) (by kernel_rfl) (by kernel_rfl)
      (OpenSpec.preRow_of_cond 8 hx (by kernel_rfl) (fun k hk => by cases hk) (by kernel_rfl) (start_met os))) ?_
  intro W base args ds gs before hval hW _ _ _ hL _ _
  exact contract H enc W base args ds gs before hval hW hL
theorem said : Rows.DigestReadsSaid :=
  OpenClaim.holds_of_cond 3 Tryd.f3 rfl rfl rfl rfl rfl rfl rfl ⟨rfl, rfl, rfl, rfl, rfl⟩ rfl rfl rfl rfl rfl (by kernel_rfl) Tryd.func3 (by kernel_rfl)
    (of_decide_eq_true (by kernel_rfl)) (by unfold Func.isWrapper; first | (rw [if_pos (by decide +kernel)]; kernel_rfl) | (rw [if_neg (by decide +kernel)]; exact ⟨rfl, rfl⟩))
    (fun os started H enc _ F => by rw [OpenClaim.pre_eq_preRow]; exact lifted os started H enc F)
theorem plain (f : FuncId) (fn : Func) (hf : Tryd.pinned.checked.prog.funcNamed "sortes/sorteslaw03.DigestReads" = some f) (hfn : Tryd.pinned.checked.prog.funcs[f]? = some fn) :
    false = Tryd.pinned.checked.prog.looks [] ∧ ∀ (j : Nat) t, fn.params[j]? = some t → Tryd.pinned.checked.prog.wantsStandIn t = false := by
  obtain rfl : f = 3 := Option.some.inj ((show Tryd.prog.funcNamed "sortes/sorteslaw03.DigestReads" = some 3 by kernel_rfl).symm.trans hf) |>.symm
  obtain rfl : fn = Tryd.f3 := (Option.some.inj (Tryd.func3.symm.trans hfn)).symm
  refine ⟨by kernel_rfl, fun j t ht => ?_⟩
  rw [Tryd.params3] at ht
  have hmem := Array.mem_of_getElem? ht
  simp at hmem
  rcases hmem with rfl | rfl | rfl
  · exact (show Tryd.prog.wantsStandIn 23 = false by kernel_rfl)
  · exact (show Tryd.prog.wantsStandIn 24 = false by kernel_rfl)
  · exact (show Tryd.prog.wantsStandIn 9 = false by kernel_rfl)
/-- the card of DigestReads -/
theorem card : Rows.DigestReadsCardSaid :=
  Claim7.holds_tied_plain_at .later [] _ _ _ _ said (fun _ h => by cases h) (by kernel_rfl) (fun _ h => by cases h) digestReads_row_tie rfl ⟨rfl, rfl⟩ (by kernel_rfl) rfl plain (by kernel_rfl)
end Go.Proofs.YtcelgajmockpcaaDoor.digestReads
