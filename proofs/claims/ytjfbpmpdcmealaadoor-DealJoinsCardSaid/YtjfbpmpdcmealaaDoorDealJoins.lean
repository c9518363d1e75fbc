/-
  The law DealJoins: the law returns true for every input, and its arguments read as before. The row's statement and its card. No condition but that the listed variables hold what the program's text lays.
-/
import Derived.Test.YtjfbpmpdcmealaaDoorDJoinB
import Derived.Test.YtjfbpmpdcmealaaDoorDIn
import Derived.Test.YtjfbpmpdcmealaaDoorDVars
import Derived.Test.YtjfbpmpdcmealaaDoorCards
import Derived.Test.YtjfbpmpdcmealaaDoorTie
import Derived.WalkKit
import Derived.SizedLaws
import Derived.ProofKit
import Derived.OpenShut
import Derived.Deep.DeepHandedRow
import Derived.Deep.DeepWitnessRowRef
import Derived.Lib.LaidTab
import Derived.Lay
import Derived.WideKeyPair
import Derived.WideKeyArr2
import Derived.ChangeMaps5
import Derived.Carry
import Derived.MakeChecks
import Derived.Stop.LaidErr
import Derived.Shelf.Vars
import Derived.Lib.SmallJoins
import Derived.ChangeSlices
namespace Go.Proofs.YtjfbpmpdcmealaaDoor.dealJoins
open Go.ChangeShapes Go.WideShapes Go.ChangeAt Go.RowKit Go.WideMaps SH Go.Proofs.YtjfbpmpdcmealaaDoor.G4 Go.Proofs.YtjfbpmpdcmealaaDoor.E6 Go.Proofs.YtjfbpmpdcmealaaDoor.D7
theorem own : ownKnob Tryd.prog.godebug = none := by kernel_rfl
theorem laidOut : laidOutB Tryd.prog = true := by kernel_rfl
theorem met {W : World} (h : laidMetH Tryd.prog Rows.dealJoinsRow.laid W) : laidMet Tryd.prog Rows.dealJoinsRow.laid W := by
  have e : (Rows.dealJoinsRow.laid.filter fun x => x.2.handleName?.isSome) = [] := by kernel_rfl
  unfold laidMetH at h
  rw [e] at h
  exact h
theorem ts {W : World} (h : laidMet Tryd.prog Rows.dealJoinsRow.laid W) (hsh : W.ShapedOpen Tryd.prog) : TS W := ts_of (show laidMet Tryd.prog (("math/bits.deBruijn32tab", Rows.laid_math_bits_deBruijn32tab) :: ("math/bits.deBruijn64tab", Rows.laid_math_bits_deBruijn64tab) :: ("internal/strconv.uint64pow10", Rows.laid_internal_strconv_uint64pow10) :: ("sortes/digest.squareRoots", Rows.laid_sortes_digest_squareRoots) :: [("sortes/digest.cubeRoots", Rows.laid_sortes_digest_cubeRoots)]) W from h)
set_option maxRecDepth 100000 in
theorem contract (H : Type) (enc : TypeId × Value → H) (W : World) (base : Nat) (args : Array Value) (ds gs : List (DataW H)) (before : List MemPlace)
    (hval : ∀ (j : Nat) t v, Tryd.f3.params[j]? = some t → args[j]? = some v → Value.okWide Tryd.prog W .any base t v)
    (hW : DataW.Whole enc Tryd.prog Tryd.f3.params.toList Rows.dealJoinsSpec.vars false W args.toList ds gs before) (hL : laidMetH Tryd.prog Rows.dealJoinsRow.laid W) (hsh : W.ShapedOpen Tryd.prog)
    (hsz : (DataW.weightsEach Tryd.prog (Tryd.f3.params.toList ++ (OpenSpec.ofChange Rows.dealJoinsSpec).bare.plain.varTypes Tryd.prog) (ds ++ gs)).all (· ≤ reachBytes) = true) :
    Calls Tryd.prog 3 args W fun e W' => ∃ v, e = .returned v ∧ Rows.dealJoinsSpec.post enc Tryd.prog Tryd.f3 false true false false W args v W' := by
  have hW' := hW
  obtain ⟨p, q, hA0, hV, rfl, hfz, hnd⟩ := hW
  have hA : DataW.TrodAll enc Tryd.prog W 0 (fun _ => true) true Tryd.f3.params.toList args.toList ds p := hA0
  rw [Tryd.params3] at hA hval hsz
  obtain ⟨v0, vs0, d0, ds0, p0, q0, hargs, rfl, rfl, h0, r0⟩ := trodAll_cons hA
  obtain ⟨v1, vs1, d1, ds1, p1, q1, rfl, rfl, rfl, h1, r1⟩ := trodAll_cons r0
  obtain ⟨rfl, rfl, rfl⟩ := trodAll_nil r1
  obtain rfl : args = #[v0, v1] := by cases args; simp_all
  obtain ⟨rfl, rfl⟩ := trodVars_none hV
  clear hA0
  try simp only [List.append_nil] at hW'
  try simp only [List.nil_append] at hW'
  have hlt : ∀ x ∈ p0 ++ (p1), x.block < W.heap.size := fun x hx => by simpa using hW'.lt x (by simpa using hx)
  have k0 := fun (V : World) (hB : Below W.heap.size W V) => Below.trod laidOut (by kernel_rfl) (of_decide_eq_true (by kernel_rfl)) h0 hB (fun x hx => hlt x (by simp [hx]))
  have k1 := fun (V : World) (hB : Below W.heap.size W V) => Below.trod laidOut (by kernel_rfl) (of_decide_eq_true (by kernel_rfl)) h1 hB (fun x hx => hlt x (by simp [hx]))
  obtain ⟨pv0, pv1, pv2, py0, py1, py2, pn, e0, e0d, _, ph0, ph1, ph2⟩ := Go.Joins.open_agg3 Tryd.underlying24 (by kernel_rfl) (by kernel_rfl) (hval 0 24 v0 rfl rfl) h0
  subst e0
  obtain ⟨lS, hlS⟩ := al_trod ph0
  obtain ⟨lC, hlC⟩ := al_trod ph1
  obtain ⟨sd, eD, esd, wS⟩ := DataW.trod_string Tryd.underlying9 ph2
  obtain rfl := (List.cons.inj eD).1
  have hsd : sd.size ≤ 140737488355300 := by
    have := sized_third hsz (j := 0) (t := 24) (bytes := sd.data.toList) rfl (by subst e0d; subst esd; rfl) Tryd.underlying24
    rw [Array.length_toList] at this
    have h2 : sd.data.size = sd.size := rfl
    simp only [reachBytes] at this
    omega
  obtain ⟨a1, e1, _, _, w1⟩ := open_int Tryd.underlying5 (hval 1 5 v1 rfl rfl) h1
  subst e1
  have bn1 := bounds_u8 w1
  have hm := ts (met hL) hsh
  refine (join_law W _ _ lS lC sd a1 hlS hlC hsd bn1 hm).mono fun e W' ⟨he, hB⟩ => ?_
  subst he
  exact ⟨_, rfl, ⟨_, _, _, [], _, [], hW', trodAll_mk1 (shut_bool Tryd.underlying4 true), (trodAll_cons_mk (k0 W' hB) (trodAll_cons_mk (k1 W' hB) trodAll_mk0)), rfl, hB.frame _, fun h => by cases h⟩⟩
/-- the world of the witness: the listed variables as their text lays them -/
noncomputable def start (os : Os) : World := World.laidAll Tryd.prog os Rows.dealJoinsRow.laid
theorem start_met (os : Os) : laidMet Tryd.prog Rows.dealJoinsRow.laid ((start os).forCall (fun _ _ => 0) ⟨#[], #[.agg #[.slice none 0 0, .slice none 0 0, .string ⟨#[]⟩], .int .u8 0], []⟩).memory :=
  laidMet_laidAll _ (by kernel_rfl) (by kernel_rfl)
theorem reads (os : Os) {H : Type} (enc : TypeId × Value → H) : ∃ places, DataW.whole enc Tryd.prog ((start os).forCall (fun _ _ => 0) ⟨#[], #[.agg #[.slice none 0 0, .slice none 0 0, .string ⟨#[]⟩], .int .u8 0], []⟩).memory Tryd.f3.params.toList Rows.dealJoinsSpec.vars false #[Value.agg #[.slice none 0 0, .slice none 0 0, .string ⟨#[]⟩], .int .u8 0].toList 8 = some ([.agg [.nil, .nil, .lit (.string [])], .lit (.int .u8 0)], [], places) :=
  ⟨[], by kernel_rfl⟩
set_option maxRecDepth 100000 in
theorem lifted (os : Os) (started : os.Started) (H : Type) (enc : TypeId × Value → H) (F : Stop.Interp) :
    ReturnsInHanded {} Tryd.checked os 3 .any ((OpenSpec.ofChange Rows.dealJoinsSpec).preRow enc Tryd.prog Tryd.f3 Rows.dealJoinsRow.domain false Rows.dealJoinsRow.laid) (((OpenSpec.ofChange Rows.dealJoinsSpec).at F).post enc Tryd.prog Tryd.f3 false true false false) := by
  obtain ⟨places, hx⟩ := reads os enc
  refine returnsInHanded_of_row (C := Tryd.checked) (s := OpenSpec.ofChange Rows.dealJoinsSpec) own started (by kernel_rfl) Tryd.func3
    (witness_row_at (enc := enc) (C := Tryd.checked) false (start os) #[.agg #[.slice none 0 0, .slice none 0 0, .string ⟨#[]⟩], .int .u8 0] rfl (by kernel_rfl) (by kernel_rfl) (by kernel_rfl)
      (OpenSpec.preRow_of_cond 8 hx (by kernel_rfl) (fun k hk => by cases hk) (by kernel_rfl) (start_met os))) ?_
  intro W base args ds gs before hval hW _ _ hsz hL hsh _
  exact contract H enc W base args ds gs before hval hW hL hsh hsz
theorem said : Rows.DealJoinsSaid :=
  OpenClaim.holds_of_cond 3 Tryd.f3 rfl rfl rfl rfl rfl rfl rfl ⟨rfl, rfl, rfl, rfl, rfl⟩ rfl rfl rfl rfl rfl (by kernel_rfl) Tryd.func3 (by kernel_rfl)
    (of_decide_eq_true (by kernel_rfl)) (by unfold Func.isWrapper; first | (rw [if_pos (by decide +kernel)]; kernel_rfl) | (rw [if_neg (by decide +kernel)]; exact ⟨rfl, rfl⟩))
    (fun os started H enc _ F => by rw [OpenClaim.pre_eq_preRow]; exact lifted os started H enc F)
theorem plain (f : FuncId) (fn : Func) (hf : Tryd.pinned.checked.prog.funcNamed "sortes/sorteslaw07.DealJoins" = some f) (hfn : Tryd.pinned.checked.prog.funcs[f]? = some fn) :
    false = Tryd.pinned.checked.prog.looks [] ∧ ∀ (j : Nat) t, fn.params[j]? = some t → Tryd.pinned.checked.prog.wantsStandIn t = false := by
  obtain rfl : f = 3 := Option.some.inj ((show Tryd.prog.funcNamed "sortes/sorteslaw07.DealJoins" = some 3 by kernel_rfl).symm.trans hf) |>.symm
  obtain rfl : fn = Tryd.f3 := (Option.some.inj (Tryd.func3.symm.trans hfn)).symm
  refine ⟨by kernel_rfl, fun j t ht => ?_⟩
  rw [Tryd.params3] at ht
  have hmem := Array.mem_of_getElem? ht
  simp at hmem
  have h2 : t = 24 ∨ t = 5 := by first | exact hmem | omega | (rcases hmem with h | h | h <;> simp [h])
  rcases h2 with rfl | rfl
  · exact (show Tryd.prog.wantsStandIn 24 = false by kernel_rfl)
  · exact (show Tryd.prog.wantsStandIn 5 = false by kernel_rfl)
/-- the card of DealJoins -/
theorem card : Rows.DealJoinsCardSaid :=
  Claim7.holds_tied_plain_at .later [] _ _ _ _ said (fun _ h => by cases h) (by kernel_rfl) (fun _ h => by cases h) dealJoins_row_tie rfl ⟨rfl, rfl⟩ (by kernel_rfl) rfl plain (by kernel_rfl)
end Go.Proofs.YtjfbpmpdcmealaaDoor.dealJoins
