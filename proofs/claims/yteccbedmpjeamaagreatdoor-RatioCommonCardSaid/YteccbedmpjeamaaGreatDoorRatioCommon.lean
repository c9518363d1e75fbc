/-
  The law RatioCommon: the law returns true for every input, and its arguments read as before. The row's statement and its card. No condition but that the listed variables hold what the program's text lays.
-/
import Derived.Test.YteccbedmpjeamaaGreatDoorQComW
import Derived.Test.YteccbedmpjeamaaGreatDoorGThree
import Derived.Test.YteccbedmpjeamaaGreatDoorQM
import Derived.ChangeSlices
import Derived.Test.YteccbedmpjeamaaGreatDoorRows
import Derived.Test.YteccbedmpjeamaaGreatDoorCards
import Derived.Test.YteccbedmpjeamaaGreatDoorTie
import Derived.WalkKit
import Derived.ProofKit
import Derived.OpenShut
import Derived.Deep.DeepHandedRow
import Derived.Deep.DeepWitnessRowRef
import Derived.Deep.Strs
import Derived.Lib.LaidTab
import Derived.Lay
import Derived.WideKeyPair
import Derived.WideKeyArr2
import Derived.ChangeMaps5
import Derived.Carry
import Derived.MakeChecks
import Derived.Stop.LaidErr
import Derived.Shelf.Vars
namespace Go.Proofs.YteccbedmpjeamaaGreatDoor.ratioCommon
open Go.ChangeShapes Go.WideShapes Go.ChangeAt Go.RowKit Go.WideMaps Go.Proofs.YteccbedmpjeamaaGreatDoor
theorem own : ownKnob Tryz.prog.godebug = none := by kernel_rfl
theorem laidOut : laidOutB Tryz.prog = true := by kernel_rfl
theorem cells1 : Tryz.prog.cellsOf 5 = 1 := by kernel_rfl
theorem cells64 : Tryz.prog.cellsOf 95 = 1 := by kernel_rfl
theorem arr3 : ArrKey Tryz.prog 22 3 3 := ⟨Tryz.underlying22, by kernel_rfl, by kernel_rfl, by kernel_rfl⟩
def z64 : List Int := Lib.deBruijn64tab.map fun (n : Nat) => (n : Int)
theorem z64_at : ∀ j, j < 64 → z64.getD j 0 = ((Lib.deBruijn64tab.getD j 0 : Nat) : Int) := by decide
theorem met {W : World} (h : laidMetH Tryz.prog Rows.ratioCommonRow.laid W) : laidMet Tryz.prog Rows.ratioCommonRow.laid W := by
  have e : (Rows.ratioCommonRow.laid.filter fun x => x.2.handleName?.isSome) = [] := by kernel_rfl
  unfold laidMetH at h
  rw [e] at h
  exact h
theorem data64 : (Rows.laid_math_bits_deBruijn64tab : DataW Unit) = Lib.tabData .u8 z64 := by kernel_rfl
theorem data10 : (Rows.laid_internal_strconv_uint64pow10 : DataW Unit) = Lib.tabData .u64 Lib.pow10Tab := by kernel_rfl
theorem db {W : World} (h : laidMet Tryz.prog Rows.ratioCommonRow.laid W) : DB W := by
  have h1 := laidMet.tail h
  rw [data64] at h1
  have hT := Lib.tabIs_of_head (P := Tryz.prog) (W := W) (name := "math/bits.deBruijn64tab") (k := .u8) (zs := z64) (g := 5) (t := 165) (e := 5) (n := 64) (by kernel_rfl) (by kernel_rfl) Tryz.underlying165 Tryz.underlying5 cells1 (by kernel_rfl) h1
  intro j hj
  have := hT.cell (g := 5) (by kernel_rfl) j (by simpa [z64] using hj)
  rw [this, z64_at j hj]
theorem p10 {W : World} (h : laidMet Tryz.prog Rows.ratioCommonRow.laid W) : P10 W := by
  have h1 := laidMet.tail (laidMet.tail h)
  rw [data10] at h1
  exact Lib.tabIs_of_head (P := Tryz.prog) (W := W) (name := "internal/strconv.uint64pow10") (k := .u64) (zs := Lib.pow10Tab) (g := 4) (t := 159) (e := 95) (n := 20) (by kernel_rfl) (by kernel_rfl) Tryz.underlying159 Tryz.underlying95 cells64 (by kernel_rfl) h1
theorem str_of {s : ByteArray} {l : List UInt8} (h : s.data.toList = l) : s = ⟨l.toArray⟩ := by
  cases s with | mk a =>
  congr 1
  exact Array.ext' h
theorem row_of3 {cs : Array Value} {v0 v1 v2 : Value} (h3 : cs.size = 3) (h0 : (cs.toList.drop 0).take 1 = [v0]) (h1 : (cs.toList.drop 1).take 1 = [v1]) (h2 : (cs.toList.drop 2).take 1 = [v2]) : cs = #[v0, v1, v2] := by
  rcases cs with ⟨l⟩
  match l, h3 with
  | [u0, u1, u2], _ =>
    simp at h0 h1 h2
    rw [h0, h1, h2]
theorem zq {W : World} (h : laidMet Tryz.prog Rows.ratioCommonRow.laid W) : ZQ W := by
  have h1 := laidMet.tail (laidMet.tail (laidMet.tail (laidMet.tail h)))
  obtain ⟨ps, ⟨g', t', cs, fuel, p, q, hg', ht', hvar, hd, _, _⟩, _⟩ := h1
  obtain rfl := Option.some.inj ((show Tryz.prog.globalNamed "sortes/ratio.zero" = some 0 by kernel_rfl).symm.trans hg')
  obtain rfl := Option.some.inj ((show (Tryz.prog.globals[0]?).map (·.type) = some 26 by kernel_rfl).symm.trans ht')
  obtain ⟨y0, y1, y2, n, hx, hl, e0, e1, e2⟩ := Go.Deep.trod_struct3 Tryz.underlying26 hd
  obtain ⟨b, hb, rfl⟩ := DataW.trod_bool Tryz.underlying4 e0
  obtain ⟨s1, hs1, rfl, _⟩ := DataW.trod_string Tryz.underlying24 e1
  obtain ⟨s2, hs2, rfl, _⟩ := DataW.trod_string Tryz.underlying24 e2
  have hx2 : (DataW.agg [.lit (.bool false), .lit (.string []), .lit (.string [1])] : DataW Unit) = .agg [.lit (.bool b), .lit (.string s1.data.toList), .lit (.string s2.data.toList)] := (Prod.mk.inj hx).1
  simp only [DataW.agg.injEq, List.cons.injEq, DataW.lit.injEq, Lit.bool.injEq, Lit.string.injEq, and_true] at hx2
  obtain ⟨hb2, h1s, h2s⟩ := hx2
  have hc3 : cs.size = 3 := by
    have hk : Tryz.prog.cellsOf 26 = 3 := by kernel_rfl
    rw [hk] at hl; simpa using hl
  have hk4 : Tryz.prog.cellsOf 4 = 1 := by kernel_rfl
  have hk24 : Tryz.prog.cellsOf 24 = 1 := by kernel_rfl
  have hb' : (cs.toList.drop 0).take (Tryz.prog.cellsOf 4) = [.bool b] := hb
  have hs1' : (cs.toList.drop 1).take (Tryz.prog.cellsOf 24) = [.string s1] := hs1
  have hs2' : (cs.toList.drop 2).take (Tryz.prog.cellsOf 24) = [.string s2] := hs2
  rw [hk4] at hb'
  rw [hk24] at hs1' hs2'
  have hcs : cs = #[.bool b, .string s1, .string s2] := row_of3 hc3 hb' hs1' hs2'
  have hc := fun i => World.var?_cell (P := Tryz.prog) (show Tryz.prog.globalNamed "sortes/ratio.zero" = some 0 by kernel_rfl) hvar i
  rw [hcs] at hc
  refine ⟨(hc 0).trans ?_, (hc 1).trans ?_, (hc 2).trans ?_⟩
  · rw [← hb2]; rfl
  · rw [str_of h1s.symm]; rfl
  · rw [str_of h2s.symm]; rfl
theorem tp {W : World} (h : laidMet Tryz.prog Rows.ratioCommonRow.laid W) (hsh : W.ShapedOpen Tryz.prog) : Tp W := by
  have c64 : ∃ u, W.cell? ⟨5, 0, none⟩ = some u := ⟨_, db h 0 (by decide)⟩
  have g64 : 5 < W.heap.size := by obtain ⟨u, hu⟩ := c64; exact World.block_lt_of_cell? _ _ hu
  have c10 := (p10 h).cell (g := 4) (by kernel_rfl) 0 (by decide)
  exact ⟨⟨db h, g64, zq h⟩, p10 h, World.block_lt_of_cell? _ _ c10, Go.Proofs.cell_of_shapedOpen_int (zero := #[.int .i64 0]) (t := 3) hsh (of_decide_eq_true (by kernel_rfl)) (by kernel_rfl) rfl (by kernel_rfl) (by kernel_rfl) Tryz.underlying3⟩
set_option maxRecDepth 100000 in
theorem contract (H : Type) (enc : TypeId × Value → H) (W : World) (base : Nat) (args : Array Value) (ds gs : List (DataW H)) (before : List MemPlace)
    (hval : ∀ (j : Nat) t v, Tryz.f8.params[j]? = some t → args[j]? = some v → Value.okWide Tryz.prog W .any base t v)
    (hW : DataW.Whole enc Tryz.prog Tryz.f8.params.toList Rows.ratioCommonSpec.vars false W args.toList ds gs before) (hL : laidMetH Tryz.prog Rows.ratioCommonRow.laid W) (hsh : W.ShapedOpen Tryz.prog) :
    Calls Tryz.prog 8 args W fun e W' => ∃ v, e = .returned v ∧ Rows.ratioCommonSpec.post enc Tryz.prog Tryz.f8 false true false false W args v W' := by
  have hW' := hW
  obtain ⟨p, q, hA0, hV, rfl, hfz, hnd⟩ := hW
  have hA : DataW.TrodAll enc Tryz.prog W 0 (fun _ => true) true Tryz.f8.params.toList args.toList ds p := hA0
  rw [Tryz.params8] at hA hval
  obtain ⟨v0, vs0, d0, ds0, p0, q0, hargs, rfl, rfl, h0, r0⟩ := trodAll_cons hA
  obtain ⟨v1, vs1, d1, ds1, p1, q1, rfl, rfl, rfl, h1, r1⟩ := trodAll_cons r0
  obtain ⟨rfl, rfl, rfl⟩ := trodAll_nil r1
  obtain rfl : args = #[v0, v1] := by cases args; simp_all
  obtain ⟨rfl, rfl⟩ := trodVars_none hV
  obtain ⟨fu0, hf0⟩ := id h0
  obtain ⟨aq0, ln0, cp0, e0⟩ := okWide_slice Tryz.underlying47 (hval 0 47 v0 rfl rfl)
  subst e0
  obtain ⟨l0, hl0⟩ := la_trod hf0
  obtain ⟨b1, s1a, s1b, rfl, rfl, rfl, ws1a, ws1b⟩ := open_rat (hval 1 26 v1 rfl rfl) h1
  clear hA0
  try simp only [List.append_nil, List.nil_append] at hW'
  have hlt : ∀ x ∈ p0, x.block < W.heap.size := fun x hx => by simpa using hW'.lt x (by simpa using hx)
  have hm := met hL
  refine (ratio_common_walk W _ l0 b1 s1a s1b (tp hm hsh) hl0).mono fun e W' ⟨he, hB⟩ => ?_
  subst he
  exact ⟨_, rfl, ⟨_, _, _, [], _, [], hW', trodAll_mk1 (shut_bool Tryz.underlying4 true), (trodAll_cons_mk (Below.trod laidOut (by kernel_rfl) (of_decide_eq_true (by kernel_rfl)) h0 hB (fun x hx => hlt x (by simp [hx]))) (trodAll_cons_mk (shut_rat b1 ws1a ws1b) trodAll_mk0)), rfl, hB.frame _, fun h => by cases h⟩⟩
/-- the world of the witness: the listed variables as their text lays them -/
noncomputable def start (os : Os) : World := World.laidAll Tryz.prog os Rows.ratioCommonRow.laid
theorem start_met (os : Os) : laidMet Tryz.prog Rows.ratioCommonRow.laid ((start os).forCall (fun _ _ => 0) ⟨#[], #[.slice none 0 0, .agg #[.bool false, .string ⟨#[]⟩, .string ⟨#[]⟩]], []⟩).memory :=
  laidMet_laidAll _ (by kernel_rfl) (by kernel_rfl)
theorem reads (os : Os) {H : Type} (enc : TypeId × Value → H) : ∃ places, DataW.whole enc Tryz.prog ((start os).forCall (fun _ _ => 0) ⟨#[], #[.slice none 0 0, .agg #[.bool false, .string ⟨#[]⟩, .string ⟨#[]⟩]], []⟩).memory Tryz.f8.params.toList Rows.ratioCommonSpec.vars false (#[.slice none 0 0, .agg #[.bool false, .string ⟨#[]⟩, .string ⟨#[]⟩]] : Array Value).toList 8 = some ([.nil, .agg [.lit (.bool false), .lit (.string []), .lit (.string [])]], [], places) :=
  ⟨[], by kernel_rfl⟩
set_option maxRecDepth 100000 in
theorem lifted (os : Os) (started : os.Started) (H : Type) (enc : TypeId × Value → H) (F : Stop.Interp) :
    ReturnsInHanded {} Tryz.checked os 8 .any ((OpenSpec.ofChange Rows.ratioCommonSpec).preRow enc Tryz.prog Tryz.f8 Rows.ratioCommonRow.domain false Rows.ratioCommonRow.laid) (((OpenSpec.ofChange Rows.ratioCommonSpec).at F).post enc Tryz.prog Tryz.f8 false true false false) := by
  obtain ⟨places, hx⟩ := reads os enc
  refine returnsInHanded_of_row (C := Tryz.checked) (s := OpenSpec.ofChange Rows.ratioCommonSpec) own started (by kernel_rfl) Tryz.func8
    (witness_row_at (enc := enc) (C := Tryz.checked) false (start os) #[.slice none 0 0, .agg #[.bool false, .string ⟨#[]⟩, .string ⟨#[]⟩]] rfl (by kernel_rfl) (by kernel_rfl) (by kernel_rfl)
      (OpenSpec.preRow_of_cond 8 hx (by kernel_rfl) (fun k hk => by cases hk) (by kernel_rfl) (start_met os))) ?_
  intro W base args ds gs before hval hW _ _ _ hL hsh _
  exact contract H enc W base args ds gs before hval hW hL hsh
theorem said : Rows.RatioCommonSaid :=
  OpenClaim.holds_of_cond 8 Tryz.f8 rfl rfl rfl rfl rfl rfl rfl ⟨rfl, rfl, rfl, rfl, rfl⟩ rfl rfl rfl rfl rfl (by kernel_rfl) Tryz.func8 (by kernel_rfl)
    (of_decide_eq_true (by kernel_rfl)) (by unfold Func.isWrapper; first | (rw [if_pos (by decide +kernel)]; kernel_rfl) | (rw [if_neg (by decide +kernel)]; exact ⟨rfl, rfl⟩))
    (fun os started H enc _ F => by rw [OpenClaim.pre_eq_preRow]; exact lifted os started H enc F)
theorem plain (f : FuncId) (fn : Func) (hf : Tryz.pinned.checked.prog.funcNamed "sortes/sorteslaw02.RatioCommon" = some f) (hfn : Tryz.pinned.checked.prog.funcs[f]? = some fn) :
    false = Tryz.pinned.checked.prog.looks [] ∧ ∀ (j : Nat) t, fn.params[j]? = some t → Tryz.pinned.checked.prog.wantsStandIn t = false := by
  obtain rfl : f = 8 := Option.some.inj ((show Tryz.prog.funcNamed "sortes/sorteslaw02.RatioCommon" = some 8 by kernel_rfl).symm.trans hf) |>.symm
  obtain rfl : fn = Tryz.f8 := (Option.some.inj (Tryz.func8.symm.trans hfn)).symm
  refine ⟨by kernel_rfl, fun j t ht => ?_⟩
  rw [Tryz.params8] at ht
  have hmem := Array.mem_of_getElem? ht
  simp at hmem
  rcases hmem with rfl | rfl
  · exact (show Tryz.prog.wantsStandIn 47 = false by kernel_rfl)
  · exact (show Tryz.prog.wantsStandIn 26 = false by kernel_rfl)
/-- the card of RatioCommon -/
theorem card : Rows.RatioCommonCardSaid :=
  Claim7.holds_tied_plain_at .later [] _ _ _ _ said (fun _ h => by cases h) (by kernel_rfl) (fun _ h => by cases h) ratioCommon_row_tie rfl ⟨rfl, rfl⟩ (by kernel_rfl) rfl plain (by kernel_rfl)
end Go.Proofs.YteccbedmpjeamaaGreatDoor.ratioCommon
