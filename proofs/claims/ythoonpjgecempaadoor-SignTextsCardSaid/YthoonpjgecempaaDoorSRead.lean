/-
  The walk of sign.Read.
-/
import Derived.Test.YthoonpjgecempaaDoorSText
import Derived.Lib.AtoiAllCases
namespace Go.Proofs.YthoonpjgecempaaDoor.S5
open Go.RowKit GM SH G4
theorem results_row_tmp {P : Program} {fn : Func} {p u : Tmp} {ty : TypeId} (h : fn.results = #[.cell p ty, .tmp u]) (tmps : Array Value) (w : World) (g : Nat) (t : TypeId) (cs : Array Value) (fr : Nat × Nat) (d : TypeDesc)
    (hp : tmps.getD p undef = .pointer (some ⟨g, 0, none⟩)) (hg : w.heap[g]? = some (.cells cs t fr))
    (hu : P.underlying ty = some d) (hd : (match d with | .struct _ | .array _ _ => true | _ => false) = true) (hi : (P.info? ty).map (·.size) = some cs.size) :
    (results fn tmps).run P w = .ok (.tuple #[.agg cs, tmps.getD u undef]) w := by
  have hp' : tmps[p]?.getD undef = .pointer (some ⟨g, 0, none⟩) := by simpa using hp
  simp [results, h, hp', asAddr, run_loadVar_row w g t ty cs fr d hg hu hd hi]
/-- the number that Atoi hands back beside whatever error -/
def nm (l : List UInt8) : Int := match Lib.atoiAll l with
  | .ok v => v
  | .range => Lib.atoiSat l
  | _ => 0
theorem nm_rng (l : List UInt8) : -9223372036854775808 ≤ nm l ∧ nm l ≤ 9223372036854775807 := by
  unfold nm
  cases h : Lib.atoiAll l
  · exact Lib.atoiAll_bounds h
  · exact (show (-9223372036854775808 : Int) ≤ 0 ∧ (0 : Int) ≤ 9223372036854775807 from by decide)
  · exact Lib.atoiSat_bounds l
theorem atoi_any (W : World) (s : ByteArray) (hs : s.size ≤ 281474976710656) (hT : TS W) :
    Calls Tryd.prog 14 #[.string s] W fun e w' => ∃ V, e = .returned (.tuple #[.int .i64 (nm s.data.toList), V]) ∧ Below W.heap.size W w' := by
  unfold nm
  obtain ⟨es, h1, h2⟩ := hT.es
  obtain ⟨er, h3, h4⟩ := hT.er
  cases h : Lib.atoiAll s.data.toList
  · rename_i v
    exact (Tryd.strconv_Atoi_ok s (by omega) v h W).mono fun e w' ⟨he, hw⟩ => ⟨_, he, by
      rcases hw with rfl | ⟨t, rfl⟩
      · exact Below.refl _ _
      · exact Lib.bytesWorld_below _ _ _⟩
  · exact (Any.strconv_Atoi_syntax Tryd.laysC172 s hs h es W h1 h2).mono fun e w' ⟨N, he, _, _, hb⟩ => ⟨_, he, hb⟩
  · exact (Tryd.strconv_Atoi_range s hs h er W h3 h4).mono fun e w' ⟨N, he, _, _, hb⟩ => ⟨_, he, hb⟩
/-- the two parts of a text -/
def ptA (s : ByteArray) : ByteArray := ⟨(Lib.cut s.data.toList [46]).1.toArray⟩
def ptB (s : ByteArray) : ByteArray := ⟨(Lib.cut s.data.toList [46]).2.1.toArray⟩
def nmA (s : ByteArray) : Int := nm (ptA s).data.toList
def nmB (s : ByteArray) : Int := nm (ptB s).data.toList
theorem pt_size (s : ByteArray) : (ptA s).size ≤ s.size ∧ (ptB s).size ≤ s.size := by
  have h1 : (ptA s).size = (Lib.cut s.data.toList [46]).1.length := rfl
  have h2 : (ptB s).size = (Lib.cut s.data.toList [46]).2.1.length := rfl
  have h3 : s.size = s.data.toList.length := by rw [size_toList]
  rw [h1, h2, h3]
  unfold Lib.cut
  split
  · simp only [List.length_take, List.length_drop]; omega
  · simp
/-- whether a text is read, and what is read -/
def rdOk (s : ByteArray) : Bool := decide (txt (nmA s) (nmB s) = s)
def rdv (s : ByteArray) : Value := if rdOk s then sgv (nmA s) (nmB s) else sgv 0 0
set_option maxRecDepth 100000 in
set_option maxHeartbeats 2000000 in
theorem Read_any (w : World) (s : ByteArray) (hs : s.size < 4294967281) (hT : TS w) :
    Calls Tryd.prog 6 #[.string s] w fun e w' => e = .returned (.tuple #[rdv s, .bool (rdOk s)]) ∧ Below w.heap.size w w' := by
  obtain ⟨W, hW⟩ : ∃ W, w.alloc (.cells #[.int .i64 0, .int .i64 0] 26) = W := ⟨_, rfl⟩
  have h1 : SM W w.heap.size 0 0 := by rw [← hW]; exact SM.new _ _ _
  have hb : Below w.heap.size w W := by rw [← hW]; exact (Below.refl w.heap.size w).alloc (Nat.le_refl _) _
  have HK := Lib.hid (And.intro (hT.below hb) (And.intro hb h1)); clear h1 hb hT
  have C1 := Lib.hid (show ∀ W, TS W → Calls Tryd.prog 13 #[.string s, .string ⟨#[46]⟩] W fun e w' => ∃ b : Bool, e = .returned (.tuple #[.string (ptA s), .string (ptB s), .bool b]) ∧ Below W.heap.size W w' from fun W h => by
    obtain ⟨m, hm⟩ := h.ml
    exact (Tryd.strings_Cut s ⟨#[46]⟩ m W hs hm).mono fun e w' ⟨he, n, hw⟩ => ⟨_, he, by rw [hw]; exact ⟨rfl, rfl, rfl, Nat.le_refl _, fun _ _ => rfl⟩⟩)
  have hz := pt_size s
  have A1 := Lib.hid fun W (h : TS W) => atoi_any W (ptA s) (by omega) h
  have A2 := Lib.hid fun W (h : TS W) => atoi_any W (ptB s) (by omega) h
  have n1 := nm_rng (ptA s).data.toList
  have n2 := nm_rng (ptB s).data.toList
  have T1 := Lib.hid fun W (h : TS W) => Text_any W (nm (ptA s).data.toList) (nm (ptB s).data.toList) n1 n2 h
  have E := Lib.hid (show (txt (nm (ptA s).data.toList) (nm (ptB s).data.toList) = s → (rdv s = sgv (nm (ptA s).data.toList) (nm (ptB s).data.toList) ∧ rdOk s = true)) ∧ (¬ txt (nm (ptA s).data.toList) (nm (ptB s).data.toList) = s → (rdv s = sgv 0 0 ∧ rdOk s = false)) from ⟨fun h => by
      have : rdOk s = true := decide_eq_true h
      exact ⟨by unfold rdv; rw [if_pos this]; rfl, this⟩, fun h => by
      have : rdOk s = false := decide_eq_false h
      exact ⟨by unfold rdv; rw [this]; rfl, this⟩⟩)
  generalize nm (ptA s).data.toList = x at *
  generalize nm (ptB s).data.toList = y at *
  generalize ptA s = A at *
  generalize ptB s = B at *
  generalize txt x y = T at *
  clear hz
  have hi := infoS x y
  have h0 := infoS 0 0
  have hs2 : Hid ((#[Value.int .i64 0, Value.int .i64 0]).size = (#[Value.int .i64 x, .int .i64 y]).size) := Lib.hid (two_size _ _ _ _)
  have HN := Lib.hid (And.intro n1 n2); clear n1 n2
  go_enter Tryd.func6, Tryd.ntmps6
  go_upto_region 1 with fail
  clear hW
  go_wp2_with fail
  refine (C1.out _ HK.out.1).mono ?_
  rintro e w1 ⟨bb, rfl, b1⟩
  have K1 := Lib.hid (And.intro (HK.out.1.below b1) (And.intro (HK.out.2.1.trans (b1.mono HK.out.2.1.size)) (HK.out.2.2.next b1))); clear b1 HK
  go_wp2_with fail
  refine (A1.out _ K1.out.1).mono ?_
  rintro e w2 ⟨V1, rfl, b2⟩
  have K2 := Lib.hid (And.intro (K1.out.1.below b2) (And.intro (K1.out.2.1.trans (b2.mono K1.out.2.1.size)) (K1.out.2.2.next b2))); clear b2 K1
  go_wp2_with fail
  refine (A2.out _ K2.out.1).mono ?_
  rintro e w3 ⟨V2, rfl, b3⟩
  have K3 := Lib.hid (And.intro (K2.out.1.below b3) (And.intro (K2.out.2.1.trans (b3.mono K2.out.2.1.size)) (K2.out.2.2.next b3))); clear b3 K2
  go_upto_region 4 with fail
  obtain ⟨W4, hW4⟩ : ∃ W4, w3.alloc (.cells #[.int .i64 0, .int .i64 0] 26) = W4 := ⟨_, rfl⟩
  have a4 : Below w3.heap.size w3 W4 := by rw [← hW4]; exact (Below.refl w3.heap.size w3).alloc (Nat.le_refl _) _
  have h4 : SM W4 w3.heap.size 0 0 := by rw [← hW4]; exact SM.new _ _ _
  have hne : w.heap.size ≠ w3.heap.size := by have := K3.out.2.2.lt; omega
  have m4 : SM (W4.setRow w3.heap.size #[.int .i64 x, .int .i64 y]) w3.heap.size x y := setRow_heap _ _ _ _ _ _ h4
  go_upto_region 5 with (refine wpList_store_row rfl 26 (.tmp 11) (.tmp 30) rfl w3.heap.size #[.int .i64 x, .int .i64 y] rfl rfl 26 _ h4 hi.out hs2.out (sg_one _ _) ?_)
  have b5 : Below w3.heap.size w3 (W4.setRow w3.heap.size #[.int .i64 x, .int .i64 y]) := Below.setRow' a4 (Nat.le_refl _) _
  clear hW4 a4 h4
  generalize W4.setRow w3.heap.size #[.int .i64 x, .int .i64 y] = W5 at *
  have K5 := Lib.hid (And.intro (K3.out.1.below b5) (And.intro (K3.out.2.1.trans (b5.mono K3.out.2.1.size)) (K3.out.2.2.next b5)))
  clear b5 K3
  go_wp2_with (refine wpList_load_row rfl 26 (.tmp 11) rfl w3.heap.size rfl 26 #[.int .i64 x, .int .i64 y] (0, 0) _ m4 Tryd.underlying26 rfl hi.out ?_)
  refine (T1.out _ K5.out.1).mono ?_
  rintro e w6 ⟨rfl, b6⟩
  have m6 : SM w6 w3.heap.size x y := m4.next b6
  have z6 : SM w6 w.heap.size 0 0 := K5.out.2.2.next b6
  have B6 := Lib.hid (K5.out.2.1.trans (b6.mono K5.out.2.1.size))
  clear b6 K5 m4 C1 A1 A2 T1
  by_cases hts : T = s
  · have E1 := Lib.hid (E.out.1 hts)
    clear E
    subst hts
    go_wp2_with (first | (refine wpList_load_row rfl 26 (.tmp 11) rfl w3.heap.size rfl 26 #[.int .i64 x, .int .i64 y] (0, 0) _ m6 Tryd.underlying26 rfl hi.out ?_) | (refine wpList_store_row rfl 26 (.tmp 2) (.tmp 35) rfl w.heap.size #[.int .i64 x, .int .i64 y] rfl rfl 26 _ z6 hi.out hs2.out (sg_one _ _) ?_))
    refine bodyPost_ret (results_row_tmp rfl _ _ w.heap.size _ #[.int .i64 x, .int .i64 y] _ _ rfl (setRow_heap _ _ _ _ _ _ z6) Tryd.underlying26 rfl hi.out) rfl ?_
    exact ⟨by rw [E1.out.1, E1.out.2]; rfl, Below.setRow' B6.out (Nat.le_refl _) _⟩
  · have E1 := Lib.hid (E.out.2 hts)
    have hne2 : (T.toList == s.toList) = false := beq_eq_false_iff_ne.2 fun h => hts (ba_ext (by rw [← Lib.toList_data, ← Lib.toList_data]; exact h))
    clear E hts
    go_wp2_with (refine wpList_store_row rfl 26 (.tmp 2) (.tmp 36) rfl w.heap.size #[.int .i64 0, .int .i64 0] rfl rfl 26 _ z6 h0.out (two_size _ _ _ _) (sg_one _ _) ?_)
    refine bodyPost_ret (results_row_tmp rfl _ _ w.heap.size _ #[.int .i64 0, .int .i64 0] _ _ rfl (setRow_heap _ _ _ _ _ _ z6) Tryd.underlying26 rfl h0.out) rfl ?_
    exact ⟨by rw [E1.out.1, E1.out.2]; rfl, Below.setRow' B6.out (Nat.le_refl _) _⟩
end Go.Proofs.YthoonpjgecempaaDoor.S5
