/-
  Numbers in decimal: digits, values, and how Atoi reads them.
  What the listed variables of a row with Atoi's errors give.
  The number that Atoi hands back beside whatever error; the two parts of a text at a point.
  strings.Cut at a point, for strings of any size; equal.Read for strings of any size.
  strings.Cut at a blank; the first blank of a text.
-/
import Derived.Lib.ItoaNum
import Derived.Lib.AtoiAll
import Derived.Lib.IndexLaws
import Derived.Lib.IndexMore
import Derived.Lib.IndexBytes
import Derived.Test.YtbfplapjjeeceaaGreatDoorDVars
import Derived.Test.YtbfplapjjeeceaaGreatDoorEProve
namespace DM
open Go
def isD (c : UInt8) : Bool := decide (48 ≤ c.toNat ∧ c.toNat ≤ 57)
def dvl (l : List UInt8) : Nat := l.foldl (fun n c => 10 * n + (c.toNat - 48)) 0
theorem dvl_snoc (l : List UInt8) (c : UInt8) : dvl (l ++ [c]) = 10 * dvl l + (c.toNat - 48) := by unfold dvl; rw [List.foldl_append]; rfl
theorem dvl_take (l : List UInt8) (k : Nat) (c : UInt8) (h : l[k]? = some c) : dvl (l.take (k+1)) = 10 * dvl (l.take k) + (c.toNat - 48) := by
  rw [List.take_add_one, h]; exact dvl_snoc _ _
theorem dvl_fold (b : List UInt8) : ∀ a, b.foldl (fun n c => 10 * n + (c.toNat - 48)) a = a * 10^b.length + dvl b := by
  induction b with
  | nil => intro a; simp [dvl]
  | cons c b ih =>
    intro a
    unfold dvl
    rw [List.foldl_cons, List.foldl_cons, ih, ih (10 * 0 + (c.toNat - 48)), List.length_cons, Nat.pow_succ]
    have : (10 * a + (c.toNat - 48)) * 10^b.length = a * (10^b.length * 10) + (10 * 0 + (c.toNat - 48)) * 10^b.length := by
      rw [Nat.add_mul, Nat.mul_zero, Nat.zero_add, Nat.mul_comm 10 a, Nat.mul_assoc, Nat.mul_comm 10 (10^b.length)]
    rw [this]; unfold dvl; omega
theorem dvl_cons (c : UInt8) (b : List UInt8) : dvl (c :: b) = (c.toNat - 48) * 10^b.length + dvl b := by
  show b.foldl _ (10 * 0 + (c.toNat - 48)) = _
  rw [dvl_fold]; simp
theorem dvl_take_le (l : List UInt8) (k : Nat) : dvl (l.take k) ≤ dvl l := by
  have h : l = l.take k ++ l.drop k := (List.take_append_drop k l).symm
  have h2 : dvl l = dvl (l.take k) * 10^(l.drop k).length + dvl (l.drop k) := by
    conv => lhs; rw [h]
    unfold dvl
    rw [List.foldl_append, dvl_fold]; rfl
  have h3 : 0 < 10^(l.drop k).length := Nat.pow_pos (by decide)
  have h4 := Nat.le_mul_of_pos_right (dvl (l.take k)) h3
  omega
theorem isD_of (u : Nat) (h : u < 10) : isD (UInt8.ofNat (48 + u)) = true ∧ (UInt8.ofNat (48 + u)).toNat - 48 = u := by
  have : (UInt8.ofNat (48 + u)).toNat = 48 + u := by simp; omega
  unfold isD
  rw [this]
  exact ⟨decide_eq_true (by omega), by omega⟩
theorem dec_all (n : Nat) : (∀ c ∈ Lib.decDigits n, isD c = true) ∧ dvl (Lib.decDigits n) = n ∧ Lib.decDigits n ≠ [] := by
  induction n using Nat.strongRecOn with
  | ind n ih =>
    rw [Lib.decDigits]
    split
    · rename_i h
      have := isD_of n h
      refine ⟨fun c hc => ?_, ?_, by simp⟩
      · rw [List.mem_singleton] at hc; subst hc; exact this.1
      · unfold dvl; simp only [List.foldl_cons, List.foldl_nil]; omega
    · rename_i h
      obtain ⟨h1, h2, h3⟩ := ih (n / 10) (by omega)
      have := isD_of (n % 10) (by omega)
      refine ⟨fun c hc => ?_, ?_, by simp⟩
      · rcases List.mem_append.1 hc with hc | hc
        · exact h1 c hc
        · rw [List.mem_singleton] at hc; subst hc; exact this.1
      · rw [dvl_snoc, h2, this.2]; omega
theorem parse_ok : ∀ (l : List UInt8) (acc : Nat), (∀ c ∈ l, isD c = true) → acc * 10^l.length + dvl l < 18446744073709551616 → Lib.parseUint10 acc l = .ok (acc * 10^l.length + dvl l)
  | [], acc, _, _ => by simp [Lib.parseUint10, dvl]
  | c :: r, acc, hd, hv => by
    have hc := hd c (by simp)
    unfold isD at hc
    have hc := of_decide_eq_true hc
    rw [dvl_cons, List.length_cons, Nat.pow_succ] at hv
    have e : acc * (10^r.length * 10) + ((c.toNat - 48) * 10^r.length + dvl r) = (acc * 10 + (c.toNat - 48)) * 10^r.length + dvl r := by
      rw [Nat.add_mul, ← Nat.add_assoc, Nat.mul_assoc, Nat.mul_comm 10 (10^r.length)]
    have hp : 0 < 10^r.length := Nat.pow_pos (by decide)
    have h2 := Nat.le_mul_of_pos_right (acc * 10 + (c.toNat - 48)) hp
    have h3 := parse_ok r (acc * 10 + (c.toNat - 48)) (fun x hx => hd x (by simp [hx])) (by omega)
    rw [Lib.parseUint10, if_pos hc, if_neg (by omega), if_neg (by omega), h3, dvl_cons, List.length_cons, Nat.pow_succ, e]
theorem parse_dec (u : Nat) (h : u < 18446744073709551616) : Lib.parseMag (Lib.decDigits u) = .ok u := by
  obtain ⟨h1, h2, h3⟩ := dec_all u
  unfold Lib.parseMag
  rw [if_neg h3, parse_ok _ 0 h1 (by rw [h2]; omega), h2]; simp
/-- Atoi reads what Itoa writes -/
theorem atoi_itoa (x : Int) (h0 : -9223372036854775808 ≤ x) (h1 : x ≤ 9223372036854775807) : Lib.atoiAll (Lib.itoa x) = .ok x := by
  by_cases hx : x < 0
  · have e : Lib.itoa x = 45 :: Lib.decDigits x.natAbs := by unfold Lib.itoa; rw [if_pos hx]
    rw [e]
    unfold Lib.atoiAll
    have p := parse_dec x.natAbs (by omega)
    have h45 : (45 : UInt8).toNat = 45 := rfl
    simp only [h45]
    rw [if_pos (.inr trivial), p]
    simp only
    rw [if_neg (by simp), if_neg (by simp; omega), if_pos trivial]
    congr 1; omega
  · have e : Lib.itoa x = Lib.decDigits x.toNat := by unfold Lib.itoa; rw [if_neg hx]
    rw [e]
    obtain ⟨d1, d2, d3⟩ := dec_all x.toNat
    have p := parse_dec x.toNat (by omega)
    cases hl : Lib.decDigits x.toNat with
    | nil => exact absurd hl d3
    | cons c r =>
      have hc := d1 c (by rw [hl]; simp)
      unfold isD at hc
      have hc := of_decide_eq_true hc
      have n45 : ¬ c.toNat = 45 := by omega
      have n43 : ¬ c.toNat = 43 := by omega
      unfold Lib.atoiAll
      simp only [n45, n43]
      rw [if_neg (by simp), ← hl, p]
      simp only
      rw [if_neg (by simp; omega), if_neg (by simp), if_neg (by simp)]
      congr 1; omega
theorem itoa_dot (x : Int) : ∀ c ∈ Lib.itoa x, c ≠ 46 := by
  intro c hc e
  subst e
  unfold Lib.itoa at hc
  have nd : ∀ n, (46 : UInt8) ∉ Lib.decDigits n := fun n h => by
    have := (dec_all n).1 _ h
    revert this; decide
  split at hc
  · rcases List.mem_cons.1 hc with h | h
    · revert h; decide
    · exact nd _ h
  · exact nd _ hc
/-- the place where a text is cut -/
theorem index_dot (a b : List UInt8) (h : ∀ c ∈ a, c ≠ 46) : Lib.indexByte (a ++ 46 :: b) 46 = (a.length : Int) := by
  induction a with
  | nil => simp [Lib.indexByte]
  | cons x a ih =>
    have hx : (x == 46) = false := beq_eq_false_iff_ne.2 (h x (by simp))
    have h2 := ih (fun c hc => h c (by simp [hc]))
    show Lib.indexByte (x :: (a ++ 46 :: b)) 46 = _
    rw [Lib.indexByte, hx, h2]
    have : ((a.length : Int) == -1) = false := beq_eq_false_iff_ne.2 (by omega)
    rw [this]
    simp
theorem cut_dot (a b : List UInt8) (h : ∀ c ∈ a, c ≠ 46) : Lib.cut (a ++ 46 :: b) [46] = (a, b, true) := by
  unfold Lib.cut
  rw [Lib.index_one, index_dot a b h, if_pos (by omega), Int.toNat_natCast]
  simp
/-- a text is cut at its first point in one way alone -/
theorem dot_unique (a b c d : List UInt8) (ha : ∀ x ∈ a, x ≠ 46) (hc : ∀ x ∈ c, x ≠ 46) (e : a ++ 46 :: b = c ++ 46 :: d) : a = c ∧ b = d := by
  have h1 := cut_dot a b ha
  rw [e, cut_dot c d hc] at h1
  injection h1 with p q
  injection q with q r
  exact ⟨p.symm, q.symm⟩
end DM
namespace Go.Proofs.YtbfplapjjeeceaaGreatDoor.E6
open Go.RowKit SH G4
theorem star : "*" ++ "errors.errorString" = "*errors.errorString" := by decide
/-- the one type of that name -/
theorem rowES (u : TypeId) (h : Tryz.prog.typeName? 3 u = some "*errors.errorString") : u = 190 :=
  typeName_ptr_named (nm := "errors.errorString") (by rw [star]; kernel_rfl) (by kernel_rfl) (by decide) u (by rw [star]; exact h)
/-- what the listed variables hold, with the two errors of Atoi -/
structure TX (w : World) : Prop where
  ts : TS w
  es : ∃ v, w.cell? ⟨2, 0, none⟩ = some v ∧ (v = .nilIface ∨ ∃ te pe, v = .iface te pe)
  er : ∃ v, w.cell? ⟨3, 0, none⟩ = some v ∧ (v = .nilIface ∨ ∃ te pe, v = .iface te pe)
theorem TX.below {u w : World} (h : TX u) (b : Below u.heap.size u w) : TX w := by
  obtain ⟨t, ⟨v, hv, hv2⟩, ⟨r, hr, hr2⟩⟩ := h
  exact ⟨t.below b,
    ⟨v, (b.cell (p := ⟨2, 0, none⟩) (World.block_lt_of_cell? _ _ hv)).trans hv, hv2⟩,
    ⟨r, (b.cell (p := ⟨3, 0, none⟩) (World.block_lt_of_cell? _ _ hr)).trans hr, hr2⟩⟩
theorem tx_of {W : World} {a b : String × DataW Unit} (h : laidMet Tryz.prog (a :: b :: ("internal/strconv.uint64pow10", Rows.laid_internal_strconv_uint64pow10) :: ("strconv.ErrRange", Rows.laid_strconv_ErrRange) :: ("strconv.ErrSyntax", Rows.laid_strconv_ErrSyntax) :: ("sortes/digest.squareRoots", Rows.laid_sortes_digest_squareRoots) :: [("sortes/digest.cubeRoots", Rows.laid_sortes_digest_cubeRoots)]) W) (hsh : W.ShapedOpen Tryz.prog) : TX W := by
  have h2 := laidMet.tail (laidMet.tail h)
  have h3 := laidMet.tail h2
  have h4 := laidMet.tail h3
  have h5 := laidMet.tail h4
  have h6 := laidMet.tail h5
  rw [data10] at h2
  have p10 := Lib.tabIs_of_head (P := Tryz.prog) (W := W) (name := "internal/strconv.uint64pow10") (k := .u64) (zs := Lib.pow10Tab) (g := 5) (t := 176) (e := 124) (n := 20) (by kernel_rfl) (by kernel_rfl) Tryz.underlying176 Tryz.underlying124 cells64 (by kernel_rfl) h2
  obtain ⟨a0, s0, hv0, -, -, -⟩ := laid_sentinel (g := 3) h3 (by kernel_rfl) (by kernel_rfl) Tryz.underlying100 rowES Tryz.underlying190 Tryz.underlying192 rfl rfl Tryz.underlying9 (by kernel_rfl) (by kernel_rfl)
  obtain ⟨a1, s1, hv1, -, -, -⟩ := laid_sentinel (g := 2) h4 (by kernel_rfl) (by kernel_rfl) Tryz.underlying100 rowES Tryz.underlying190 Tryz.underlying192 rfl rfl Tryz.underlying9 (by kernel_rfl) (by kernel_rfl)
  have c0 := World.var?_cell (P := Tryz.prog) (show Tryz.prog.globalNamed "strconv.ErrRange" = some 3 by kernel_rfl) hv0 0
  have c1 := World.var?_cell (P := Tryz.prog) (show Tryz.prog.globalNamed "strconv.ErrSyntax" = some 2 by kernel_rfl) hv1 0
  exact ⟨⟨⟨sq_of h5, cb_of h6⟩, p10⟩, ⟨_, by simpa using c1, Or.inr ⟨_, _, rfl⟩⟩, ⟨_, by simpa using c0, Or.inr ⟨_, _, rfl⟩⟩⟩
end Go.Proofs.YtbfplapjjeeceaaGreatDoor.E6
namespace Go.Proofs.YtbfplapjjeeceaaGreatDoor.E6
open Go.RowKit GM SH G4
/-- the text of a proof -/
def txt (R S : Int) : ByteArray := dcm R ++ (⟨#[46]⟩ : ByteArray) ++ dcm S
theorem tx_next {w u v : World} {p : Nat} {R S : Int} (h : TS u ∧ Below w.heap.size w u ∧ u.cell? ⟨p, 0, none⟩ = some (.int .i64 R) ∧ u.cell? ⟨p, 1, none⟩ = some (.int .i64 S)) (b : Below u.heap.size u v) :
    TS v ∧ Below w.heap.size w v ∧ v.cell? ⟨p, 0, none⟩ = some (.int .i64 R) ∧ v.cell? ⟨p, 1, none⟩ = some (.int .i64 S) := ⟨h.1.below b, two_next h.2 b⟩
theorem results_row_tmp {P : Program} {fn : Func} {p u : Tmp} {ty : TypeId} (h : fn.results = #[.cell p ty, .tmp u]) (tmps : Array Value) (w : World) (g : Nat) (t : TypeId) (cs : Array Value) (fr : Nat × Nat) (d : TypeDesc)
    (hp : tmps.getD p undef = .pointer (some ⟨g, 0, none⟩)) (hg : w.heap[g]? = some (.cells cs t fr))
    (hu : P.underlying ty = some d) (hd : (match d with | .struct _ | .array _ _ => true | _ => false) = true) (hi : (P.info? ty).map (·.size) = some cs.size) :
    (results fn tmps).run P w = .ok (.tuple #[.agg cs, tmps.getD u undef]) w := by
  have hp' : tmps[p]?.getD undef = .pointer (some ⟨g, 0, none⟩) := by simpa using hp
  simp [results, h, hp', asAddr, run_loadVar_row w g t ty cs fr d hg hu hd hi]
/-- the number that Atoi hands back beside whatever error -/
def nm (l : List UInt8) : Int := match Lib.atoiAll l with
  | .ok v => v
  | .range => Lib.atoiSat l
  | _ => 0
theorem nm_rng (l : List UInt8) : -9223372036854775808 ≤ nm l ∧ nm l ≤ 9223372036854775807 := by
  unfold nm
  cases h : Lib.atoiAll l
  · exact Lib.atoiAll_bounds h
  · exact (show (-9223372036854775808 : Int) ≤ 0 ∧ (0 : Int) ≤ 9223372036854775807 from by decide)
  · exact Lib.atoiSat_bounds l
theorem atoi_any (W : World) (s : ByteArray) (hs : s.size ≤ 281474976710656) (hT : TX W) :
    Calls Tryz.prog 63 #[.string s] W fun e w' => ∃ V, e = .returned (.tuple #[.int .i64 (nm s.data.toList), V]) ∧ Below W.heap.size W w' := by
  unfold nm
  obtain ⟨es, h1, h2⟩ := hT.es
  obtain ⟨er, h3, h4⟩ := hT.er
  cases h : Lib.atoiAll s.data.toList
  · rename_i v
    exact (Tryz.strconv_Atoi_ok s (by omega) v h W).mono fun e w' ⟨he, hw⟩ => ⟨_, he, by
      rcases hw with rfl | ⟨t, rfl⟩
      · exact Below.refl _ _
      · exact Lib.bytesWorld_below _ _ _⟩
  · exact (Any.strconv_Atoi_syntax Tryz.laysC172 s hs h es W h1 h2).mono fun e w' ⟨N, he, _, _, hb⟩ => ⟨_, he, hb⟩
  · exact (Tryz.strconv_Atoi_range s hs h er W h3 h4).mono fun e w' ⟨N, he, _, _, hb⟩ => ⟨_, he, hb⟩
/-- the two parts of a text -/
def ptA (s : ByteArray) : ByteArray := ⟨(Lib.cut s.data.toList [46]).1.toArray⟩
def ptB (s : ByteArray) : ByteArray := ⟨(Lib.cut s.data.toList [46]).2.1.toArray⟩
def nmA (s : ByteArray) : Int := nm (ptA s).data.toList
def nmB (s : ByteArray) : Int := nm (ptB s).data.toList
/-- whether a text is read, and what is read -/
def rdOk (s : ByteArray) : Bool := decide (txt (nmA s) (nmB s) = s)
def rdv (s : ByteArray) : Value := if rdOk s then pfv (nmA s) (nmB s) else pfv 0 0
end Go.Proofs.YtbfplapjjeeceaaGreatDoor.E6
namespace Go.Proofs.YtbfplapjjeeceaaGreatDoor.E6
open Go.RowKit GM SH G4 DM
theorem ext_list (t : ByteArray) (a b : Nat) : (t.extract a b).data.toList = (t.data.toList.drop a).take (b - a) := by
  rw [ByteArray.data_extract, Array.toList_extract]
theorem size_list (t : ByteArray) : t.data.toList.length = t.size := by rw [size_toList]
end Go.Proofs.YtbfplapjjeeceaaGreatDoor.E6
namespace Go.Proofs.YtbfplapjjeeceaaGreatDoor.E6
open Go.RowKit GM SH G4 DM
theorem itoa_sp (x : Int) : ∀ c ∈ Lib.itoa x, c ≠ 32 := by
  intro c hc e
  subst e
  unfold Lib.itoa at hc
  have nd : ∀ n, (32 : UInt8) ∉ Lib.decDigits n := fun n h => by
    have := (dec_all n).1 _ h
    revert this; decide
  split at hc
  · rcases List.mem_cons.1 hc with h | h
    · revert h; decide
    · exact nd _ h
  · exact nd _ hc
/-- the place where a text is cut -/
theorem index_sp (a b : List UInt8) (h : ∀ c ∈ a, c ≠ 32) : Lib.indexByte (a ++ 32 :: b) 32 = (a.length : Int) := by
  induction a with
  | nil => simp [Lib.indexByte]
  | cons x a ih =>
    have hx : (x == 32) = false := beq_eq_false_iff_ne.2 (h x (by simp))
    have h2 := ih (fun c hc => h c (by simp [hc]))
    show Lib.indexByte (x :: (a ++ 32 :: b)) 32 = _
    rw [Lib.indexByte, hx, h2]
    have : ((a.length : Int) == -1) = false := beq_eq_false_iff_ne.2 (by omega)
    rw [this]
    simp
theorem cut_sp (a b : List UInt8) (h : ∀ c ∈ a, c ≠ 32) : Lib.cut (a ++ 32 :: b) [32] = (a, b, true) := by
  unfold Lib.cut
  rw [Lib.index_one, index_sp a b h, if_pos (by omega), Int.toNat_natCast]
  simp
/-- the two parts of a text at its first blank -/
def spA (s : ByteArray) : ByteArray := ⟨(Lib.cut s.data.toList [32]).1.toArray⟩
def spB (s : ByteArray) : ByteArray := ⟨(Lib.cut s.data.toList [32]).2.1.toArray⟩
theorem sp_size (s : ByteArray) : (spA s).size ≤ s.size ∧ (spB s).size ≤ s.size := by
  have h1 : (spA s).size = (Lib.cut s.data.toList [32]).1.length := rfl
  have h2 : (spB s).size = (Lib.cut s.data.toList [32]).2.1.length := rfl
  have h3 : s.size = s.data.toList.length := by rw [size_toList]
  rw [h1, h2, h3]
  unfold Lib.cut
  split
  · simp only [List.length_take, List.length_drop]; omega
  · simp
/-- the first blank of a text -/
theorem sp_cases (s : ByteArray) : Lib.indexByte s.data.toList 32 = -1 ∧ (∀ c ∈ s.data.toList, c ≠ 32) ∨ ∃ i : Nat, Lib.indexByte s.data.toList 32 = (i : Int) ∧ i < s.size ∧ s.data.toList = s.data.toList.take i ++ 32 :: s.data.toList.drop (i+1) ∧ (∀ c ∈ s.data.toList.take i, c ≠ 32) := by
  by_cases h : Lib.indexByte s.data.toList 32 = -1
  · refine .inl ⟨h, fun c hc e => ?_⟩
    subst e
    obtain ⟨k, hk⟩ := List.mem_iff_getElem?.1 hc
    exact Lib.indexByte_none h k hk
  · have h1 := Lib.indexByte_ge s.data.toList 32
    obtain ⟨i, hi⟩ : ∃ i : Nat, Lib.indexByte s.data.toList 32 = (i : Int) := ⟨(Lib.indexByte s.data.toList 32).toNat, by omega⟩
    obtain ⟨h2, h3⟩ := Lib.indexByte_some hi
    have hlt : i < s.data.toList.length := (List.getElem?_eq_some_iff.1 h2).1
    have h4 : s.data.toList[i] = 32 := (List.getElem?_eq_some_iff.1 h2).2
    refine .inr ⟨i, hi, by rw [size_list] at hlt; exact hlt, ?_, fun c hc e => ?_⟩
    · conv => lhs; rw [← List.take_append_drop i s.data.toList, List.drop_eq_getElem_cons hlt, h4]
    · subst e
      obtain ⟨k, hk⟩ := List.mem_iff_getElem?.1 hc
      have hk2 : k < i := by
        have := (List.getElem?_eq_some_iff.1 hk).1
        rw [List.length_take] at this; omega
      rw [List.getElem?_take_of_lt hk2] at hk
      exact h3 k hk2 hk
theorem sp_no {s : ByteArray} (h : ∀ c ∈ s.data.toList, c ≠ 32) (hi : Lib.indexByte s.data.toList 32 = -1) : spA s = s ∧ spB s = ⟨#[]⟩ := by
  unfold spA spB Lib.cut
  rw [Lib.index_one, hi, if_neg (by omega)]
  exact ⟨rfl, rfl⟩
theorem sp_yes {s : ByteArray} {i : Nat} (hi : Lib.indexByte s.data.toList 32 = (i : Int)) (hs : i < s.size) : spA s = s.extract 0 i ∧ spB s = s.extract (i + 1) s.size := by
  unfold spA spB Lib.cut
  rw [Lib.index_one, hi, if_pos (by omega), Int.toNat_natCast]
  refine ⟨ba_ext ?_, ba_ext ?_⟩
  · rw [ext_list]; simp
  · rw [ext_list]
    show s.data.toList.drop (i + 1) = _
    rw [List.take_of_length_le]
    rw [List.length_drop, size_list]; omega
set_option maxRecDepth 100000 in
set_option maxHeartbeats 2000000 in
theorem cutb0_any (w : World) (s : ByteArray) (hs : s.size ≤ 281474976710656) :
    Calls Tryz.prog 99 #[.string s, .string ⟨#[32]⟩] w fun e w' => ∃ b : Bool, e = .returned (.tuple #[.string (spA s), .string (spB s), .bool b]) ∧ Below w.heap.size w w' := by
  have R := Lib.hid fun W => Tryz.stringslite_Index_one s 32 W
  rcases sp_cases s with ⟨hi, hn⟩ | ⟨i, hi, hlt, -, -⟩
  · obtain ⟨e1, e2⟩ := sp_no hn hi
    rw [hi] at R
    rw [e1, e2]
    clear hn e1 e2
    go_enter Tryz.func99, Tryz.ntmps99
    go_wp2_with fail
    refine (R.out _).mono ?_
    rintro e w1 ⟨rfl, rfl⟩
    go_wp2
    go_ret3
    exact ⟨false, rfl, Below.refl _ _⟩
  · obtain ⟨e1, e2⟩ := sp_yes hi hlt
    rw [hi] at R
    rw [e1, e2]
    have c1 : (0 : Int) ≤ (i : Int) := by omega
    have c2 : (i : Int) ≤ (s.size : Int) := by omega
    have c3 : (0 : Int) ≤ (i : Int) + 1 := by omega
    have c4 : (i : Int) + 1 ≤ (s.size : Int) := by omega
    clear e1 e2
    go_enter Tryz.func99, Tryz.ntmps99
    go_wp2_with fail
    refine (R.out _).mono ?_
    rintro e w1 ⟨rfl, rfl⟩
    go_wp2_with fail
    have c5 : (i : Int) + 1 ≤ 281474976710656 := by omega
    clear hi hlt hs R
    go_region
    all_goals go_wp2
    all_goals go_ret3
    all_goals exact ⟨true, rfl, (Below.refl _ _).drew⟩
theorem cutb_any (w : World) (s : ByteArray) (hs : s.size ≤ 281474976710656) :
    Calls Tryz.prog 62 #[.string s, .string ⟨#[32]⟩] w fun e w' => ∃ b : Bool, e = .returned (.tuple #[.string (spA s), .string (spB s), .bool b]) ∧ Below w.heap.size w w' := by
  have R := Lib.hid (cutb0_any w s hs)
  clear hs
  go_enter Tryz.func62, Tryz.ntmps62
  go_wp2_with fail
  refine R.out.mono ?_
  rintro e w1 ⟨b, rfl, hb⟩
  have HB := Lib.hid hb; clear hb
  go_wp2
  go_ret3
  exact ⟨b, rfl, HB.out⟩
end Go.Proofs.YtbfplapjjeeceaaGreatDoor.E6
