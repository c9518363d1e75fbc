/-
  What the listed variables give; numbers in decimal and back; the helpers of package equal.
-/
import Derived.Test.YtbfplapjjeeceaaGreatDoorEMath
import Derived.Test.YtbfplapjjeeceaaGreatDoorShelf
import Derived.Lib.ItoaLen
import Derived.Lib.SmallJoins
import Derived.Lib.AtoiErrMem
import Derived.Lib.AppendIntMem
import Derived.Lib.AtoiAllCases
namespace Go.Proofs.YtbfplapjjeeceaaGreatDoor.E6
open Go.RowKit GM SH G4
/-- what the listed variables hold -/
structure TS (w : World) : Prop where
  tb : TB w
  p10 : Lib.TabIs Tryz.prog w "internal/strconv.uint64pow10" .u64 Lib.pow10Tab
theorem TS.below {u w : World} (h : TS u) (b : Below u.heap.size u w) : TS w := by
  obtain ⟨t, p⟩ := h
  exact ⟨t.below b, Joins.tab_stays (g := 5) (by kernel_rfl) p b (Nat.le_refl _)⟩
abbrev i64 (n : Int) : Prop := -9223372036854775808 ≤ n ∧ n ≤ 9223372036854775807
theorem dcm_size (n : Int) (h : i64 n) : (dcm n).size ≤ 21 := Lib.itoa_length_le n h.1 h.2
theorem itoa_any (W : World) (n : Int) (h : i64 n) (hT : TS W) :
    Calls Tryz.prog 35 #[.int .i64 n] W fun e w' => e = .returned (.string (dcm n)) ∧ Below W.heap.size W w' :=
  (Tryz.strconv_Itoa n h.1 h.2 W hT.p10).mono fun e w' ⟨he, k, os, hw⟩ => ⟨he, by rw [hw]; exact Lib.below_grow _ _ (Nat.le_refl _) k os⟩
theorem ba_ext {a b : ByteArray} (h : a.data.toList = b.data.toList) : a = b := by
  cases a; cases b; congr 1; exact Array.toList_inj.1 h
theorem ba_assoc (a b c : ByteArray) : a ++ b ++ c = a ++ (b ++ c) := ba_ext (by simp [ByteArray.data_append])
/-- numbers lie in block b, one behind the other -/
def IL (w : World) (b : Nat) (l : List Int) : Prop := ∀ j x, l[j]? = some x → w.cell? ⟨b, j, none⟩ = some (.int .i64 x)
theorem IL.below {w w' : World} {b : Nat} {l : List Int} (h : IL w b l) (k : Below w.heap.size w w') : IL w' b l := fun j x hj => by
  have := h j x hj
  exact (k.cell (p := ⟨b, j, none⟩) (World.block_lt_of_cell? _ _ this)).trans this
theorem IL.new (w : World) (l : List Int) (t : TypeId) : IL (w.alloc (.cells (l.map (Value.int .i64)).toArray t)) w.heap.size l := fun j x hj => by
  rw [World.cell?_alloc_at _ _ _ _ rfl]
  simp [hj]
theorem tw_succ (s : ByteArray) (l : List Int) (j : Nat) (x : Int) (hj : l[j]? = some x) : tw s (l.take (j+1)) = tw s (l.take j) ++ ((⟨#[47]⟩ : ByteArray) ++ dcm x) := by
  have h : l.take (j+1) = l.take j ++ [x] := by
    rw [List.take_add_one, hj]; rfl
  unfold tw
  rw [h, List.foldl_append, ← ba_assoc]; rfl
theorem tw_size (l : List Int) (hr : ∀ x ∈ l, i64 x) : ∀ s : ByteArray, (tw s l).size ≤ s.size + 22 * l.length := by
  induction l with
  | nil => intro s; simp [tw]
  | cons a l ih =>
    intro s
    have h1 := ih (fun x hx => hr x (by simp [hx])) (s ++ (⟨#[47]⟩ : ByteArray) ++ dcm a)
    have h2 := dcm_size a (hr a (by simp))
    have e : tw s (a :: l) = tw (s ++ (⟨#[47]⟩ : ByteArray) ++ dcm a) l := rfl
    rw [e]
    have h3 : (s ++ (⟨#[47]⟩ : ByteArray) ++ dcm a).size = s.size + 1 + (dcm a).size := by rw [ByteArray.size_append, ByteArray.size_append]; rfl
    rw [h3] at h1
    simp only [List.length_cons]
    omega
theorem take_size (s : ByteArray) (l : List Int) (hr : ∀ x ∈ l, i64 x) (k : Nat) (hl : l.length ≤ 1000) (hs : s.size ≤ 1000) : (tw s (l.take k)).size ≤ 30000 := by
  have := tw_size (l.take k) (fun x hx => hr x (List.mem_of_mem_take hx)) s
  rw [List.length_take] at this
  omega
set_option maxRecDepth 100000 in
set_option maxHeartbeats 2000000 in
theorem scalar_any (w : World) (s : ByteArray) (bk c n : Nat) (l : List Int) (hn : l.length = n) (hI : IL w bk l) (hr : ∀ x ∈ l, i64 x) (hN : n ≤ 1000) (hs : s.size ≤ 1000) (hT : TS w) :
    Calls Tryz.prog 73 #[.string s, .slice (some ⟨bk, 0, none⟩) n c] w fun e w' => e = .returned (.int .i64 (sc (tw s l))) ∧ Below w.heap.size w w' := by
  subst hn
  have HI := Lib.hid (And.intro hI (And.intro hT hr)); clear hI hT
  have hz := Lib.hid fun k => take_size s l hr k hN hs
  have R2 := Lib.hid fun W (h : TS W) => Scalar_any W (tw s l) (by have := take_size s l hr l.length hN hs; rw [List.take_length] at this; omega) h.tb.sq h.tb.cb
  clear hr
  go_enter Tryz.func73, Tryz.ntmps73
  go_wp2_with fail
  go_loopw [5, 11] (fun a i wr => ∃ (k : Nat), k ≤ l.length ∧ i = .int .i64 (k : Int) ∧ a = .string (tw s (l.take k)) ∧ Hid (Below w.heap.size w wr)) (fun _ i _ => l.length - (match i with | .int _ i => i.toNat | _ => 0))
  case atStart => exact ⟨0, Nat.zero_le _, rfl, by simp [tw], Lib.hid (Below.refl _ _)⟩
  case round =>
    obtain ⟨k, hk, rfl, rfl, hb⟩ := hrel
    by_cases hlt : k < l.length
    · obtain ⟨x, hx⟩ : ∃ x, l[k]? = some x := ⟨l[k], List.getElem?_eq_getElem hlt⟩
      have hc := (HI.out.1.below hb.out) k x hx
      have I1 := Lib.hid fun W (h : TS W) => itoa_any W x (HI.out.2.2 x (List.mem_of_getElem? hx)) h
      have T1 := Lib.hid (HI.out.2.1.below hb.out)
      have hx1 : (dcm x).size ≤ 21 := dcm_size x (HI.out.2.2 x (List.mem_of_getElem? hx))
      have hs1 := hz.out k
      have E := Lib.hid (tw_succ s l k x hx)
      generalize tw s (l.take k) = U at *
      generalize dcm x = D at *
      have b1 : (9223372036854775807 < 1 + D.size) = False := eq_false (by omega)
      have b2 : (9223372036854775807 < U.size + (1 + D.size)) = False := eq_false (by omega)
      clear hs1 hx1 hx
      go_wp2_with fail
      refine (I1.out _ T1.out).mono ?_
      rintro e w1 ⟨rfl, b⟩
      have hb1 := Lib.hid (hb.out.trans (b.mono hb.out.size)); clear b hc T1
      go_wp2
      exact ⟨⟨k + 1, by omega, by simp, by rw [E.out], hb1⟩, by simp; omega⟩
    · obtain rfl : k = l.length := by omega
      rw [List.take_length]
      go_wp2_with fail
      refine (R2.out _ (HI.out.2.1.below hb.out)).mono ?_
      rintro e w1 ⟨rfl, b1⟩
      go_wp2
      go_ret
      exact ⟨rfl, hb.out.trans (b1.mono hb.out.size)⟩
end Go.Proofs.YtbfplapjjeeceaaGreatDoor.E6
