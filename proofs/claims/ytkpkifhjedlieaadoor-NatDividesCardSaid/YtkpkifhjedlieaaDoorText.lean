/-
  nat.Text of a number that one piece holds.
-/
import Derived.Test.YtkpkifhjedlieaaDoorFmt
import Derived.Test.YtkpkifhjedlieaaDoorBuild
import Derived.Test.YtkpkifhjedlieaaDoorDivW
import Derived.Test.YtkpkifhjedlieaaDoorGcd2
import Derived.Laws.AppendOwn
namespace Go.Proofs.YtkpkifhjedlieaaDoor
open Go.RowKit NM
theorem info64 : (Tryd.prog.info? 56).map (fun i => (i.zero, i.size, i.bytes)) = some (some (.int .u64 0), 1, 8) := by kernel_rfl
theorem FormatUint_any (u : Nat) (hu : u < 18446744073709551616) (w : World) (ht : P10 w) :
    Calls Tryd.prog 42 #[.int .u64 u, .int .i64 10] w fun e w' => e = .returned (.string ⟨(Lib.decDigits u).toArray⟩) ∧ Below w.heap.size w w' := by
  have hC : Calls Tryd.prog 65 #[.int .u64 u, .int .i64 10] w fun e w' => e = .returned (.string ⟨(Lib.decDigits u).toArray⟩) ∧ Below w.heap.size w w' := by
    by_cases h : u < 100
    · exact (small_any u h w).mono fun e w' ⟨h1, h2⟩ => ⟨h1, by rw [h2]; exact Below.refl _ _⟩
    · exact large_any u (by omega) hu w ht
  clear hu
  go_enter Tryd.func42, Tryd.ntmps42
  go_wp2_with fail
  refine hC.mono ?_
  rintro e w1 ⟨rfl, b1⟩
  go_wp2
  go_ret
  exact ⟨rfl, b1⟩
theorem P10.below {B : Nat} {u w : World} (h : P10 u) (hb : Below B u w) (hB : 3 < B) : P10 w := by
  unfold P10 Lib.TabIs World.var? at *
  rw [show Tryd.prog.globalNamed "internal/strconv.uint64pow10" = some 3 by kernel_rfl] at h ⊢
  simp only [Option.bind_some] at h ⊢
  rw [hb.block _ hB]
  exact h
set_option maxRecDepth 100000 in
set_option maxHeartbeats 2000000 in
theorem Text_one (w : World) (a : ByteArray) (ha : a.size ≤ 4294967296) (h0 : sv a ≠ 0) (h1 : sv a < 10000000000000000000) (hg : 3 < w.heap.size) (ht : P10 w) :
    Calls Tryd.prog 22 #[.string a] w fun e w' => e = .returned (.string ⟨(Lib.decDigits (sv a)).toArray⟩) ∧ Below w.heap.size w w' := by
  obtain ⟨i0, hi, hz0, hz1, hz2⟩ := info_parts info64
  have hD : OneS a := by unfold OneS; show sv a < 18446744073709551616; omega
  go_enter Tryd.func22, Tryd.ntmps22
  go_wp2_with fail
  refine (words_any _ a (by omega)).mono ?_
  rintro e w1 ⟨X, oX, vX, tX, bX, lX, rfl⟩
  have dX := hD.words oX.wd tX vX h0
  obtain ⟨x, rfl⟩ := one_of dX
  have hx : x = sv a := by rw [← show wv [x] = sv a from vX]; simp [wv]
  have hx64 : x < 18446744073709551616 := oX.wd x (by simp)
  have ht1 := ht.below bX hg
  clear lX vX dX ht
  simp only [List.length_singleton] at oX ⊢
  have HX := Lib.hid (And.intro hx64 (And.intro h0 h1)); clear hx64 h0 h1
  have HXX := Lib.hid hx; clear hx
  go_wp2_with fail
  go_loopw [4, 3] (fun l p wr => (l = .slice (some ⟨w.heap.size, 0, none⟩) 1 1 ∧ p = .slice none 0 0 ∧ wr = w1) ∨ (l = .slice (some ⟨w.heap.size, 0, none⟩) 0 1 ∧ ∃ g cap, p = .slice (some ⟨g, 0, none⟩) 1 cap ∧ w1.heap.size ≤ g ∧ Row wr g 0 [x] ∧ g < wr.heap.size ∧ 1 ≤ cap ∧ Below w.heap.size w1 wr)) (fun l _ _ => lenOf l)
  case atStart => exact .inl ⟨rfl, rfl, rfl⟩
  case round =>
    rcases hrel with ⟨rfl, rfl, rfl⟩ | ⟨rfl, g, cap, rfl, g1, g2, g3, g4, g5⟩
    · have hdw : Calls Tryd.prog 41 #[.slice (some ⟨w.heap.size, 0, none⟩) 1 1, .int .u64 10000000000000000000] wr (DWQ [x] 10000000000000000000 w.heap.size 0 1 wr) := divideWord_any wr w.heap.size 0 1 10000000000000000000 [x] oX.row oX.wd (by simp) (Nat.le_refl _) (by omega) (by omega)
      go_wp2_with fail
      refine hdw.mono ?_
      clear hdw
      rintro e w2 ⟨Z, k, hA, hk, hT, hv, rfl⟩
      have hZl : Z.length = 1 := hA.len
      have hxl : x < 10000000000000000000 := by rw [HXX.out]; exact HX.out.2.2
      have hwx : wv [x] = x := by simp [wv]
      have hk0 : k = 0 := by
        rw [hwx, Nat.div_eq_of_lt hxl] at hv
        have h1 := (wv_zero_iff hT).1 hv
        have h2 := congrArg List.length h1
        have hk' : k ≤ 1 := hk
        rw [List.length_take, hZl, List.length_nil] at h2
        omega
      have hmod : wv [x] % 10000000000000000000 = x := by rw [hwx]; exact Nat.mod_eq_of_lt hxl
      rw [hmod]
      subst hk0
      clear hv hT hmod hxl hwx hk
      have hsz := hA.only.size
      have hos : w2.ownsRow wr.heap.size 56 1 (.slice none 0 0) 0 [] := World.ownsRow_nil _ _ _ _
      go_wp2_with (at_builtin; refine wpList_append_own _ rfl _ _ 46 rfl wr.heap.size 56 i0 (.int .u64 0) 1 8 Tryd.underlying46 hi hz0 hz1 hz2 rfl (by decide) _ _ _ rfl (hos.alloc _) ⟨w2.heap.size, 0, none⟩ 1 1 [.int .u64 x] rfl rfl ?c1 ?c2 ?c3 ?c4 ?c5 ?_)
      case c1 =>
        intro j u hj
        match j, hj with
        | 0, hj => simp at hj; subst hj; simp [Addr.add]
      case c2 => intro u hu; simp at hu; subst hu; rfl
      case c3 => unfold maxLen; omega
      case c4 => omega
      case c5 => simp; omega
      intro v' w3 hown' hgrow _
      obtain ⟨g, cap, cur, rfl, hg1, hg2, hg3, hg4, hg5, hg6⟩ : ∃ g cap cur, v' = .slice (some ⟨g, 0, none⟩) 1 cap ∧ wr.heap.size ≤ g ∧ w3.heap[g]? = some (.cells cur 56 (0, 0)) ∧ 1 ≤ cap ∧ cap ≤ maxLen ∧ cur.size = cap * 1 ∧ cur.toList.take (1 * 1) = [.int .u64 x] := by
        rcases hown'.2 with ⟨_, h⟩ | h
        · omega
        · exact h
      have hrow : Row w3 g 0 [x] := by
        refine ⟨fun j hj => ?_, fun j hj => Lib.frozen_of_heap hg2 _⟩
        obtain rfl : j = 0 := by simp at hj; exact hj
        have := World.ownsRow.cells hown' (g := g) rfl 0 (.int .u64 x) (by simp)
        exact this
      have hB3 : Below w.heap.size wr w3 := by
        exact ((hA.only.below (Nat.le_refl _) (Nat.le_of_lt oX.lt)).alloc (by have := oX.lt; omega) _).grown hgrow (by have := oX.lt; simp; omega) (fun k hk => by cases hk)
      have hgl : g < w3.heap.size := (Array.getElem?_eq_some_iff.1 hg2).1
      clear hg2 hg4 hg5 hg6 hown' hgrow
      go_wp2
      exact ⟨.inr ⟨rfl, g, cap, rfl, hg1, hrow, hgl, hg3, hB3⟩, by simp [lenOf]⟩
    · have hcell : (wr.alloc (.cells #[.pointer none, .slice none 0 0] 66)).cell? ⟨g, 0, none⟩ = some (.int .u64 x) := (World.cell?_alloc_past _ _ _ g3).trans (g2.cell 0 (by simp))
      have hF : ∀ W, P10 W → _ := fun W h => FormatUint_any x HX.out.1 W h
      have hal : Below wr.heap.size wr (wr.alloc (.cells #[.pointer none, .slice none 0 0] 66)) := (Below.refl _ wr).alloc (Nat.le_refl _) _
      have hb0 : (wr.alloc (.cells #[.pointer none, .slice none 0 0] 66)).heap[wr.heap.size]? = some (.cells #[.pointer none, .slice none 0 0] tB (0, 0)) := by unfold World.alloc; simp
      have htB : P10 (wr.alloc (.cells #[.pointer none, .slice none 0 0] 66)) := (ht1.below g5 hg).below hal (by have := g5.size; have := oX.lt; omega)
      have hlt : wr.heap.size < (wr.alloc (.cells #[.pointer none, .slice none 0 0] 66)).heap.size := by simp
      have hBw : Below w.heap.size w (wr.alloc (.cells #[.pointer none, .slice none 0 0] 66)) := (bX.trans g5).trans (hal.mono (by have := bX.size; have := g5.size; omega))
      generalize hb : wr.heap.size = b at *
      go_wp2_with fail
      generalize wr.alloc (.cells #[.pointer none, .slice none 0 0] 66) = wB at *
      have HT := Lib.hid htB
      clear htB hal
      go_loopw [7] (fun i W => (i = .int .i64 0 ∧ W = wB) ∨ (i = .int .i64 (-1) ∧ Lib.BuilderAt tB t8 b b (.pointer (some ⟨b, 0, none⟩)) (Lib.byteCells (Lib.decDigits x)) W ∧ Below b wB W)) (fun i _ => (intOf i + 1).toNat)
      case atStart => exact .inl ⟨rfl, rfl⟩
      case round =>
        rcases hrel with ⟨rfl, rfl⟩ | ⟨rfl, h1, h2⟩
        · go_wp2_with fail
          refine (hF _ HT.out).mono ?_
          rintro e w5 ⟨rfl, b5⟩
          have hb5 : Lib.BuilderAt tB t8 b b (.pointer none) [] w5 := ⟨Nat.le_refl _, .slice none 0 0, (b5.block b hlt).trans hb0, World.ownsRow_nil _ _ _ _, by simp [Value.ownBlock]⟩
          have hsz5 := b5.size
          have hds : (ByteArray.mk (Lib.decDigits x).toArray).size ≤ 20 := by
            show (Lib.decDigits x).toArray.size ≤ 20
            have h64 := HX.out.1
            have hx1 : 1 ≤ x := by have := HXX.out; have := HX.out.2.1; omega
            have h20 : Lib.nDigits x ≤ 20 := by have := Lib.numDigits_eq x hx1 h64; split at this <;> omega
            rw [List.size_toArray, Lib.decDigits_length]; exact h20
          have hW := WriteString_any b b [] ⟨(Lib.decDigits x).toArray⟩ w5 (.inl hb5) (by simp; omega) (by omega)
          have HW := Lib.hid hW
          clear hW hds
          go_wp2_with fail
          refine HW.out.mono ?_
          rintro e w6 ⟨rfl, hb6, b6⟩
          go_wp2
          refine ⟨.inr ⟨rfl, ?_, (b5.mono (Nat.le_of_lt hlt)).trans b6⟩, by simp [intOf]⟩
          rw [List.nil_append] at hb6
          exact hb6
        · have hx1 : 1 ≤ x := by have := HXX.out; have := HX.out.2.1; omega
          have hne : Lib.decDigits x ≠ [] := by
            intro h
            have h2 := congrArg List.length h
            rw [Lib.decDigits_length, List.length_nil] at h2
            have h3 := Lib.lt_pow_nDigits x
            rw [h2] at h3
            simp at h3
            omega
          have hS := Tryd.Builder_String b b (Lib.decDigits x) wr (.inr h1) hne
          have HS := Lib.hid hS
          clear hS
          go_wp2_with fail
          refine HS.out.mono ?_
          rintro e w6 ⟨rfl, b6⟩
          go_wp2
          go_ret
          refine ⟨?_, hBw.trans ((h2.trans b6).mono ?_)⟩
          · rw [← HXX.out]; rfl
          · have := bX.size; have := g5.size; omega
end Go.Proofs.YtkpkifhjedlieaaDoor
