/-
  The walk of nat.Parse, all texts.
-/
import Derived.Test.YteccbedmpjeamaaGreatDoorPiece
namespace Go.Proofs.YteccbedmpjeamaaGreatDoor
open Go.RowKit NM
set_option maxRecDepth 100000 in
set_option maxHeartbeats 8000000 in
theorem Parse_any (w : World) (s : ByteArray) (hs : s.size ≤ 100000) :
    Calls Tryz.prog 77 #[.string s] w fun e w' => e = .returned (ParseV s) ∧ Below w.heap.size w w' := by
  have hd := decimal_any w s hs
  obtain ⟨l, hl⟩ : ∃ l, l = s.data.toList := ⟨_, rfl⟩
  have hll : l.length = s.size := by rw [hl]; exact Array.length_toList
  by_cases hok : decOK l
  · have hP : ParseV s = .tuple #[.string (NB (dval l)), .bool true] := by unfold ParseV; rw [← hl, if_pos hok]
    rw [← hl, decide_eq_true hok] at hd
    have h0 : 0 < s.size := by
      rw [← hll]; exact List.length_pos_iff.2 hok.1
    rw [hP]
    obtain ⟨V, hV⟩ : ∃ V, V = dval l := ⟨_, rfl⟩
    rw [← hV]
    have HD := Lib.hid hd
    have HL := Lib.hid (And.intro hl (And.intro hll (And.intro hok.2.1 hV)))
    clear hd hl hll hok hP hV
    go_enter Tryz.func77, Tryz.ntmps77
    go_wp2_with fail
    refine HD.out.mono ?_
    rintro e w1 ⟨rfl, B1⟩
    go_wp2_with fail
    go_loopw [0, 4] (fun sw xv wr => ∃ (i : Nat) (t : ByteArray) (v : Value) (X : List Nat), sw = .string t ∧ xv = v ∧ i + t.size = s.size ∧ Hid (t.data.toList = l.drop i) ∧ Hid (wr.ownsRow w.heap.size 95 1 v X.length (uv X)) ∧ Hid (Wd X) ∧ Hid (X.length ≤ i) ∧ Hid (wv X = dval (l.take i)) ∧ Hid (wv X = 0 ∨ t.size % 19 = 0) ∧ Hid (0 < i → 0 < X.length) ∧ Below w.heap.size w wr) (fun sw _ _ => match sw with | .string t => t.size | _ => 0)
    case atStart => exact ⟨0, s, _, [], rfl, rfl, by omega, Lib.hid (by rw [List.drop_zero, HL.out.1]), Lib.hid (World.ownsRow_nil _ _ _ _), Lib.hid (fun _ h => by cases h), Lib.hid (Nat.zero_le _), Lib.hid (by rw [List.take_zero]; rfl), Lib.hid (.inl rfl), Lib.hid (fun h => absurd h (Nat.lt_irrefl 0)), B1⟩
    case round =>
      clear B1 HD
      obtain ⟨i, t, v, X, rfl, rfl, hi, htl, hown, hwx, hlx, hvx, h19, hpx, hB⟩ := hrel
      by_cases ht : t.size = 0
      · have hfin : wv X = V := by
          rw [hvx.out, HL.out.2.2.2, List.take_of_length_le (by rw [HL.out.2.1]; omega)]
        have hpos := hpx.out (by omega)
        obtain ⟨g, cap, hu, hbg, hgl⟩ := hown.out.form hpos
        subst hu
        have hN := number_any wr g 0 cap X (row_uv hown.out rfl) hwx.out hgl (by have := hlx.out; omega) (by
          rcases hown.out.2 with ⟨h, _⟩ | ⟨g', cap', cur, h, _, _, hnc, _⟩
          · cases h
          · injection h with h1 h2 h3
            omega)
        unfold NQ at hN
        rw [hfin] at hN
        have hd0 : decide ((0 : Int) < (t.size : Int)) = false := by rw [ht]; rfl
        have HN := Lib.hid hN; clear hN hfin hpos hown hwx hlx hvx h19 hpx htl
        generalize X.length = nx at *
        go_wp2_with fail
        refine HN.out.mono ?_
        rintro e w4 ⟨rfl, b4⟩
        go_wp2
        go_ret2
        exact ⟨rfl, hB.trans (b4.mono hB.size)⟩
      · obtain ⟨cm, hcm⟩ : ∃ cm, cm = (t.size - 1) % 19 := ⟨_, rfl⟩
        obtain ⟨c, hc⟩ : ∃ c, c = cm + 1 := ⟨_, rfl⟩
        have hc1 : 1 ≤ c ∧ c ≤ 19 ∧ c ≤ t.size := by omega
        have htp : 0 < t.size := by omega
        have hd0 : decide ((0 : Int) < (t.size : Int)) = true := by simp; omega
        have x2 : ((t.size - 1 : Nat) : Int) % 19 = (cm : Int) := by omega
        have x2n : (t.size - 1) % 19 = cm := hcm.symm
        have x2i : ((t.size : Int) - 1) % 19 = (cm : Int) := by omega
        obtain ⟨pt1, pt2⟩ := ext_take t c hc1.2.2
        obtain ⟨pd1, pd2⟩ := ext_drop t c hc1.2.2
        have hdg : ∀ x ∈ (t.extract 0 c).data.toList, isdg x = true := fun x hx => by
          rw [pt1, htl.out] at hx
          exact HL.out.2.2.1 x (List.mem_of_mem_drop (List.mem_of_mem_take hx))
        have hval := fun W => value_any W (t.extract 0 c) (by omega) hdg
        have hpv : dval (t.extract 0 c).data.toList < 10^19 := by
          refine Nat.lt_of_lt_of_le (dval_lt _ hdg) (Nat.pow_le_pow_right (by omega) ?_)
          rw [pt1, List.length_take]; omega
        have hap := fun (W : World) (h : Below w.heap.size wr W) (hs : wr.heap.size ≤ W.heap.size) (ho : W.ownsRow w.heap.size 95 1 u4 X.length (uv X)) => appendPiece_any W w.heap.size u4 X (dval (t.extract 0 c).data.toList) ho hwx.out (Nat.le_trans hB.size hs) (by omega) (by have := hlx.out; omega)
        have hnew : dval (l.take (i + c)) = wv X * 10000000000000000000 + dval (t.extract 0 c).data.toList := by
          rw [dval_two l i c (by rw [HL.out.2.1]; omega), pt1, htl.out, ← hvx.out]
          rcases h19.out with h | h
          · rw [h, Nat.zero_mul, Nat.zero_mul]
          · have : c = 19 := by omega
            rw [this]
        have hdrop : (t.extract c t.size).data.toList = l.drop (i + c) := by rw [pd1, htl.out, List.drop_drop]
        have hmod : (t.size - c) % 19 = 0 := by omega
        have HZ := Lib.hid (And.intro hnew (And.intro hdrop (And.intro hmod (And.intro pd2 hlx.out)))); clear hnew hdrop hmod hpv hdg pt1 pt2 pd1 htl hvx h19 hpx hlx hwx
        have hown' := hown.out
        have HOW := Lib.hid hown'; clear hown hown'
        have HVAL := Lib.hid hval; have HAP := Lib.hid hap; clear hval hap
        generalize (t.extract 0 c).data.toList = pl at *
        have hcm19 : cm < 19 := by omega
        have hct : cm + 1 ≤ t.size := by omega
        clear hcm
        subst hc
        go_wp2_with fail
        refine (HVAL.out _).mono ?_
        rintro e w4 ⟨rfl, b4⟩
        go_wp2_with fail
        refine (HAP.out w4 (b4.mono hB.size) b4.size (own_below HOW.out b4)).mono ?_
        rintro e w5 ⟨v5, Z, rfl, oZ, wZ, lZ, vZ, b5⟩
        have HF := Lib.hid (And.intro oZ (And.intro wZ (And.intro lZ vZ))); clear oZ wZ lZ vZ HAP HVAL HOW
        go_wp2
        refine ⟨⟨i + (cm + 1), _, v5, Z, rfl, rfl, by rw [HZ.out.2.2.2.1]; omega, Lib.hid HZ.out.2.1, Lib.hid HF.out.1, Lib.hid HF.out.2.1, Lib.hid (by rw [HF.out.2.2.1]; have := HZ.out.2.2.2.2; omega), Lib.hid (by rw [HF.out.2.2.2, HZ.out.1]), Lib.hid (.inr (by rw [HZ.out.2.2.2.1]; exact HZ.out.2.2.1)), Lib.hid (fun _ => by rw [HF.out.2.2.1]; omega), (hB.trans (b4.mono hB.size)).trans b5⟩, ?_⟩
        show (t.extract (cm + 1) t.size).size < t.size
        rw [HZ.out.2.2.2.1]; omega
  · have hP : ParseV s = .tuple #[.string ⟨#[]⟩, .bool false] := by unfold ParseV; rw [← hl, if_neg hok]
    rw [← hl, decide_eq_false hok] at hd
    rw [hP]
    have HD := Lib.hid hd; clear hd hP hok hl hll
    go_enter Tryz.func77, Tryz.ntmps77
    go_wp2_with fail
    refine HD.out.mono ?_
    rintro e w1 ⟨rfl, B1⟩
    go_wp2
    go_ret2
    exact ⟨rfl, B1⟩
end Go.Proofs.YteccbedmpjeamaaGreatDoor
