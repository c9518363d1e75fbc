/-
  Poll.Make for polls that came in.
-/
import Derived.Test.YtbfplapjjeeceaaGreatDoorBPoll
import Derived.Test.YtbfplapjjeeceaaGreatDoorBLk
namespace Go.Proofs.YtbfplapjjeeceaaGreatDoor.B9
open Go.RowKit GM SH G4 E6 D7P
open W8 hiding i64 jn pX pY
theorem Make_any (w W : World) (wv cv : Value) (lw lc : List Int) (hw : BL w wv lw) (hc : D7.AL w cv lc) (k : Below w.heap.size w W) :
    Calls Tryz.prog 16 #[.agg #[wv, cv]] W (PoQ W lw lc) := by
  obtain ⟨pw, cw, rfl, h1, h2, h3⟩ := hw.next k
  obtain ⟨pc, nc, rfl, h4, h5, h6⟩ := al_form hc
  have h6' : ∀ (j : Nat) (x : Int), lc[j]? = some x → ∃ b o, pc = some ⟨b, o, none⟩ ∧ W.cell? ⟨b, o + j, none⟩ = some (.int .i64 x) := fun j x hj => by
    obtain ⟨b, o, e, hx⟩ := h6 j x hj
    exact ⟨b, o, e, (k.cell (p := ⟨b, o + j, none⟩) (World.block_lt_of_cell? _ _ hx)).trans hx⟩
  have hT := mbl_tot lw
  have hN := nd_rng lw
  have hNe := nd_eq lw
  refine make_core W pw pc cw nc lw lc (tot (mbl lw)) (nd lw) rfl rfl hN.2.1 hT h1 h4 h2 h5 h3 h6' (Lib.hid fun V v hv => ?_) (Lib.hid fun V => ?_) (Lib.hid fun V n r hr hn => ?_) (Lib.hid fun V n y hy hn => ?_)
  · refine (refPoints_any V v (mbl lw) hv).mono ?_
    rintro e w' ⟨b, h⟩
    rcases h with ⟨_, av, he, hP⟩ | ⟨h, _⟩
    · exact ⟨⟨av, he, hP.o⟩, b⟩
    · exact absurd (mbl_rgt lw) h
  · exact refNeed_any V (tot (mbl lw)) _ hNe.symm ⟨by omega, by omega⟩ (by omega)
  · exact (mod_any V n r hr hn).mono fun _ _ h => ⟨h.1, by rw [h.2]; exact Below.refl _ _⟩
  · exact refPow_b V 4 n 2305843009213691579 y ((pp_def 4 n).trans hy) ⟨by decide, by decide⟩ hn.2 (by decide)
theorem LP_len (lw : List Int) : (LP lw).length ≤ 8 := by
  unfold LP
  rw [ptl_len]
  unfold mbl
  rw [mbs_len]
  exact (wt0_len lw).2
end Go.Proofs.YtbfplapjjeeceaaGreatDoor.B9
