/-
  The walks of the reference's number, Add and Sub, for all numbers.
-/
import Derived.Test.YtipmoklmolhffaaRefTimes
import Derived.Test.YtipmoklmolhffaaRefCmp
namespace Go.Proofs.Ytipmoklmolhffaa
open Go.RowKit NM
set_option maxRecDepth 100000 in
set_option maxHeartbeats 1000000 in
theorem RefNum_any (w : World) (v : Value) (ds : List Nat) (h : IntsAt w v ds) (hD : D24 ds) (hl : ds.length ≤ 1000000000) :
    Calls Try.prog 41 #[v] w fun e w' => e = .returned (.string (NB (dv ds))) ∧ Below w.heap.size w w' := by
  rcases h with ⟨rfl, rfl⟩ | ⟨b, o, cap, rfl, hb, hr, hc⟩
  · have hcv := run_convert_bytes_nil (P := Try.prog) w 42 5 Try.underlying42 Try.underlying5 0 0 28 Try.underlying28
    go_enter Try.func41, Try.ntmps41
    go_wp2_with fail
    go_loop [3, 4] (fun b k => b = .slice none 0 0 ∧ k = .int .i64 (-1)) (fun _ _ => 0)
    case atStart => exact ⟨rfl, rfl⟩
    case round =>
      obtain ⟨rfl, rfl⟩ := hrel
      go_wp2_with fail
      refine (Canon_any _ ByteArray.empty (by decide)).mono ?_
      rintro e w1 ⟨rfl, rfl⟩
      go_wp2
      go_ret
      exact ⟨by rw [tz_NB]; rfl, Below.refl _ _⟩
  · exact RefNum_row w b o cap ds hb hr hc hD hl
end Go.Proofs.Ytipmoklmolhffaa
