/-
  The walks of the reference's total and Points.
-/
import Derived.Test.YtihplnomhfpajaaWSanW
namespace Go.Proofs.Ytihplnomhfpajaa.W8
open Go.RowKit GM G4 D7P Go.Maps
/-- a member's Id differs from those before it -/
def far (l : List Mb) (x : Int) (j : Nat) : Prop := ((l.take j).map Prod.fst).contains x = false
theorem far_snoc {l : List Mb} {x : Int} {j : Nat} {s : Mb} (h : far l x j) (hs : l[j]? = some s) (hne : s.1 ≠ x) : far l x (j+1) := by
  unfold far at *
  rw [List.take_add_one, hs, List.map_append, List.contains_append, h]
  simp [Ne.symm hne]
theorem far_not {l : List Mb} {x : Int} {j k : Nat} {s : Mb} (hs : l[j]? = some s) (hjk : j < k) (he : s.1 = x) : ((l.take k).map Prod.fst).contains x = true := by
  rw [List.contains_eq_mem, decide_eq_true_eq]
  refine List.mem_map.2 ⟨s, ?_, he⟩
  exact List.mem_of_getElem? (by rw [List.getElem?_take_of_lt hjk]; exact hs)
theorem rgt_pos {l : List Mb} (h : Rgt l) : 1 ≤ tot l := by
  obtain ⟨h1, _, h3, _⟩ := h
  match l, h1, h3 with
  | s :: l, _, h3 =>
    have h4 := h3.1 s (by simp)
    have h5 := fair_tot l ⟨fun t ht => h3.1 t (by simp [ht]), (List.nodup_cons.1 h3.2).2⟩
    show 1 ≤ s.2.1 + tot l
    omega
open Classical in
noncomputable def ttl (l : List Mb) : Int := if Rgt l then tot l else 0
open Classical in
theorem ttl_yes {l : List Mb} (h : Rgt l) : ttl l = tot l := if_pos h
theorem ttl_no {l : List Mb} (h : ¬ Rgt l) : ttl l = 0 := if_neg h
set_option maxRecDepth 100000 in
set_option maxHeartbeats 4000000 in
theorem total_any (w : World) (v : Value) (l : List Mb) (r : Int) (h : ttl l = r) (hV : MbL w v l) :
    Calls Try.prog 21 #[v] w fun e w' => e = .returned (.int .i64 r) ∧ Below w.heap.size w w' := by
  obtain ⟨⟨p, c, rfl, hc⟩, hr, hln⟩ := hV
  have HI := Lib.hid (And.intro hc hr); clear hc hr
  obtain ⟨N, hN⟩ : ∃ N, l.length = N := ⟨_, rfl⟩
  rw [hN] at hln
  rw [hN]
  have HN := Lib.hid hN; clear hN
  have HR := Lib.hid h
  by_cases hN1 : N < 1
  · obtain rfl : r = 0 := by rw [← h, ttl_no (fun h => by have := h.1; rw [HN.out] at this; omega)]
    clear h
    go_enter Try.func21, Try.ntmps21
    go_wp2
    go_ret
    exact ⟨rfl, Below.refl _ _⟩
  by_cases hN13 : 13 < N
  · obtain rfl : r = 0 := by rw [← h, ttl_no (fun h => by have := h.2.1; rw [HN.out] at this; omega)]
    clear h
    go_enter Try.func21, Try.ntmps21
    go_wp2
    go_ret
    exact ⟨rfl, Below.refl _ _⟩
  clear h
  go_enter Try.func21, Try.ntmps21
  go_wp2_with fail
  go_loopw [3, 4] (fun t i wr => ∃ (k : Nat) (z : Int), k ≤ N ∧ t = .int .i64 z ∧ i = .int .i64 (k : Int) ∧ 0 ≤ z ∧ z ≤ 260 ∧ Hid (tot (l.take k) = z ∧ Fair (l.take k)) ∧ Hid (Below w.heap.size w wr)) (fun _ i _ => N - (match i with | .int _ i => i.toNat | _ => 0))
  case atStart => exact ⟨0, 0, Nat.zero_le _, rfl, rfl, by omega, by omega, Lib.hid ⟨rfl, by simp, by simp⟩, Lib.hid (Below.refl _ _)⟩
  case round =>
    obtain ⟨k, z, hk, rfl, rfl, hz0, hz1, ht, hb⟩ := hrel
    by_cases hlt : k < N
    · obtain ⟨⟨x, y, u⟩, hx⟩ : ∃ s, l[k]? = some s := ⟨l[k]'(by rw [HN.out]; exact hlt), List.getElem?_eq_getElem _⟩
      obtain ⟨b, o, hp, hc0, hc1, hc2⟩ := HI.out.1 k _ hx
      subst hp
      have c1 := (hb.out.cell (p := ⟨b, o + k * 3 + 1, none⟩) (World.block_lt_of_cell? _ _ hc1)).trans hc1
      dsimp only at c1
      have hix := HI.out.2 _ (List.mem_of_getElem? hx)
      have hix0 : i64 x := hix.1
      have hix1 : i64 y := hix.2.1
      have HX := Lib.hid hx
      have HC0 := Lib.hid (And.intro hc0 hc1)
      clear hx hc0 hc1 hc2 hix
      by_cases h1 : y < 1
      · obtain rfl : r = 0 := by rw [← HR.out, ttl_no (fun h => Fair.not HX.out (.inr (.inl h1)) h.2.2.1)]
        go_wp2
        go_ret
        exact ⟨rfl, hb.out⟩
      by_cases h2 : 20 < y
      · obtain rfl : r = 0 := by rw [← HR.out, ttl_no (fun h => Fair.not HX.out (.inr (.inr h2)) h.2.2.1)]
        go_wp2
        go_ret
        exact ⟨rfl, hb.out⟩
      have HB := Lib.hid hb.out
      clear hb
      go_wp2_with fail
      clear c1
      go_loopw [5] (fun i wx => ∃ (j : Nat), j ≤ k ∧ i = .int .i64 (j : Int) ∧ Hid (far l x j) ∧ Hid (Below w.heap.size w wx)) (fun i _ => k - (match i with | .int _ i => i.toNat | _ => 0))
      case atStart => exact ⟨0, Nat.zero_le _, rfl, Lib.hid (by unfold far; simp), HB⟩
      case round =>
        obtain ⟨j, hjk, rfl, hf, hb⟩ := hrel
        have c0 := (hb.out.cell (p := ⟨b, o + k * 3, none⟩) (World.block_lt_of_cell? _ _ HC0.out.1)).trans HC0.out.1
        have c1 := (hb.out.cell (p := ⟨b, o + k * 3 + 1, none⟩) (World.block_lt_of_cell? _ _ HC0.out.2)).trans HC0.out.2
        try dsimp only at c0 c1
        by_cases hjlt : j < k
        · obtain ⟨⟨x2, y2, u2⟩, hx2⟩ : ∃ s, l[j]? = some s := ⟨l[j]'(by rw [HN.out]; omega), List.getElem?_eq_getElem _⟩
          obtain ⟨b2, o2, hp, hd0, hd1, hd2⟩ := HI.out.1 j _ hx2
          have hp : b = b2 ∧ o = o2 := by simpa using hp
          obtain ⟨rfl, rfl⟩ := hp
          have d0 := (hb.out.cell (p := ⟨b, o + j * 3, none⟩) (World.block_lt_of_cell? _ _ hd0)).trans hd0
          dsimp only at d0
          have hjN : j < N := by omega
          by_cases e : x2 = x
          · subst e
            obtain rfl : r = 0 := by rw [← HR.out, ttl_no (fun h => Fair.not HX.out (.inl (far_not hx2 hjlt rfl)) h.2.2.1)]
            have hb2 := Lib.hid hb.out.drew
            clear hx2 hd0 hd1 hd2
            go_wp2_with fail
            go_region
            go_wp2
            go_ret
            exact ⟨rfl, hb2.out⟩
          · have hf2 := Lib.hid (far_snoc hf.out hx2 e)
            have hb2 := Lib.hid hb.out.drew
            clear hx2 hd0 hd1 hd2
            go_wp2_with fail
            go_region
            go_wp2
            exact ⟨⟨j + 1, by omega, by go_num, hf2, hb2⟩, by simp; omega⟩
        · obtain rfl : j = k := by omega
          have hf2 := ht.out.2.snoc HX.out (by show 1 ≤ y; omega) (by show y ≤ 20; omega) hf.out
          have ht2 : tot (l.take (j+1)) = z + y := by rw [tot_snoc l j _ HX.out, ht.out.1]
          have hz2 := fair_tot _ hf2
          rw [ht2, List.length_take] at hz2
          have hzy : 0 ≤ z + y ∧ z + y ≤ 260 := ⟨hz2.1, by omega⟩
          have HT2 := Lib.hid (And.intro ht2 hf2)
          have HBj := hb
          clear hf2 ht2 hz2 hb
          go_wp2
          exact ⟨⟨j + 1, z + y, by omega, rfl, by go_num, hzy.1, hzy.2, HT2, HBj⟩, by simp; omega⟩
    · obtain rfl : k = N := by omega
      have hE : l.take k = l := List.take_of_length_le (by rw [HN.out]; exact Nat.le_refl _)
      rw [hE] at ht
      clear hE
      by_cases h60 : 60 < z
      · obtain rfl : r = 0 := by rw [← HR.out, ttl_no (fun h => by have := h.2.2.2; rw [ht.out.1] at this; omega)]
        go_wp2
        go_ret
        exact ⟨rfl, hb.out⟩
      · obtain rfl : r = z := by rw [← HR.out, ttl_yes ⟨by rw [HN.out]; omega, by rw [HN.out]; omega, ht.out.2, by rw [ht.out.1]; omega⟩, ht.out.1]
        go_wp2
        go_ret
        exact ⟨rfl, hb.out⟩
end Go.Proofs.Ytihplnomhfpajaa.W8
