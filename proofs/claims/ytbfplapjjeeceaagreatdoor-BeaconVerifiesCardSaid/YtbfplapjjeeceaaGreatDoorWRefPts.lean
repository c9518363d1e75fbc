/-
  The law's own helpers: lists of lists compared, members by weights; powers of the reference.
  Members by weights, as the laws make them; the law's sanity: the examples of the chapter.
  The walk of the law's sanity.
  The walks of the reference's Most and Need.
  The walks of the reference's total and Points.
  The walk of the reference's Points.
-/
import Derived.Test.YtbfplapjjeeceaaGreatDoorWPointsB
import Derived.Test.YtbfplapjjeeceaaGreatDoorGRefB
import Derived.Deep.RegionWith
namespace Go.Proofs.YtbfplapjjeeceaaGreatDoor.W8
open Go.RowKit GM G4 D7P Go.Maps
theorem take_ne {α : Type} {A B : List α} {k : Nat} {x y : α} (hx : A[k]? = some x) (hy : B[k]? = some y) (h : x ≠ y) : A ≠ B := fun e => by
  subst e; rw [hx] at hy; injection hy with e; exact h e
theorem take_eq {α : Type} {A B : List α} {k : Nat} {x : α} (h : A.take k = B.take k) (hx : A[k]? = some x) (hy : B[k]? = some x) : A.take (k+1) = B.take (k+1) := by
  rw [List.take_add_one, List.take_add_one, hx, hy, h]
theorem LLi.at {w : World} {p : Option Addr} {L : List (List Int)} (hc : ∀ (j : Nat) (l : List Int), L[j]? = some l → ∃ b o u, p = some ⟨b, o, none⟩ ∧ w.cell? ⟨b, o + j, none⟩ = some u ∧ SLi w u l) {k : Nat} (h : k < L.length) :
    ∃ l b o u, L[k]? = some l ∧ p = some ⟨b, o, none⟩ ∧ w.cell? ⟨b, o + k, none⟩ = some u ∧ SLi w u l := by
  obtain ⟨l, hl⟩ : ∃ l, L[k]? = some l := ⟨L[k]'h, List.getElem?_eq_getElem _⟩
  obtain ⟨b, o, u, h1, h2, h3⟩ := hc k l hl
  exact ⟨l, b, o, u, hl, h1, h2, h3⟩
end Go.Proofs.YtbfplapjjeeceaaGreatDoor.W8
namespace Go.Proofs.YtbfplapjjeeceaaGreatDoor.W8
open Go.RowKit GM G4 D7P Go.Maps
def mc (s : Mb) : List Value := [.int .i64 s.1, .int .i64 s.2.1, .int .i64 s.2.2]
def flat : List Mb → List Value
  | [] => []
  | s :: l => mc s ++ flat l
theorem flat_append (a b : List Mb) : flat (a ++ b) = flat a ++ flat b := by
  induction a with
  | nil => rfl
  | cons s l ih => show mc s ++ flat (l ++ b) = mc s ++ flat l ++ flat b; rw [ih, List.append_assoc]
theorem flat_get : ∀ (l : List Mb) (j : Nat) (s : Mb), l[j]? = some s → (flat l)[j * 3]? = some (.int .i64 s.1) ∧ (flat l)[j * 3 + 1]? = some (.int .i64 s.2.1) ∧ (flat l)[j * 3 + 2]? = some (.int .i64 s.2.2)
  | [], _, _, h => by simp at h
  | t :: l, 0, s, h => by
    have : t = s := by simpa using h
    subst this
    exact ⟨rfl, rfl, rfl⟩
  | t :: l, j+1, s, h => by
    have ih := flat_get l j s (by simpa using h)
    have e : ∀ i, (flat (t :: l))[(j + 1) * 3 + i]? = (flat l)[j * 3 + i]? := fun i => by
      show (mc t ++ flat l)[(j + 1) * 3 + i]? = _
      rw [List.getElem?_append_right (by show 3 ≤ _; omega)]
      congr 1
      show _ - 3 = _
      omega
    exact ⟨(e 0).trans ih.1, (e 1).trans ih.2.1, (e 2).trans ih.2.2⟩
theorem own_MbL {w : World} {base : Nat} {v : Value} {l : List Mb} (h : w.ownsRow base 77 3 v l.length (flat l)) (hr : ∀ s ∈ l, i64 s.1 ∧ i64 s.2.1 ∧ i64 s.2.2) (hn : l.length ≤ 1000000000) : MbL w v l := by
  refine ⟨?_, hr, hn⟩
  rcases h.2 with ⟨rfl, h0⟩ | ⟨g, cap, cur, rfl, h2, h3, h4, h5, h6, h7⟩
  · have : l = [] := List.length_eq_zero_iff.1 h0
    subst this
    exact ⟨none, 0, rfl, fun j y hj => by simp at hj⟩
  · have rd : ∀ i u, (flat l)[i]? = some u → w.cell? ⟨g, 0 + i, none⟩ = some u := fun i u hi => by
      rw [Nat.zero_add, cell_of_row w g i _ _ _ h3, ← Array.getElem?_toList]
      rw [← h7] at hi
      have hlt := (List.getElem?_eq_some_iff.1 hi).1
      rw [List.getElem?_take_of_lt (by rw [List.length_take] at hlt; omega)] at hi
      exact hi
    refine ⟨_, cap, rfl, fun j s hj => ?_⟩
    obtain ⟨k1, k2, k3⟩ := flat_get l j s hj
    exact ⟨g, 0, rfl, rd _ _ k1, by rw [Nat.add_assoc]; exact rd _ _ k2, by rw [Nat.add_assoc]; exact rd _ _ k3⟩
theorem infoM : (Tryz.prog.info? 77).map (fun i => (i.zero, i.size, i.bytes)) = some (some (.agg #[.int .i64 0, .int .i64 0, .int .i64 0]), 3, 24) := by kernel_rfl
def mbs : Nat → List Int → List Mb
  | _, [] => []
  | k, x :: l => (1 + (k : Int), x, 0) :: mbs (k + 1) l
theorem mbs_len : ∀ (l : List Int) (k : Nat), (mbs k l).length = l.length
  | [], _ => rfl
  | x :: l, k => by show (mbs (k+1) l).length + 1 = l.length + 1; rw [mbs_len l]
theorem mbs_append : ∀ (a b : List Int) (k : Nat), mbs k (a ++ b) = mbs k a ++ mbs (k + a.length) b
  | [], b, k => rfl
  | x :: a, b, k => by
    show (1 + (k : Int), x, 0) :: mbs (k+1) (a ++ b) = (1 + (k : Int), x, 0) :: (mbs (k+1) a ++ mbs (k + (a.length + 1)) b)
    rw [mbs_append a b, show k + 1 + a.length = k + (a.length + 1) by omega]
theorem mbs_rng : ∀ (l : List Int) (k : Nat), (∀ x ∈ l, i64 x) → k + l.length ≤ 1000000000 → ∀ s ∈ mbs k l, i64 s.1 ∧ i64 s.2.1 ∧ i64 s.2.2
  | [], _, _, _, s, h => by simp [mbs] at h
  | x :: l, k, hr, hl, s, h => by
    rcases List.mem_cons.1 h with rfl | h
    · have : k + (l.length + 1) ≤ 1000000000 := hl
      exact ⟨⟨by show _ ≤ 1 + (k : Int); omega, by show 1 + (k : Int) ≤ _; omega⟩, hr x (by simp), by show _ ≤ (0 : Int); decide, by show (0 : Int) ≤ _; decide⟩
    · exact mbs_rng l (k+1) (fun y hy => hr y (by simp [hy])) (by have : k + (l.length + 1) ≤ 1000000000 := hl; omega) s h
/-- the numbers of the examples -/
theorem gpk (b e r : Nat) (he : e < 2^64) (h : NM.pw 2305843009213691579 64 b e = r) : gp (b : Int) (e : Int) 2305843009213691579 = (r : Int) := by
  have := gp_nat b e 2305843009213691579 (by decide) he
  rw [h] at this
  exact this
theorem p7 : gp 4 7 2305843009213691579 = 16384 := gpk 4 7 16384 (by decide) (by decide +kernel)
theorem p9 : gp 4 9 2305843009213691579 = 262144 := gpk 4 9 262144 (by decide) (by decide +kernel)
theorem p5 : gp 4 5 2305843009213691579 = 1024 := gpk 4 5 1024 (by decide) (by decide +kernel)
theorem m7 : mem 16384 = true := by unfold mem; rw [show gp 16384 1152921504606845789 2305843009213691579 = 1 from gpk 16384 1152921504606845789 1 (by decide) (by decide +kernel)]; decide
theorem m9 : mem 262144 = true := by unfold mem; rw [show gp 262144 1152921504606845789 2305843009213691579 = 1 from gpk 262144 1152921504606845789 1 (by decide) (by decide +kernel)]; decide
theorem iv1 : iv 1 = 1 := iv_eq 1 1 (.inl ⟨rfl, by decide, by decide, by decide, by decide⟩)
theorem ivm : iv (-1) = 1152921504606845788 := iv_eq (-1) 1152921504606845788 (.inl ⟨rfl, by decide, by decide, by decide, by decide⟩)
theorem f1 : fx [1, 2] 1 = 2 := by
  show fst 1 (fst 1 1 1) 2 = 2
  unfold fst
  rw [if_pos rfl, if_neg (by decide), show (2 : Int) - 1 = 1 by decide, iv1]; decide
theorem f2 : fx [1, 2] 2 = 1152921504606845788 := by
  show fst 2 (fst 2 1 1) 2 = 1152921504606845788
  unfold fst
  rw [if_pos rfl, if_neg (by decide), show (1 : Int) - 2 = -1 by decide, ivm]; decide
end Go.Proofs.YtbfplapjjeeceaaGreatDoor.W8
namespace Go.Proofs.YtbfplapjjeeceaaGreatDoor.W8
open Go.RowKit GM G4 D7P Go.Maps
theorem SLi.new (w : World) (l : List Int) (hr : ∀ y ∈ l, i64 y) (hn : l.length ≤ 1000000000) (cs : Array Value) (hc : cs.toList = l.map (Value.int .i64)) (t : TypeId) (n c : Nat) (hl : l.length = n) : SLi (w.alloc (.cells cs t)) (.slice (some ⟨w.heap.size, 0, none⟩) n c) l := by
  subst hl
  refine ⟨⟨_, c, rfl, fun j y hj => ⟨_, 0, rfl, ?_⟩⟩, hr, hn⟩
  rw [World.cell?_alloc_at _ _ _ _ rfl, Nat.zero_add, ← Array.getElem?_toList, hc, List.getElem?_map, hj]; rfl
def fl2 : List (Int × Int) → List Value
  | [] => []
  | s :: l => .int .i64 s.1 :: .int .i64 s.2 :: fl2 l
theorem fl2_get : ∀ (l : List (Int × Int)) (j : Nat) (s : Int × Int), l[j]? = some s → (fl2 l)[j * 2]? = some (.int .i64 s.1) ∧ (fl2 l)[j * 2 + 1]? = some (.int .i64 s.2)
  | [], _, _, h => by simp at h
  | t :: l, 0, s, h => by
    have : t = s := by simpa using h
    subst this
    exact ⟨rfl, rfl⟩
  | t :: l, j+1, s, h => by
    have ih := fl2_get l j s (by simpa using h)
    have e : ∀ i, (fl2 (t :: l))[(j + 1) * 2 + i]? = (fl2 l)[j * 2 + i]? := fun i => by
      rw [show (j + 1) * 2 + i = j * 2 + i + 1 + 1 by omega]; rfl
    exact ⟨(e 0).trans ih.1, (e 1).trans ih.2⟩
theorem ShL.new (w : World) (l : List (Int × Int)) (hr : ∀ s ∈ l, i64 s.1 ∧ i64 s.2) (hn : l.length ≤ 1000000000) (cs : Array Value) (hc : cs.toList = fl2 l) (t : TypeId) (n c : Nat) (hl : l.length = n) : ShL (w.alloc (.cells cs t)) (.slice (some ⟨w.heap.size, 0, none⟩) n c) l := by
  subst hl
  refine ⟨⟨_, c, rfl, fun j s hj => ⟨_, 0, rfl, ?_, ?_⟩⟩, hr, hn⟩
  · rw [World.cell?_alloc_at _ _ _ _ rfl, Nat.zero_add, ← Array.getElem?_toList, hc]; exact (fl2_get l j s hj).1
  · rw [World.cell?_alloc_at _ _ _ _ rfl, Nat.zero_add, ← Array.getElem?_toList, hc]; exact (fl2_get l j s hj).2
end Go.Proofs.YtbfplapjjeeceaaGreatDoor.W8
namespace Go.Proofs.YtbfplapjjeeceaaGreatDoor.W8
open Go.RowKit GM G4 Go.Maps
theorem refMost_any (w : World) (n r : Int) (h : mst n = r) (hn : i64 n) (hn9 : n ≤ 1000000000) :
    Calls Tryz.prog 80 #[.int .i64 n] w fun e w' => e = .returned (.int .i64 r) ∧ w' = w := by
  by_cases h1 : n < 1
  · obtain rfl : r = 0 := by rw [← h]; unfold mst; rw [if_pos h1]
    clear h
    go_enter Tryz.func80, Tryz.ntmps80
    go_wp2_with fail
    go_loopw [3] (fun i wx => i = .int .i64 0 ∧ wx = w) (fun _ _ => 0)
    case atStart => exact ⟨rfl, rfl⟩
    case round =>
      obtain ⟨rfl, rfl⟩ := hrel
      have e1 : ¬ (1 ≤ n) := by omega
      go_wp2
      go_ret
      exact ⟨rfl, rfl⟩
  · have h2 : 1 ≤ n := by omega
    have e : (n - 1) / 3 = r := by rw [← h]; unfold mst; rw [if_neg h1, tdiv3 n h2]
    have hd : Int.tdiv n 3 = n / 3 := Int.tdiv_eq_ediv_of_nonneg (by omega)
    obtain ⟨R, hR⟩ : ∃ R : Nat, r = (R : Int) := ⟨r.toNat, by omega⟩
    subst hR
    have HE := Lib.hid e; clear h e h1
    go_enter Tryz.func80, Tryz.ntmps80
    go_wp2_with fail
    go_loopw [3] (fun i wx => ∃ k : Nat, k ≤ R ∧ i = .int .i64 (k : Int) ∧ wx = w) (fun i _ => R - (match i with | .int _ i => i.toNat | _ => 0))
    case atStart => exact ⟨0, Nat.zero_le _, rfl, rfl⟩
    case round =>
      obtain ⟨k, hk, rfl, rfl⟩ := hrel
      have hE := HE.out
      have c1 : (k : Int) < n / 3 + 1 := by omega
      have c2 : (k : Int) + 1 ≤ 9223372036854775807 := by omega
      have c3 : 3 * ((k : Int) + 1) ≤ 9223372036854775807 := by omega
      by_cases hlt : k < R
      · have c4 : 3 * ((k : Int) + 1) < n := by omega
        clear hE
        go_wp2
        exact ⟨⟨k + 1, by omega, by go_num, by first | rfl | trivial⟩, by simp; omega⟩
      · have c4 : ¬ (3 * ((k : Int) + 1) < n) := by omega
        obtain rfl : k = R := by omega
        clear hE
        go_wp2
        go_ret
        exact ⟨rfl, rfl⟩
theorem refNeed_any (w : World) (n r : Int) (h : ned n = r) (hn : i64 n) (hn9 : n ≤ 1000000000) :
    Calls Tryz.prog 42 #[.int .i64 n] w fun e w' => e = .returned (.int .i64 r) ∧ w' = w := by
  by_cases h1 : n < 1
  · obtain rfl : r = 0 := by rw [← h]; unfold ned; rw [if_pos h1]
    clear h
    go_enter Tryz.func42, Tryz.ntmps42
    go_wp2
    go_ret
    exact ⟨rfl, rfl⟩
  · have e : mst n + 1 = r := by rw [← h]; unfold ned mst; rw [if_neg h1, if_neg h1]
    have h2 : 1 ≤ n := by omega
    have hm : mst n = (n - 1) / 3 := by unfold mst; rw [if_neg h1, tdiv3 n h2]
    clear h
    have M := Lib.hid fun W => refMost_any W n _ rfl hn hn9
    have h3 : mst n ≤ 9000000000000000000 := by rw [hm]; omega
    have h4 : 0 ≤ mst n := by rw [hm]; omega
    generalize mst n = d at *
    subst e
    clear hm
    go_enter Tryz.func42, Tryz.ntmps42
    go_wp2_with fail
    refine (M.out _).mono ?_
    rintro e v ⟨rfl, rfl⟩
    go_wp2
    go_ret
    exact ⟨rfl, rfl⟩
end Go.Proofs.YtbfplapjjeeceaaGreatDoor.W8
namespace Go.Proofs.YtbfplapjjeeceaaGreatDoor.W8
open Go.RowKit GM G4 D7P Go.Maps
/-- a member's Id differs from those before it -/
def far (l : List Mb) (x : Int) (j : Nat) : Prop := ((l.take j).map Prod.fst).contains x = false
theorem far_snoc {l : List Mb} {x : Int} {j : Nat} {s : Mb} (h : far l x j) (hs : l[j]? = some s) (hne : s.1 ≠ x) : far l x (j+1) := by
  unfold far at *
  rw [List.take_add_one, hs, List.map_append, List.contains_append, h]
  simp [Ne.symm hne]
theorem far_not {l : List Mb} {x : Int} {j k : Nat} {s : Mb} (hs : l[j]? = some s) (hjk : j < k) (he : s.1 = x) : ((l.take k).map Prod.fst).contains x = true := by
  rw [List.contains_eq_mem, decide_eq_true_eq]
  refine List.mem_map.2 ⟨s, ?_, he⟩
  exact List.mem_of_getElem? (by rw [List.getElem?_take_of_lt hjk]; exact hs)
theorem rgt_pos {l : List Mb} (h : Rgt l) : 1 ≤ tot l := by
  obtain ⟨h1, _, h3, _⟩ := h
  match l, h1, h3 with
  | s :: l, _, h3 =>
    have h4 := h3.1 s (by simp)
    have h5 := fair_tot l ⟨fun t ht => h3.1 t (by simp [ht]), (List.nodup_cons.1 h3.2).2⟩
    show 1 ≤ s.2.1 + tot l
    omega
open Classical in
noncomputable def ttl (l : List Mb) : Int := if Rgt l then tot l else 0
open Classical in
theorem ttl_yes {l : List Mb} (h : Rgt l) : ttl l = tot l := if_pos h
theorem ttl_no {l : List Mb} (h : ¬ Rgt l) : ttl l = 0 := if_neg h
set_option maxRecDepth 100000 in
set_option maxHeartbeats 4000000 in
theorem total_any (w : World) (v : Value) (l : List Mb) (r : Int) (h : ttl l = r) (hV : MbL w v l) :
    Calls Tryz.prog 79 #[v] w fun e w' => e = .returned (.int .i64 r) ∧ Below w.heap.size w w' := by
  obtain ⟨⟨p, c, rfl, hc⟩, hr, hln⟩ := hV
  have HI := Lib.hid (And.intro hc hr); clear hc hr
  obtain ⟨N, hN⟩ : ∃ N, l.length = N := ⟨_, rfl⟩
  rw [hN] at hln
  rw [hN]
  have HN := Lib.hid hN; clear hN
  have HR := Lib.hid h
  by_cases hN1 : N < 1
  · obtain rfl : r = 0 := by rw [← h, ttl_no (fun h => by have := h.1; rw [HN.out] at this; omega)]
    clear h
    go_enter Tryz.func79, Tryz.ntmps79
    go_wp2
    go_ret
    exact ⟨rfl, Below.refl _ _⟩
  by_cases hN13 : 13 < N
  · obtain rfl : r = 0 := by rw [← h, ttl_no (fun h => by have := h.2.1; rw [HN.out] at this; omega)]
    clear h
    go_enter Tryz.func79, Tryz.ntmps79
    go_wp2
    go_ret
    exact ⟨rfl, Below.refl _ _⟩
  clear h
  go_enter Tryz.func79, Tryz.ntmps79
  go_wp2_with fail
  go_loopw [3, 4] (fun t i wr => ∃ (k : Nat) (z : Int), k ≤ N ∧ t = .int .i64 z ∧ i = .int .i64 (k : Int) ∧ 0 ≤ z ∧ z ≤ 260 ∧ Hid (tot (l.take k) = z ∧ Fair (l.take k)) ∧ Hid (Below w.heap.size w wr)) (fun _ i _ => N - (match i with | .int _ i => i.toNat | _ => 0))
  case atStart => exact ⟨0, 0, Nat.zero_le _, rfl, rfl, by omega, by omega, Lib.hid ⟨rfl, by simp, by simp⟩, Lib.hid (Below.refl _ _)⟩
  case round =>
    obtain ⟨k, z, hk, rfl, rfl, hz0, hz1, ht, hb⟩ := hrel
    by_cases hlt : k < N
    · obtain ⟨⟨x, y, u⟩, hx⟩ : ∃ s, l[k]? = some s := ⟨l[k]'(by rw [HN.out]; exact hlt), List.getElem?_eq_getElem _⟩
      obtain ⟨b, o, hp, hc0, hc1, hc2⟩ := HI.out.1 k _ hx
      subst hp
      have c1 := (hb.out.cell (p := ⟨b, o + k * 3 + 1, none⟩) (World.block_lt_of_cell? _ _ hc1)).trans hc1
      dsimp only at c1
      have hix := HI.out.2 _ (List.mem_of_getElem? hx)
      have hix0 : i64 x := hix.1
      have hix1 : i64 y := hix.2.1
      have HX := Lib.hid hx
      have HC0 := Lib.hid (And.intro hc0 hc1)
      clear hx hc0 hc1 hc2 hix
      by_cases h1 : y < 1
      · obtain rfl : r = 0 := by rw [← HR.out, ttl_no (fun h => Fair.not HX.out (.inr (.inl h1)) h.2.2.1)]
        go_wp2
        go_ret
        exact ⟨rfl, hb.out⟩
      by_cases h2 : 20 < y
      · obtain rfl : r = 0 := by rw [← HR.out, ttl_no (fun h => Fair.not HX.out (.inr (.inr h2)) h.2.2.1)]
        go_wp2
        go_ret
        exact ⟨rfl, hb.out⟩
      have HB := Lib.hid hb.out
      clear hb
      go_wp2_with fail
      clear c1
      go_loopw [5] (fun i wx => ∃ (j : Nat), j ≤ k ∧ i = .int .i64 (j : Int) ∧ Hid (far l x j) ∧ Hid (Below w.heap.size w wx)) (fun i _ => k - (match i with | .int _ i => i.toNat | _ => 0))
      case atStart => exact ⟨0, Nat.zero_le _, rfl, Lib.hid (by unfold far; simp), HB⟩
      case round =>
        obtain ⟨j, hjk, rfl, hf, hb⟩ := hrel
        have c0 := (hb.out.cell (p := ⟨b, o + k * 3, none⟩) (World.block_lt_of_cell? _ _ HC0.out.1)).trans HC0.out.1
        have c1 := (hb.out.cell (p := ⟨b, o + k * 3 + 1, none⟩) (World.block_lt_of_cell? _ _ HC0.out.2)).trans HC0.out.2
        try dsimp only at c0 c1
        by_cases hjlt : j < k
        · obtain ⟨⟨x2, y2, u2⟩, hx2⟩ : ∃ s, l[j]? = some s := ⟨l[j]'(by rw [HN.out]; omega), List.getElem?_eq_getElem _⟩
          obtain ⟨b2, o2, hp, hd0, hd1, hd2⟩ := HI.out.1 j _ hx2
          have hp : b = b2 ∧ o = o2 := by simpa using hp
          obtain ⟨rfl, rfl⟩ := hp
          have d0 := (hb.out.cell (p := ⟨b, o + j * 3, none⟩) (World.block_lt_of_cell? _ _ hd0)).trans hd0
          dsimp only at d0
          have hjN : j < N := by omega
          by_cases e : x2 = x
          · subst e
            obtain rfl : r = 0 := by rw [← HR.out, ttl_no (fun h => Fair.not HX.out (.inl (far_not hx2 hjlt rfl)) h.2.2.1)]
            have hb2 := Lib.hid hb.out.drew
            clear hx2 hd0 hd1 hd2
            go_wp2_with fail
            go_region
            go_wp2
            go_ret
            exact ⟨rfl, hb2.out⟩
          · have hf2 := Lib.hid (far_snoc hf.out hx2 e)
            have hb2 := Lib.hid hb.out.drew
            clear hx2 hd0 hd1 hd2
            go_wp2_with fail
            go_region
            go_wp2
            exact ⟨⟨j + 1, by omega, by go_num, hf2, hb2⟩, by simp; omega⟩
        · obtain rfl : j = k := by omega
          have hf2 := ht.out.2.snoc HX.out (by show 1 ≤ y; omega) (by show y ≤ 20; omega) hf.out
          have ht2 : tot (l.take (j+1)) = z + y := by rw [tot_snoc l j _ HX.out, ht.out.1]
          have hz2 := fair_tot _ hf2
          rw [ht2, List.length_take] at hz2
          have hzy : 0 ≤ z + y ∧ z + y ≤ 260 := ⟨hz2.1, by omega⟩
          have HT2 := Lib.hid (And.intro ht2 hf2)
          have HBj := hb
          clear hf2 ht2 hz2 hb
          go_wp2
          exact ⟨⟨j + 1, z + y, by omega, rfl, by go_num, hzy.1, hzy.2, HT2, HBj⟩, by simp; omega⟩
    · obtain rfl : k = N := by omega
      have hE : l.take k = l := List.take_of_length_le (by rw [HN.out]; exact Nat.le_refl _)
      rw [hE] at ht
      clear hE
      by_cases h60 : 60 < z
      · obtain rfl : r = 0 := by rw [← HR.out, ttl_no (fun h => by have := h.2.2.2; rw [ht.out.1] at this; omega)]
        go_wp2
        go_ret
        exact ⟨rfl, hb.out⟩
      · obtain rfl : r = z := by rw [← HR.out, ttl_yes ⟨by rw [HN.out]; omega, by rw [HN.out]; omega, ht.out.2, by rw [ht.out.1]; omega⟩, ht.out.1]
        go_wp2
        go_ret
        exact ⟨rfl, hb.out⟩
end Go.Proofs.YtbfplapjjeeceaaGreatDoor.W8
namespace Go.Proofs.YtbfplapjjeeceaaGreatDoor.W8
open Go.RowKit GM G4 D7P Go.Maps
open Classical in
set_option maxRecDepth 100000 in
set_option maxHeartbeats 4000000 in
theorem refPoints_any (w : World) (v : Value) (l : List Mb) (hV : MbL w v l) : Calls Tryz.prog 41 #[v] w (PQ w l) := by
  obtain ⟨i0, hi, hz0, hz1, hz2⟩ := info_parts infoI
  obtain ⟨j0, hj, hy0, hy1, hy2⟩ := info_parts infoL
  have A := Lib.hid (total_any w v l _ rfl hV)
  obtain ⟨⟨p, c, rfl, hc⟩, hr, hln⟩ := hV
  have HI := Lib.hid (And.intro hc hr); clear hc hr
  by_cases hR : Rgt l
  · rw [ttl_yes hR] at A
    have hpos := rgt_pos hR
    obtain ⟨T, hT⟩ : ∃ T, tot l = T := ⟨_, rfl⟩
    rw [hT] at A hpos
    have HTT := Lib.hid hT; clear hT
    obtain ⟨N, hN⟩ : ∃ N, l.length = N := ⟨_, rfl⟩
    rw [hN] at A hln ⊢
    have hN13 : N ≤ 13 := by rw [← hN]; exact hR.2.1
    have HR := Lib.hid hR
    have HN := Lib.hid hN; clear hN hR
    go_enter Tryz.func41, Tryz.ntmps41
    go_wp2_with fail
    refine A.out.mono ?_
    rintro e w1 ⟨rfl, b1⟩
    have HB1 := Lib.hid b1; clear b1 A
    have hT0 : (T == 0) = false := by rw [beq_eq_false_iff_ne]; omega
    go_wp2_with fail
    go_loopw [4, 5, 6] (fun a n i wr => ∃ (k : Nat) (z : Int), k ≤ N ∧ n = .int .i64 z ∧ i = .int .i64 (k : Int) ∧ 0 ≤ z ∧ z ≤ 260 ∧ Hid (z = tot (l.take k) ∧ PS w a (ptl 1 (l.take k)) wr)) (fun _ _ i _ => N - (match i with | .int _ i => i.toNat | _ => 0))
    case atStart => exact ⟨0, 0, Nat.zero_le _, rfl, rfl, by omega, by omega, Lib.hid ⟨rfl, HB1.out, [], World.ownsRow_nil _ _ _ _, fun j l hj => by simp [ptl] at hj⟩⟩
    case round =>
      obtain ⟨k, z, hk, rfl, rfl, hzl, hzu, hP⟩ := hrel
      by_cases hlt : k < N
      · obtain ⟨⟨x, y, u⟩, hx⟩ : ∃ s, l[k]? = some s := ⟨l[k]'(by rw [HN.out]; exact hlt), List.getElem?_eq_getElem _⟩
        obtain ⟨b, o, hp, hc0, hc1, hc2⟩ := HI.out.1 k _ hx
        subst hp
        have c0 := (hP.out.2.b.cell (p := ⟨b, o + k * 3, none⟩) (World.block_lt_of_cell? _ _ hc0)).trans hc0
        have c1 := (hP.out.2.b.cell (p := ⟨b, o + k * 3 + 1, none⟩) (World.block_lt_of_cell? _ _ hc1)).trans hc1
        have c2 := (hP.out.2.b.cell (p := ⟨b, o + k * 3 + 2, none⟩) (World.block_lt_of_cell? _ _ hc2)).trans hc2
        dsimp only at c0 c1 c2
        have hix := HI.out.2 _ (List.mem_of_getElem? hx)
        have hix1 : i64 y := hix.2.1
        have hy0' := HR.out.2.2.1.1 _ (List.mem_of_getElem? hx)
        have hyr : 1 ≤ y ∧ y ≤ 20 := hy0'
        have hsum := (fair_tot _ (fair_take HR.out.2.2.1 (k+1)))
        rw [tot_snoc l k _ hx, List.length_take] at hsum
        have hzy : z + y ≤ 260 := by have := hP.out.1; have h2 : tot (l.take k) + y ≤ 20 * ((min (k+1) l.length : Nat) : Int) := hsum.2; omega
        have HX := Lib.hid (And.intro (ptl_snoc l k _ hx) (tot_snoc l k _ hx))
        have hc1' := c1
        clear hx hc0 hc1 hc2 hix hy0' hsum
        have HC1 := Lib.hid hc1'
        have hPV := Lib.hid hP.out.2
        have HZ := Lib.hid hP.out.1
        clear c0 c1 c2 hP
        obtain ⟨m, rfl⟩ : ∃ m : Nat, y = (m : Int) := ⟨y.toNat, by omega⟩
        obtain ⟨V, hV⟩ : ∃ V, V = wr := ⟨_, rfl⟩
        subst hV
        clear hc1'
        go_wp2_with fail
        go_loopw [7, 5, 8] (fun pv n i wx => ∃ (j : Nat), j ≤ m ∧ n = .int .i64 (z + (j : Int)) ∧ i = .int .i64 (j : Int) ∧ Hid (wx.ownsRow V.heap.size 3 1 pv (rng (1 + z) j).length ((rng (1 + z) j).map (Value.int .i64)) ∧ Below V.heap.size V wx)) (fun _ _ i _ => m - (match i with | .int _ i => i.toNat | _ => 0))
        case atStart => exact ⟨0, Nat.zero_le _, by go_num, rfl, Lib.hid ⟨World.ownsRow_nil _ _ _ _, Below.refl _ _⟩⟩
        case round =>
          obtain ⟨j, hjm, rfl, rfl, hQ⟩ := hrel
          have cw := (hQ.out.2.cell (p := ⟨b, o + k * 3 + 1, none⟩) (World.block_lt_of_cell? _ _ HC1.out)).trans HC1.out
          by_cases hjlt : j < m
          · have hA := Lib.hid (And.intro (show (rng (1 + z) j).length + 1 ≤ maxLen by rw [rng_len]; unfold maxLen; omega) (show ((rng (1 + z) j).length + 1) * 8 ≤ 140737488355328 by rw [rng_len]; omega))
            have hN2 := Lib.hid (And.intro (show rng (1 + z) (j+1) = rng (1 + z) j ++ [z + (j : Int) + 1] by rw [rng_succ, show 1 + z + (j : Int) = z + (j : Int) + 1 by omega]) (rng_len (1 + z) j))
            go_wp2_with (at_builtin; refine wpList_append_lies _ rfl _ _ 34 rfl V.heap.size 3 i0 (.int .i64 0) 1 8 Tryz.underlying34 hi hz0 hz1 hz2 rfl (by decide) _ (rng (1 + z) j).length ((rng (1 + z) j).map (Value.int .i64)) rfl (hQ.out.1.alloc _) ⟨wr.heap.size, 0, none⟩ 1 1 [.int .i64 (z + (j : Int) + 1)] rfl rfl (World.news_of_block (heap_alloc_new _ _)) (by simp [Value.oneCell']) Nat.zero_lt_one hA.out.1 hA.out.2 (by rw [World.size_alloc]; exact Nat.le_succ_of_le hQ.out.2.size) _ rfl ?_; intro g9 c9 w9 hown9 hgrow9 hat9 hlt9)
            have K9 := Lib.hid (show w9.ownsRow V.heap.size 3 1 (.slice (some ⟨g9, 0, none⟩) ((rng (1 + z) j).length + 1) c9) (rng (1 + z) (j+1)).length ((rng (1 + z) (j+1)).map (Value.int .i64)) ∧ Below V.heap.size V w9 from ⟨by rw [hN2.out.1, List.length_append, List.map_append]; exact hown9, (hQ.out.2.alloc hQ.out.2.size _).grown hgrow9 (by rw [World.size_alloc]; exact Nat.le_succ_of_le hQ.out.2.size) (fun r hr => (hQ.out.1.lt r hr).1)⟩)
            clear hown9 hgrow9 hat9 hlt9
            exact ⟨⟨j + 1, by omega, by go_num, by go_num, K9⟩, by simp; omega⟩
          · obtain rfl : j = m := by omega
            obtain ⟨vs, hav, hrows⟩ := hPV.out.o
            have hbw := hPV.out.b.trans (hQ.out.2.mono hPV.out.b.size)
            have kB := hQ.out.2
            have hpv := own_base' hQ.out.1 hPV.out.b.size
            obtain ⟨p8, c8, rfl⟩ := own_shape hpv
            have hL : (ptl 1 (l.take k)).length = k := by rw [ptl_len, List.length_take, HN.out]; omega
            have hav2 := own_below' hav kB
            have hvs : vs.length = k := by have := hav.1; omega
            rw [hL] at hav2
            have HA := Lib.hid (And.intro hav2 hpv)
            have HW := Lib.hid (And.intro hbw (And.intro hrows (And.intro kB hL)))
            have hL13 : k + 1 ≤ maxLen ∧ (k + 1) * 24 ≤ 140737488355328 ∧ w.heap.size ≤ wr.heap.size := ⟨by unfold maxLen; omega, by omega, hbw.size⟩
            have HL13 := Lib.hid hL13
            clear hav hrows hbw kB hpv hL hav2 hQ hPV hvs hL13
            clear HC1
            go_upto_region 7 with (at_builtin; go_must (refine wpList_append_lies _ rfl _ _ 39 rfl w.heap.size 34 j0 (.slice none 0 0) 1 24 Tryz.underlying39 hj hy0 hy1 hy2 rfl (by decide) _ k vs rfl (HA.out.1.alloc _) ⟨wr.heap.size, 0, none⟩ 1 1 [.slice p8 (rng (1 + z) j).length c8] rfl rfl (World.news_of_block (heap_alloc_new _ _)) (fun q hq => by obtain rfl := List.mem_singleton.1 hq; rfl) Nat.zero_lt_one HL13.out.1 HL13.out.2.1 (by rw [World.size_alloc]; exact Nat.le_succ_of_le HL13.out.2.2) _ rfl ?_); intro g9 c9 w9 hown9 hgrow9 hat9 hlt9)
            have kk := (Below.refl wr.heap.size wr).alloc (Nat.le_refl _) (.cells #[.slice p8 (rng (1 + z) j).length c8] 34)
            have K9 := Lib.hid (show (z + (j : Int)) = tot (l.take (k+1)) ∧ PS w (.slice (some ⟨g9, 0, none⟩) (k + 1) c9) (ptl 1 (l.take (k+1))) w9 from ⟨by have := HX.out.2; have := HZ.out; omega, by
              have := PS.app (L := ptl 1 (l.take k)) (l := rng (1 + tot (l.take k)) ((j : Int)).toNat) (av := u4) (pv := .slice p8 (rng (1 + z) j).length c8) (vs := vs) (g := g9) (cap := c9) (HW.out.1.alloc HW.out.1.size (.cells #[.slice p8 (rng (1 + z) j).length c8] 34)) (by rw [HW.out.2.2.2]; exact HA.out.1.alloc _)
                (fun i q hq => by obtain ⟨v, h3, h4⟩ := HW.out.2.1 i q hq; exact ⟨v, h3, own_below' (own_below' h4 HW.out.2.2.1) kk⟩) (by rw [← HZ.out, Int.toNat_natCast]; exact HA.out.2.alloc _) (by rw [HW.out.2.2.2]; exact hown9) hgrow9
              rw [HX.out.1]
              rw [HW.out.2.2.2] at this
              exact this⟩)
            clear hown9 hgrow9 hat9 hlt9 kk
            go_wp2
            go_roundw
            case rel => exact ⟨k + 1, z + (j : Int), by omega, rfl, by go_num, by omega, by omega, K9⟩
            case measure => (simp; try omega)
      · obtain rfl : k = N := by omega
        have hE : l.take k = l := List.take_of_length_le (by rw [HN.out]; exact Nat.le_refl _)
        rw [hE] at hP
        have HQ := Lib.hid (show PQ w l (.returned (.tuple #[u4, .bool true])) wr from ⟨hP.out.2.b, .inl ⟨HR.out, u4, rfl, hP.out.2⟩⟩)
        clear hP hE
        go_wp2
        go_ret2
        exact HQ.out
  · rw [ttl_no hR] at A
    have HR := Lib.hid hR
    clear HI hR
    generalize l.length = N at *
    go_enter Tryz.func41, Tryz.ntmps41
    go_wp2_with fail
    refine A.out.mono ?_
    rintro e w1 ⟨rfl, b1⟩
    have HB1 := Lib.hid b1; clear b1 A
    go_wp2
    go_ret2
    exact ⟨HB1.out, .inr ⟨HR.out, rfl⟩⟩
end Go.Proofs.YtbfplapjjeeceaaGreatDoor.W8
