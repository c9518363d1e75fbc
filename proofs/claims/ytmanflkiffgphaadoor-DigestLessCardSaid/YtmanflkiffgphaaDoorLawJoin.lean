/-
  The walk of the law DigestJoined.
-/
import Derived.Test.YtmanflkiffgphaaDoorLawLen
import Derived.StillTailTactics
import Derived.Deep.RegionHeld3
namespace Go.Proofs.YtmanflkiffgphaaDoor
open Go.RowKit SH
theorem cat_parts (x : ByteArray) (k : Nat) (h : k ≤ x.size) : x.extract 0 k ++ x.extract k x.size = x := by
  apply str_eq
  rw [cat_toList, (ext_take x k h).1, (ext_drop x k h).1, List.take_append_drop]
theorem js_start {w u : World} (h : Below w.heap.size w u) (A B : ByteArray) : Below w.heap.size w ((u.alloc (.cells #[.string A, .string B] 40)).drew) ∧ ((u.alloc (.cells #[.string A, .string B] 40)).drew).cell? ⟨u.heap.size, 0, none⟩ = some (.string A) ∧ ((u.alloc (.cells #[.string A, .string B] 40)).drew).cell? ⟨u.heap.size, 1, none⟩ = some (.string B) :=
  ⟨(h.alloc h.size _).drew, by simp, by simp⟩
theorem js_drew {w u : World} {p : Nat} {A B : ByteArray} (h : Below w.heap.size w u ∧ u.cell? ⟨p, 0, none⟩ = some (.string A) ∧ u.cell? ⟨p, 1, none⟩ = some (.string B)) :
    Below w.heap.size w u.drew ∧ u.drew.cell? ⟨p, 0, none⟩ = some (.string A) ∧ u.drew.cell? ⟨p, 1, none⟩ = some (.string B) := ⟨h.1.drew, h.2.1, h.2.2⟩
theorem js_next {w u v : World} {p : Nat} {A B : ByteArray} (h : Below w.heap.size w u ∧ u.cell? ⟨p, 0, none⟩ = some (.string A) ∧ u.cell? ⟨p, 1, none⟩ = some (.string B)) (b : Below u.heap.size u v) :
    Below w.heap.size w v ∧ v.cell? ⟨p, 0, none⟩ = some (.string A) ∧ v.cell? ⟨p, 1, none⟩ = some (.string B) := by
  have hp : p < u.heap.size := World.block_lt_of_cell? _ _ h.2.1
  exact ⟨h.1.trans (b.mono h.1.size), (b.cell (p := ⟨p, 0, none⟩) hp).trans h.2.1, (b.cell (p := ⟨p, 1, none⟩) hp).trans h.2.2⟩
set_option maxRecDepth 100000 in
set_option maxHeartbeats 4000000 in
theorem joined_walk (w : World) (s : ByteArray) (n : Int) (hn : -9223372036854775808 ≤ n ∧ n ≤ 9223372036854775807) (hT : TB w) :
    Calls Tryd.prog 10 #[.string s, .int .i64 n] w fun e w' => e = .returned (.bool true) ∧ Below w.heap.size w w' := by
  obtain ⟨m, hm⟩ : ∃ m, min s.size 300 = m := ⟨_, rfl⟩
  have m1 : min (s.size : Int) 300 = (m : Int) := by omega
  have m2 : (m : Int) ≤ (s.size : Int) := by omega
  have m3 : (0 : Int) ≤ (m : Int) := by omega
  have m4 : m ≤ s.size := by omega
  obtain ⟨x, hx⟩ : ∃ x, s.extract 0 m = x := ⟨_, rfl⟩
  have hxs : x.size ≤ 300 := by rw [← hx, (ext_take s m m4).2]; omega
  have k1 := fun W => mod_any W n (x.size + 1) ((x.size : Int) + 1) (by omega) (by omega) (by omega) hn
  have l1 := (modv_spec n (x.size + 1) (by omega)).2
  obtain ⟨k, e1⟩ : ∃ r, modv n (x.size + 1) = r := ⟨_, rfl⟩
  rw [e1] at k1 l1
  clear e1
  have hk : k ≤ x.size := by omega
  have k2 : (k : Int) ≤ (x.size : Int) := by omega
  have k3 : (0 : Int) ≤ (k : Int) := by omega
  obtain ⟨A, hA⟩ : ∃ A, x.extract 0 k = A := ⟨_, rfl⟩
  obtain ⟨B, hBB⟩ : ∃ B, x.extract k x.size = B := ⟨_, rfl⟩
  have hAB : A ++ B = x := by rw [← hA, ← hBB]; exact cat_parts x k hk
  have hBs : B.size ≤ 300 := by rw [← hBB, (ext_drop x k hk).2]; omega
  have hAs : A.size + B.size = x.size := by rw [← hAB, ByteArray.size_append]
  have hbig : (9223372036854775807 < A.size + B.size) = False := eq_false (by omega)
  have hx1 : wrap64 ((x.size : Int) + 1) = (x.size : Int) + 1 := by unfold wrap64; omega
  obtain ⟨lx, hlx⟩ : ∃ l, sha x.data.toList = l := ⟨_, rfl⟩
  obtain ⟨lb, hlb⟩ : ∃ l, sha B.data.toList = l := ⟨_, rfl⟩
  have qx := fun W => eql_same W lx (by rw [← hlx]; exact sha_length _)
  have qb := fun W => eql_same W lb (by rw [← hlb]; exact sha_length _)
  have HK := Lib.hid (And.intro k1 (And.intro hT (And.intro hlx (And.intro hlb (And.intro (show x.size ≤ 1000000000 by omega) (show B.size ≤ 1000000000 by omega)))))); clear k1 hT hn hxs hlx hlb hBs hAs l1 hk
  go_enter Tryd.func10, Tryd.ntmps10
  go_wp2_with fail
  go_must (go_fit (sane _ HK.out.2.1))
  rintro e w1 ⟨rfl, b1⟩
  have t1 := Lib.hid (HK.out.2.1.below b1)
  have hB := Lib.hid b1; clear b1
  go_wp2_with fail
  go_must (go_fit (HK.out.1 _))
  rintro e w2 ⟨rfl, rfl⟩
  go_wp2_with fail
  go_region
  have hJ := js_start hB.out A B
  have kx := Lib.hid (fun W (h : Below w.heap.size w W) => sumN W x lx HK.out.2.2.1 HK.out.2.2.2.2.1 (HK.out.2.1.below h))
  have kr := Lib.hid (fun (W : World) (_ : Below w.heap.size w W) => sumR W x lx HK.out.2.2.1 HK.out.2.2.2.2.1)
  have jx := Lib.hid (fun W (h : Below w.heap.size w W) => sumN W B lb HK.out.2.2.2.1 HK.out.2.2.2.2.2 (HK.out.2.1.below h))
  have jr := Lib.hid (fun (W : World) (_ : Below w.heap.size w W) => sumR W B lb HK.out.2.2.2.1 HK.out.2.2.2.2.2)
  clear t1 hB HK m1 m2 m3 m4 hm hx hA hBB k2 k3 hx1
  generalize (w2.alloc (.cells #[.string A, .string B] 40)).drew = W0 at *
  have hJ2 := js_drew hJ
  go_wp2_with fail
  go_region_held3 (fun w' => Below w.heap.size w w' ∧ w'.cell? ⟨w2.heap.size, 0, none⟩ = some (.string A) ∧ w'.cell? ⟨w2.heap.size, 1, none⟩ = some (.string B))
    (first | assumption | exact js_next (by assumption) b)
    (first
      | (go_at_call_of 14 (Value.string x); refine (kx.out _ (And.left (by assumption))).mono ?_; rintro e w' ⟨rfl, b⟩)
      | (go_at_call_of 15 (Value.string x); refine (kr.out _ (And.left (by assumption))).mono ?_; rintro e w' ⟨rfl, b⟩)
      | (go_at_call_of 14 (Value.string B); refine (jx.out _ (And.left (by assumption))).mono ?_; rintro e w' ⟨rfl, b⟩)
      | (go_at_call_of 15 (Value.string B); refine (jr.out _ (And.left (by assumption))).mono ?_; rintro e w' ⟨rfl, b⟩))
  all_goals go_wp2
  all_goals go_ret
  all_goals exact ⟨rfl, (And.left (by assumption) : Below w.heap.size w _)⟩
end Go.Proofs.YtmanflkiffgphaaDoor
