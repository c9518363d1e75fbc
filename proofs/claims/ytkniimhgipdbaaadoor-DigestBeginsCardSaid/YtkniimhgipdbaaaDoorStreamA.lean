/-
  The blocks of a seed: the iterator that package digest runs through for a stream.
-/
import Derived.Test.YtkniimhgipdbaaaDoorRangeEnd
import Derived.Test.YtkniimhgipdbaaaDoorShelf
import Derived.Lib.ItoaNum
import Derived.Lib.ItoaLen
import Derived.Lib.SmallJoins
import Derived.Lib.AppendIntMem
namespace Go.Proofs.YtkniimhgipdbaaaDoor
open Go.RowKit SH Go
/-- a number in decimal -/
def dcm (n : Int) : ByteArray := ⟨(Lib.itoa n).toArray⟩
/-- what is hashed first, block k of a seed -/
def L0 (seed : ByteArray) : List UInt8 := seed.data.toList ++ [47]
def bk (seed : ByteArray) (k : Nat) : List UInt8 := sha (L0 seed ++ (dcm k).data.toList)
theorem bk_len (seed : ByteArray) (k : Nat) : (bk seed k).length = 32 := by simp [bk, sha, out]
abbrev H32 : Type := { l : List UInt8 // l.length = 32 }
def bkH (seed : ByteArray) (k : Nat) : H32 := ⟨bk seed k, bk_len seed k⟩
def bks (seed : ByteArray) (k : Nat) : List H32 := (List.range k).map (bkH seed)
theorem bks_len (seed : ByteArray) (k : Nat) : (bks seed k).length = k := by simp [bks]
theorem bks_snoc (seed : ByteArray) (k : Nat) : bks seed (k+1) = bks seed k ++ [bkH seed k] := by simp [bks, List.range_succ]
/-- the tables lie in memory -/
structure T3 (w : World) : Prop where
  sq : SQ w
  cb : CB w
  p10 : Lib.TabIs Tryd.prog w "internal/strconv.uint64pow10" .u64 Lib.pow10Tab
def Tin (n0 : Nat) : Prop := 0 < n0 ∧ 1 < n0 ∧ 2 < n0
theorem T3.below {u w : World} (h : T3 u) (b : Below u.heap.size u w) : T3 w :=
  ⟨h.sq.below b h.sq.lt, h.cb.below b h.cb.lt, Joins.tab_stays (g := 2) (by kernel_rfl) h.p10 b (Nat.le_refl _)⟩
theorem T3.part {n0 : Nat} {u w : World} (h : T3 u) (hn : Tin n0) (b : Below n0 u w) : T3 w := by
  refine ⟨h.sq.below b hn.1, h.cb.below b hn.2.1, ?_⟩
  have hp := h.p10
  have hg : Tryd.prog.globalNamed "internal/strconv.uint64pow10" = some 2 := by kernel_rfl
  unfold Lib.TabIs World.var? at hp ⊢
  rw [hg] at hp ⊢
  simp only [Option.bind_some] at hp ⊢
  rw [b.block _ hn.2.2]
  exact hp
theorem T3.inside {w : World} (h : T3 w) : Tin w.heap.size := by
  refine ⟨h.sq.lt, h.cb.lt, ?_⟩
  have hp := h.p10
  have hg : Tryd.prog.globalNamed "internal/strconv.uint64pow10" = some 2 := by kernel_rfl
  unfold Lib.TabIs World.var? at hp
  rw [hg] at hp
  simp only [Option.bind_some] at hp
  rcases Nat.lt_or_ge 2 w.heap.size with h' | h'
  · exact h'
  · rw [Array.getElem?_eq_none h'] at hp; cases hp
theorem itoa_any (W : World) (k : Nat) (hk : k ≤ 2000000) (hT : T3 W) :
    Calls Tryd.prog 18 #[.int .i64 (k : Int)] W fun e w' => e = .returned (.string (dcm k)) ∧ Below W.heap.size W w' :=
  (Tryd.strconv_Itoa (k : Int) (by omega) (by omega) W hT.p10).mono fun e w' ⟨he, j, os, hw⟩ => ⟨he, by rw [hw]; exact Lib.below_grow _ _ (Nat.le_refl _) j os⟩
theorem dcm_size (k : Nat) (h : k ≤ 2000000) : (dcm k).size ≤ 21 := Lib.itoa_length_le (k : Int) (by omega) (by omega)
/-- what a round keeps: what lay when the call began, and the beginnings of messages -/
structure Kp (n0 : Nat) (A B : World) : Prop where
  b : Below n0 A B
  m : ∀ g s r n, MH A g s r n → MH B g s r n
theorem Kp.trans {n0 : Nat} {A B C : World} (h : Kp n0 A B) (k : Kp n0 B C) : Kp n0 A C := ⟨h.b.trans k.b, fun g s r n x => k.m g s r n (h.m g s r n x)⟩
theorem Kp.put {n0 : Nat} {w : World} (hn : n0 ≤ w.heap.size) (W : World) (l : Nat) (o o2 : Obj) (hl : w.heap.size ≤ l) (h : W.heap[l]? = some o) (hc : o.isCells = false) : Kp n0 W (W.putObj l o2) := by
  refine ⟨(Below.refl n0 W).grown (grownBy_putObj' W l o2) (by have := (Array.getElem?_eq_some_iff.1 h).1; omega) (fun k e => by cases e; omega), fun g s r n x => ?_⟩
  unfold MH at x ⊢
  rw [World.putObj_heap_other ?_]
  · exact x
  · intro e
    rw [← e, x] at h
    cases h
    simp [Obj.isCells] at hc
/-- the beginning of the messages lies in block g -/
structure FK (g : Nat) (s : St) (r : ByteArray) (m : Nat) (W : World) : Prop where
  row : MH W g s r m
  t : T3 W
theorem FK.next {g : Nat} {s : St} {r : ByteArray} {m : Nat} {u v : World} (h : FK g s r m u) (k : Below u.heap.size u v) : FK g s r m v := ⟨h.row.below k h.row.lt, h.t.below k⟩
theorem FK.kp {g n0 : Nat} {s : St} {r : ByteArray} {m : Nat} {u v : World} (h : FK g s r m u) (hn : Tin n0) (k : Kp n0 u v) : FK g s r m v := ⟨k.m _ _ _ _ h.row, h.t.part hn k.b⟩
theorem FK.drew {g : Nat} {s : St} {r : ByteArray} {m : Nat} {u : World} (h : FK g s r m u) : FK g s r m u.drew := h.next ((Below.refl _ u).drew)
end Go.Proofs.YtkniimhgipdbaaaDoor
