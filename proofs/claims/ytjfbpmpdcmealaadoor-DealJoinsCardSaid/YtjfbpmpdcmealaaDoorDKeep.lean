/-
  What a walk keeps: the frame, cells, rows of its own.
-/
import Derived.Test.YtjfbpmpdcmealaaDoorDOpen
import Derived.Deep.RegionHeld3
namespace Go.Proofs.YtjfbpmpdcmealaaDoor.D7
open Go.RowKit GM SH G4 E6 D7P
theorem results_row_tmp {P : Program} {fn : Func} {p u : Tmp} {ty : TypeId} (h : fn.results = #[.cell p ty, .tmp u]) (tmps : Array Value) (w : World) (g : Nat) (t : TypeId) (cs : Array Value) (fr : Nat × Nat) (d : TypeDesc)
    (hp : tmps.getD p undef = .pointer (some ⟨g, 0, none⟩)) (hg : w.heap[g]? = some (.cells cs t fr))
    (hu : P.underlying ty = some d) (hd : (match d with | .struct _ | .array _ _ => true | _ => false) = true) (hi : (P.info? ty).map (·.size) = some cs.size) :
    (results fn tmps).run P w = .ok (.tuple #[.agg cs, tmps.getD u undef]) w := by
  have hp' : tmps[p]?.getD undef = .pointer (some ⟨g, 0, none⟩) := by simpa using hp
  simp [results, h, hp', asAddr, run_loadVar_row w g t ty cs fr d hg hu hd hi]
/-- the frame, cells that stay, rows that may be written -/
structure CK (w : World) (L : List (Addr × Value)) (Z : List (Nat × Nat × TypeId)) (W : World) : Prop where
  b : Below w.heap.size w W
  c : ∀ p ∈ L, W.cell? p.1 = some p.2
  z : ∀ p ∈ Z, w.heap.size ≤ p.1 ∧ ∃ cs : Array Value, cs.size = p.2.1 ∧ W.heap[p.1]? = some (.cells cs p.2.2 (0, 0))
theorem CK.next {w u v : World} {L : List (Addr × Value)} {Z : List (Nat × Nat × TypeId)} (h : CK w L Z u) (k : Below u.heap.size u v) : CK w L Z v :=
  ⟨h.b.trans (k.mono h.b.size), fun p hp => (k.cell (p := p.1) (World.block_lt_of_cell? _ _ (h.c p hp))).trans (h.c p hp), fun p hp => by
    obtain ⟨h0, cs, h1, h2⟩ := h.z p hp
    exact ⟨h0, cs, h1, (k.block _ (Array.getElem?_eq_some_iff.1 h2).1).trans h2⟩⟩
theorem CK.drew {w u : World} {L : List (Addr × Value)} {Z : List (Nat × Nat × TypeId)} (h : CK w L Z u) : CK w L Z u.drew := ⟨h.b.drew, fun p hp => h.c p hp, fun p hp => h.z p hp⟩
theorem CK.get {w u : World} {L : List (Addr × Value)} {Z : List (Nat × Nat × TypeId)} (h : CK w L Z u) (p : Addr) (v : Value) (hp : (p, v) ∈ L) : u.cell? p = some v := h.c (p, v) hp
theorem CK.row {w u : World} {L : List (Addr × Value)} {Z : List (Nat × Nat × TypeId)} (h : CK w L Z u) (b n : Nat) (t : TypeId) (hp : (b, n, t) ∈ Z) : ∃ cs : Array Value, cs.size = n ∧ u.heap[b]? = some (.cells cs t (0, 0)) := (h.z _ hp).2
theorem CK.start (w : World) : CK w [] [] w := ⟨Below.refl _ _, fun p hp => (by cases hp), fun p hp => (by cases hp)⟩
/-- cells of a new block -/
theorem CK.new {w u : World} {L : List (Addr × Value)} {Z : List (Nat × Nat × TypeId)} (h : CK w L Z u) (cs : Array Value) (t : TypeId) : CK w L ((u.heap.size, cs.size, t) :: Z) (u.alloc (.cells cs t)) := by
  have k := h.next ((Below.refl _ u).alloc (Nat.le_refl _) (.cells cs t))
  refine ⟨k.b, k.c, fun p hp => ?_⟩
  rcases List.mem_cons.1 hp with rfl | hp
  · exact ⟨h.b.size, cs, rfl, heap_alloc_new _ _⟩
  · exact k.z p hp
theorem CK.cells {w u : World} {L : List (Addr × Value)} {Z : List (Nat × Nat × TypeId)} (h : CK w L Z u) (cs : Array Value) (t : TypeId) (l : List Value) (hl : cs.toList = l) : CK w (l.mapIdx (fun j v => ((⟨u.heap.size, j, none⟩ : Addr), v)) ++ L) Z (u.alloc (.cells cs t)) := by
  have k := h.next ((Below.refl _ u).alloc (Nat.le_refl _) (.cells cs t))
  refine ⟨k.b, fun p hp => ?_, k.z⟩
  rcases List.mem_append.1 hp with hp | hp
  · obtain ⟨j, hj, rfl⟩ := List.mem_mapIdx.1 hp
    rw [World.cell?_alloc_at _ _ _ _ rfl]
    subst hl
    simp at hj
    simp [hj]
  · exact k.c p hp
/-- a row is written -/
theorem CK.store {w u : World} {L : List (Addr × Value)} {Z : List (Nat × Nat × TypeId)} (h : CK w L Z u) (b n : Nat) (t : TypeId) (hp : (b, n, t) ∈ Z) (cs : Array Value) (hn : cs.size = n) (hL : ∀ p ∈ L, p.1.block ≠ b) (hZ : ∀ p ∈ Z, p.1 = b → p = (b, n, t)) : CK w L Z (u.setRow b cs) := by
  obtain ⟨hb, old, h1, h2⟩ := h.z _ hp
  refine ⟨Below.setRow' h.b hb _, fun p hm => ?_, fun p hm => ?_⟩
  · have := h.c p hm
    rw [World.cell?_of_block (setRow_other u b p.1.block cs (hL p hm))]; exact this
  · obtain ⟨k0, cs2, k1, k2⟩ := h.z p hm
    by_cases e : p.1 = b
    · have := hZ p hm e
      subst this
      exact ⟨k0, cs, hn, setRow_heap _ _ _ _ _ _ h2⟩
    · exact ⟨k0, cs2, k1, (setRow_other u b p.1 cs e).trans k2⟩
theorem CK.sub {w u : World} {L M : List (Addr × Value)} {Z Y : List (Nat × Nat × TypeId)} (h : CK w L Z u) (hL : ∀ p ∈ M, p ∈ L) (hZ : ∀ p ∈ Y, p ∈ Z) : CK w M Y u := ⟨h.b, fun p hp => h.c p (hL p hp), fun p hp => h.z p (hZ p hp)⟩
end Go.Proofs.YtjfbpmpdcmealaaDoor.D7
