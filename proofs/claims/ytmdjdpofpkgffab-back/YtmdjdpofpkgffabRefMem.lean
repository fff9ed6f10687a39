/- RefMem: the document's book in memory. -/
import Derived.Test.YtmdjdpofpkgffabBookMem
namespace Go.Proofs.Ytmdjdpofpkgffab
open Go.ChangeShapes Go.WideShapes Go.ChangeAt Go.RowKit
open Split
set_option linter.unusedVariables false
set_option linter.unusedSimpArgs false

/-- S, and the blocks that are new. -/
def grow (S : Nat → Prop) (w w' : World) : Nat → Prop := fun k => S k ∨ (w.heap.size ≤ k ∧ k < w'.heap.size)

/-- A list of eight numbers in a block of S. -/
def L8 (w : World) (S : Nat → Prop) (a : Option Addr) (zs : List Int) : Prop :=
  zs.length = 8 ∧ ∃ g off cur fr, a = some ⟨g, off, none⟩ ∧ S g ∧ w.heap[g]? = some (.cells cur 3 fr) ∧ ∀ i, i < 8 → cur[off + i]? = some (.int .i64 (zs.getD i 0))

theorem L8.ints {w : World} {S : Nat → Prop} {a : Option Addr} {zs : List Int} (h : L8 w S a zs) : Ints w a 8 zs := by
  obtain ⟨h8, g, off, cur, fr, rfl, hS, hg, hc⟩ := h
  refine ⟨h8, fun _ => ⟨g, off, rfl, fun i hi => ?_⟩⟩
  rw [cell_of_row w g _ _ _ _ hg]
  exact hc i hi
theorem L8.keep {w w' : World} {S S' : Nat → Prop} {a : Option Addr} {zs : List Int} (h : L8 w S a zs) (hk : ∀ k, S k → ∀ cur fr, w.heap[k]? = some (.cells cur 3 fr) → w'.heap[k]? = w.heap[k]?) (hs : ∀ k, S k → S' k) : L8 w' S' a zs := by
  obtain ⟨h8, g, off, cur, fr, rfl, hS, hg, hc⟩ := h
  exact ⟨h8, g, off, cur, fr, rfl, hs _ hS, (hk g hS cur fr hg).trans hg, hc⟩
theorem l8_of_own {w : World} {base g cap : Nat} {zs : List Int} {S : Nat → Prop} (h8 : zs.length = 8) (h : w.ownsRow base 3 1 (.slice (some ⟨g, 0, none⟩) 8 cap) 8 (zs.map (Value.int .i64))) (hS : S g) : L8 w S (some ⟨g, 0, none⟩) zs := by
  have hcell := ints_of_own h
  rcases h.2 with ⟨h', _⟩ | ⟨g', cap', cur, h', _, hg, _⟩
  · simp at h'
  · simp only [Value.slice.injEq, Option.some.injEq, Addr.mk.injEq, and_true, true_and] at h'
    obtain ⟨rfl, rfl⟩ := h'
    refine ⟨h8, g, 0, cur, _, rfl, hS, hg, fun i hi => ?_⟩
    obtain ⟨b, off, e, hc⟩ := hcell.2 (by omega)
    simp only [Option.some.injEq, Addr.mk.injEq, and_true] at e
    obtain ⟨rfl, rfl⟩ := e
    have := hc i hi
    rwa [cell_of_row w g _ _ _ _ hg] at this

/-- The pages ahead, the oldest first. -/
structure RPast (w : World) (S : Nat → Prop) (ap : Option Addr) (cp : Nat) (ps : List Pg) : Prop where
  ex : (ap = none ∧ cp = 0 ∧ ps = []) ∨ ∃ g off cur, ap = some ⟨g, off, none⟩ ∧ S g ∧ w.heap[g]? = some (.cells cur 97 (0, 0)) ∧ ps.length ≤ cp ∧ off + cp * 2 ≤ cur.size ∧
    ∀ k p, ps[k]? = some p → ∃ a c, cur[off + k * 2]? = some (.slice a 8 c) ∧ cur[off + k * 2 + 1]? = some (.string p.pol) ∧ L8 w S a p.owed

theorem RPast.keep {w w' : World} {S S' : Nat → Prop} {ap : Option Addr} {cp : Nat} {ps : List Pg} (h : RPast w S ap cp ps) (hk : ∀ k, S k → ∀ cur T fr, w.heap[k]? = some (.cells cur T fr) → (T = 3 ∨ T = 97) → w'.heap[k]? = w.heap[k]?) (hs : ∀ k, S k → S' k) : RPast w' S' ap cp ps := by
  refine ⟨?_⟩
  rcases h.ex with h0 | ⟨g, off, cur, h1, h2, h3, h4, h5, h6⟩
  · exact .inl h0
  · refine .inr ⟨g, off, cur, h1, hs _ h2, (hk g h2 _ _ _ h3 (.inr rfl)).trans h3, h4, h5, fun k p hp => ?_⟩
    obtain ⟨a, c, h7, h8, h9⟩ := h6 k p hp
    exact ⟨a, c, h7, h8, h9.keep (fun k hS cur fr hc => hk k hS cur _ fr hc (.inl rfl)) hs⟩

structure RRow (w : World) (D : Nat) (S : Nat → Prop) (a : Option Addr) (c : Nat) (t : ByteArray) (ap : Option Addr) (n cp : Nat) : Prop where
  inb : ∀ k, S k → k < w.heap.size
  sd : S D
  row : w.heap[D]? = some (.cells #[.slice a 8 c, .string t, .slice ap n cp] 100 (0, 0))

def RBk (w : World) (D : Nat) (S : Nat → Prop) (b : Bk) : Prop :=
  ∃ a c ap cp, RRow w D S a c b.now.pol ap b.past.length cp ∧ L8 w S a b.now.owed ∧ RPast w S ap cp b.past

theorem RBk.inb {w : World} {D : Nat} {S : Nat → Prop} {b : Bk} (h : RBk w D S b) : ∀ k, S k → k < w.heap.size := by
  obtain ⟨a, c, ap, cp, h1, h2, h3⟩ := h
  exact h1.inb
theorem RBk.keep {w w' : World} {D : Nat} {S S' : Nat → Prop} {b : Bk} (h : RBk w D S b) (hk : ∀ k, S k → w'.heap[k]? = w.heap[k]?) (hs : ∀ k, S k → S' k) (hb : ∀ k, S' k → k < w'.heap.size) : RBk w' D S' b := by
  obtain ⟨a, c, ap, cp, h1, h2, h3⟩ := h
  exact ⟨a, c, ap, cp, ⟨hb, hs _ h1.sd, (hk _ h1.sd).trans h1.row⟩, h2.keep (fun k hS _ _ _ => hk k hS) hs, h3.keep (fun k hS _ _ _ _ _ => hk k hS) hs⟩
theorem RBk.fr {w w' : World} {D : Nat} {S X : Nat → Prop} {b : Bk} (h : RBk w D S b) (hf : Fr X w w') (hx : ∀ k, S k → ¬ X k) : RBk w' D S b :=
  h.keep (fun k hS => hf.block k (h.inb k hS) (hx k hS)) (fun _ h => h) (fun k hS => Nat.lt_of_lt_of_le (h.inb k hS) hf.size)
theorem RBk.below {w w' : World} {D : Nat} {S : Nat → Prop} {b : Bk} (h : RBk w D S b) (hb : Below w.heap.size w w') : RBk w' D S b :=
  h.fr (X := fun _ => False) (Fr.of_below hb) (fun _ _ h => h)
theorem RBk.wide {w : World} {D : Nat} {S S' : Nat → Prop} {b : Bk} (h : RBk w D S b) (hs : ∀ k, S k → S' k) (hb : ∀ k, S' k → k < w.heap.size) : RBk w D S' b := h.keep (fun _ _ => rfl) hs hb

section
variable {w : World} {D : Nat} {S : Nat → Prop} {a ap : Option Addr} {c n cp : Nat} {t : ByteArray}
theorem RRow.owed (h : RRow w D S a c t ap n cp) : w.cell? ⟨D, 0, none⟩ = some (.slice a 8 c) := by
  rw [cell_of_row w D 0 _ _ _ h.row]; rfl
theorem RRow.pol (h : RRow w D S a c t ap n cp) : w.cell? ⟨D, 1, none⟩ = some (.string t) := by
  rw [cell_of_row w D 1 _ _ _ h.row]; rfl
theorem RRow.past (h : RRow w D S a c t ap n cp) : w.cell? ⟨D, 2, none⟩ = some (.slice ap n cp) := by
  rw [cell_of_row w D 2 _ _ _ h.row]; rfl
theorem RRow.frozen (h : RRow w D S a c t ap n cp) (i : Nat) : w.frozen? ⟨D, i, none⟩ = false := frozen_of_row w D i _ _ h.row
theorem RRow.lt (h : RRow w D S a c t ap n cp) : D < w.heap.size := h.inb _ h.sd
theorem RRow.setPast (h : RRow w D S a c t ap n cp) (ap' : Option Addr) (n' cp' : Nat) : RRow (w.setCell ⟨D, 2, none⟩ (.slice ap' n' cp')) D S a c t ap' n' cp' := by
  refine ⟨fun k hk => by have := h.inb k hk; simpa [World.setCell] using this, h.sd, ?_⟩
  rw [heap_setCell_same w D 2 _ _ _ h.row]; rfl
theorem RRow.setOwed (h : RRow w D S a c t ap n cp) (a' : Option Addr) (c' : Nat) : RRow (w.setCell ⟨D, 0, none⟩ (.slice a' 8 c')) D S a' c' t ap n cp := by
  refine ⟨fun k hk => by have := h.inb k hk; simpa [World.setCell] using this, h.sd, ?_⟩
  rw [heap_setCell_same w D 0 _ _ _ h.row]; rfl
theorem RRow.setPol (h : RRow w D S a c t ap n cp) (t' : ByteArray) : RRow (w.setCell ⟨D, 1, none⟩ (.string t')) D S a c t' ap n cp := by
  refine ⟨fun k hk => by have := h.inb k hk; simpa [World.setCell] using this, h.sd, ?_⟩
  rw [heap_setCell_same w D 1 _ _ _ h.row]; rfl
/-- A store into the book's own block: lists and pages ahead stay. -/
theorem RRow.list (h : RRow w D S a c t ap n cp) {x : Option Addr} {zs : List Int} (hl : L8 w S x zs) (i : Nat) (v : Value) : L8 (w.setCell ⟨D, i, none⟩ v) S x zs :=
  hl.keep (fun k hS cur fr hc => Below.heap_setCell _ _ _ _ (fun e => by
    have e : k = D := e
    subst e
    rw [h.row] at hc
    simp at hc)) fun _ h => h
theorem RRow.pages (h : RRow w D S a c t ap n cp) {x : Option Addr} {m : Nat} {ps : List Pg} (hl : RPast w S x m ps) (i : Nat) (v : Value) : RPast (w.setCell ⟨D, i, none⟩ v) S x m ps :=
  hl.keep (fun k hS cur T fr hc hT => Below.heap_setCell _ _ _ _ (fun e => by
    have e : k = D := e
    subst e
    rw [h.row] at hc
    simp at hc
    rcases hT with hT | hT <;> rw [hT] at hc <;> simp at hc)) fun _ h => h
end
end Go.Proofs.Ytmdjdpofpkgffab
