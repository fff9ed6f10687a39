/- Views on slices of numbers, and the contracts of copied, Same, Given, num. -/
import Derived.Test.YtbpolcnjojlkjabRows
import Derived.WalkKit
import Derived.ProofKit
import Derived.OpenShut
import Derived.ShutString
import Derived.ChangeOld
import Derived.Below
import Derived.Deep.QuietTactic
import Derived.BigQuiet
import Derived.SizedLaws
namespace Go.Proofs.Ytbpolcnjojlkjab
open Go.ChangeShapes Go.WideShapes Go.ChangeAt Go.RowKit
set_option linter.unusedVariables false

theorem hide {p : Prop} (h : p) : Hid p := h
theorem unhide {p : Prop} (h : Hid p) : p := h

theorem infoInt : (Try.prog.info? 3).map (fun i => (i.zero, i.size, i.bytes)) = some (some (.int .i64 0), 1, 8) := by kernel_rfl

theorem below_step {a b c : World} (h : Below a.heap.size a b) (k : Below b.heap.size b c) : Below a.heap.size a c := h.trans (k.mono h.size)

theorem cell_lt {w : World} {b : Nat} {o : Obj} (h : w.heap[b]? = some o) : b < w.heap.size := by
  by_cases hx : b < w.heap.size
  · exact hx
  · simp [hx] at h

/-- The elements of a slice of numbers, as they lie in memory. -/
def Ints (w : World) (a : Option Addr) (len : Nat) (zs : List Int) : Prop :=
  zs.length = len ∧ (0 < len → ∃ b off, a = some ⟨b, off, none⟩ ∧ ∀ i, i < len → w.cell? ⟨b, off + i, none⟩ = some (.int .i64 (zs.getD i 0)))

theorem Ints.below {w w' : World} {a : Option Addr} {len : Nat} {zs : List Int} (h : Ints w a len zs) (hb : Below w.heap.size w w') : Ints w' a len zs := by
  refine ⟨h.1, fun hp => ?_⟩
  obtain ⟨b, off, e, hc⟩ := h.2 hp
  refine ⟨b, off, e, fun i hi => ?_⟩
  have hlt : b < w.heap.size := by
    have := hc i hi
    by_cases hx : b < w.heap.size
    · exact hx
    · simp [World.cell?, hx] at this
  rw [hb.cell (p := ⟨b, off + i, none⟩) hlt]
  exact hc i hi

/-- A list that the call itself has made: the cells of block g. -/
theorem ints_of_own {w : World} {base g n cap : Nat} {zs : List Int} (h : w.ownsRow base 3 1 (.slice (some ⟨g, 0, none⟩) n cap) n (zs.map (Value.int .i64))) : Ints w (some ⟨g, 0, none⟩) n zs := by
  have hl : zs.length = n := by simpa using h.1
  refine ⟨hl, fun _ => ⟨g, 0, rfl, fun i hi => ?_⟩⟩
  rw [Nat.zero_add, h.cellAt i (by omega)]
  simp [List.getElem?_map, List.getD_eq_getElem?_getD, List.getElem?_eq_getElem (show i < zs.length by omega)]

/-- k of n numbers are copied. -/
def fillZ (zs : List Int) (n k : Nat) : List Int := (List.range n).map fun j => if j < k then zs.getD j 0 else 0

theorem fillZ_zero (zs : List Int) (n : Nat) : (fillZ zs n 0).map (Value.int .i64) = List.replicate n (.int .i64 0) := by
  apply List.ext_getElem?
  intro j
  simp [fillZ, List.getElem?_replicate]
  by_cases h : j < n <;> simp [h]

theorem fillZ_all (zs : List Int) (n : Nat) (hn : zs.length = n) : fillZ zs n n = zs := by
  apply List.ext_getElem?
  intro j
  simp only [fillZ, List.getElem?_map]
  by_cases h : j < n
  · rw [List.getElem?_range h]
    simp [h, List.getElem?_eq_getElem (show j < zs.length by omega)]
  · rw [List.getElem?_eq_none (by simp; omega), List.getElem?_eq_none (by omega)]; rfl

theorem fillZ_set (zs : List Int) (n k : Nat) (hk : k < n) : ((fillZ zs n k).map (Value.int .i64)).set k (.int .i64 (zs.getD k 0)) = (fillZ zs n (k + 1)).map (Value.int .i64) := by
  apply List.ext_getElem?
  intro j
  rw [List.getElem?_set]
  simp only [fillZ, List.getElem?_map, List.length_map, List.length_range]
  by_cases h1 : k = j
  · subst h1
    simp [hk]
  · rw [if_neg h1]
    by_cases h : j < n
    · rw [List.getElem?_range h]
      simp only [Option.map_some]
      by_cases h2 : j < k
      · rw [if_pos h2, if_pos (by omega)]
      · rw [if_neg h2, if_neg (by omega)]
    · rw [List.getElem?_eq_none (by simp; omega)]; rfl

set_option maxHeartbeats 1000000 in
theorem copied_own (a : Option Addr) (len cap : Nat) (zs : List Int) (w : World) (h : Ints w a len zs) (hr : len * 8 ≤ 140737488351232) :
    Calls Try.prog 13 #[.slice a len cap] w fun e w' => e = .returned (.slice (some ⟨w.heap.size, 0, none⟩) len len) ∧ w'.ownsRow w.heap.size 3 1 (.slice (some ⟨w.heap.size, 0, none⟩) len len) len (zs.map (Value.int .i64)) ∧ Below w.heap.size w w' ∧ w.heap.size < w'.heap.size := by
  obtain ⟨i0, hi, hz0, hz1, hz2⟩ := info_parts infoInt
  obtain ⟨hlen, hc⟩ := h
  go_enter Try.func13, Try.ntmps13
  go_wp2_with (at_make; refine wpList_make_full _ rfl _ _ 22 rfl w.heap.size 3 i0 (.int .i64 0) 1 Try.underlying22 hi hz0 hz1 .i64 .i64 _ _ len rfl rfl rfl rfl (by rw [hz2]; omega) (by unfold maxLen; omega) (Nat.le_refl _) ?_; intro w1 hown hgrow)
  have hw1 : w1.ownsRow w.heap.size 3 1 (.slice (some ⟨w.heap.size, 0, none⟩) len len) len ((fillZ zs len 0).map (Value.int .i64)) := by
    rw [fillZ_zero]
    simpa [toList_madeCells_one, Value.cells] using hown
  have hb1 : Below w.heap.size w w1 := (Below.refl _ _).grown hgrow (Nat.le_refl _) (by simp)
  clear hown hgrow
  go_loopw [4] (fun i wr => ∃ k : Nat, k ≤ len ∧ i = .int .i64 k ∧ wr.ownsRow w.heap.size 3 1 (.slice (some ⟨w.heap.size, 0, none⟩) len len) len ((fillZ zs len k).map (Value.int .i64)) ∧ Below w.heap.size w wr)
    (fun i _ => len - (intOf i).toNat)
  case atStart => exact ⟨0, Nat.zero_le _, rfl, hw1, hb1⟩
  case round =>
    obtain ⟨k, hk, rfl, hown, hbel⟩ := hrel
    by_cases hlt : k < len
    · obtain ⟨b, off, rfl, hcs⟩ := hc (by omega)
      have hck := hcs k hlt
      have hbl : b < w.heap.size := by
        by_cases hx : b < w.heap.size
        · exact hx
        · simp [World.cell?, hx] at hck
      have hck' : wr.cell? ⟨b, off + k, none⟩ = some (.int .i64 (zs.getD k 0)) := (hbel.cell (p := ⟨b, off + k, none⟩) hbl).trans hck
      obtain ⟨q, hq⟩ : ∃ q, q = zs.getD k 0 := ⟨_, rfl⟩
      rw [← hq] at hck'
      have hfr := hown.frozenAt k
      have hold : ∃ u, wr.cell? ⟨w.heap.size, k, none⟩ = some u := by
        rw [hown.cellAt k (by omega)]
        exact ⟨_, List.getElem?_eq_getElem (by simp [fillZ]; omega)⟩
      obtain ⟨u, hold⟩ := hold
      have hst := hown.stored k (.int .i64 q)
      have R : (wr.setCell ⟨w.heap.size, k, none⟩ (.int .i64 q)).ownsRow w.heap.size 3 1 (.slice (some ⟨w.heap.size, 0, none⟩) len len) len ((fillZ zs len (k + 1)).map (Value.int .i64)) ∧ Below w.heap.size w (wr.setCell ⟨w.heap.size, k, none⟩ (.int .i64 q)) := by
        refine ⟨?_, hbel.setCell (Nat.le_refl _) _⟩
        have := hst.1
        rw [hq, fillZ_set _ _ _ hlt] at this
        rw [hq]; exact this
      have HR := hide R
      clear hst R hown hq hck hcs hc hw1 hb1 hi hz0 hz1 hz2
      go_wp2
      go_roundw
      case rel => exact ⟨k + 1, by omega, by go_num, (unhide HR).1, (unhide HR).2⟩
      case measure => simp [intOf]; omega
    · have hk' : k = len := by omega
      subst hk'
      have HO := hide hown
      clear hown
      go_wp2
      go_ret
      have hown := unhide HO
      rw [fillZ_all _ _ hlen] at hown
      refine ⟨rfl, hown, hbel, ?_⟩
      rcases hown.2 with ⟨h', _⟩ | ⟨g', cap', cur, h', _, hg, _⟩
      · simp at h'
      · simp only [Value.slice.injEq, Option.some.injEq, Addr.mk.injEq, and_true, true_and] at h'
        obtain ⟨rfl, rfl⟩ := h'
        by_cases hx : w.heap.size < wr.heap.size
        · exact hx
        · simp [hx] at hg

theorem copied_any (a : Option Addr) (len cap : Nat) (zs : List Int) (w : World) (h : Ints w a len zs) (hr : len * 8 ≤ 140737488351232) :
    Calls Try.prog 13 #[.slice a len cap] w fun e w' => e = .returned (.slice (some ⟨w.heap.size, 0, none⟩) len len) ∧ Ints w' (some ⟨w.heap.size, 0, none⟩) len zs ∧ Below w.heap.size w w' ∧ w.heap.size < w'.heap.size :=
  (copied_own a len cap zs w h hr).mono fun e w' hq => ⟨hq.1, ints_of_own hq.2.1, hq.2.2.1, hq.2.2.2⟩
end Go.Proofs.Ytbpolcnjojlkjab
