/- Ground: Base, Given, Purse -/
import Derived.Test.YtmdjdpofpkgffabRows
import Derived.WalkKit
import Derived.ProofKit
import Derived.OpenShut
import Derived.ShutString
import Derived.ChangeOld
import Derived.Below
import Derived.Deep.QuietTactic
import Derived.BigQuiet
import Derived.SizedLaws
import Derived.RegionTactic
import Derived.ChangeAlike
import Derived.WalkSmall

/- Views on slices of numbers, and the contracts of copied, Same, Given, num. -/
namespace Go.Proofs.Ytmdjdpofpkgffab
open Go.ChangeShapes Go.WideShapes Go.ChangeAt Go.RowKit
set_option linter.unusedVariables false

theorem hide {p : Prop} (h : p) : Hid p := h
theorem unhide {p : Prop} (h : Hid p) : p := h

theorem infoInt : (Try.prog.info? 3).map (fun i => (i.zero, i.size, i.bytes)) = some (some (.int .i64 0), 1, 8) := by kernel_rfl

theorem below_step {a b c : World} (h : Below a.heap.size a b) (k : Below b.heap.size b c) : Below a.heap.size a c := h.trans (k.mono h.size)

theorem cell_lt {w : World} {b : Nat} {o : Obj} (h : w.heap[b]? = some o) : b < w.heap.size := by
  by_cases hx : b < w.heap.size
  · exact hx
  · simp [hx] at h

/-- The elements of a slice of numbers, as they lie in memory. -/
def Ints (w : World) (a : Option Addr) (len : Nat) (zs : List Int) : Prop :=
  zs.length = len ∧ (0 < len → ∃ b off, a = some ⟨b, off, none⟩ ∧ ∀ i, i < len → w.cell? ⟨b, off + i, none⟩ = some (.int .i64 (zs.getD i 0)))

theorem Ints.below {w w' : World} {a : Option Addr} {len : Nat} {zs : List Int} (h : Ints w a len zs) (hb : Below w.heap.size w w') : Ints w' a len zs := by
  refine ⟨h.1, fun hp => ?_⟩
  obtain ⟨b, off, e, hc⟩ := h.2 hp
  refine ⟨b, off, e, fun i hi => ?_⟩
  have hlt : b < w.heap.size := by
    have := hc i hi
    by_cases hx : b < w.heap.size
    · exact hx
    · simp [World.cell?, hx] at this
  rw [hb.cell (p := ⟨b, off + i, none⟩) hlt]
  exact hc i hi

/-- A list that the call itself has made: the cells of block g. -/
theorem ints_of_own {w : World} {base g n cap : Nat} {zs : List Int} (h : w.ownsRow base 3 1 (.slice (some ⟨g, 0, none⟩) n cap) n (zs.map (Value.int .i64))) : Ints w (some ⟨g, 0, none⟩) n zs := by
  have hl : zs.length = n := by simpa using h.1
  refine ⟨hl, fun _ => ⟨g, 0, rfl, fun i hi => ?_⟩⟩
  rw [Nat.zero_add, h.cellAt i (by omega)]
  simp [List.getElem?_map, List.getD_eq_getElem?_getD, List.getElem?_eq_getElem (show i < zs.length by omega)]

/-- k of n numbers are copied. -/
def fillZ (zs : List Int) (n k : Nat) : List Int := (List.range n).map fun j => if j < k then zs.getD j 0 else 0

theorem fillZ_zero (zs : List Int) (n : Nat) : (fillZ zs n 0).map (Value.int .i64) = List.replicate n (.int .i64 0) := by
  apply List.ext_getElem?
  intro j
  simp [fillZ, List.getElem?_replicate]
  by_cases h : j < n <;> simp [h]

theorem fillZ_all (zs : List Int) (n : Nat) (hn : zs.length = n) : fillZ zs n n = zs := by
  apply List.ext_getElem?
  intro j
  simp only [fillZ, List.getElem?_map]
  by_cases h : j < n
  · rw [List.getElem?_range h]
    simp [h, List.getElem?_eq_getElem (show j < zs.length by omega)]
  · rw [List.getElem?_eq_none (by simp; omega), List.getElem?_eq_none (by omega)]; rfl

theorem fillZ_set (zs : List Int) (n k : Nat) (hk : k < n) : ((fillZ zs n k).map (Value.int .i64)).set k (.int .i64 (zs.getD k 0)) = (fillZ zs n (k + 1)).map (Value.int .i64) := by
  apply List.ext_getElem?
  intro j
  rw [List.getElem?_set]
  simp only [fillZ, List.getElem?_map, List.length_map, List.length_range]
  by_cases h1 : k = j
  · subst h1
    simp [hk]
  · rw [if_neg h1]
    by_cases h : j < n
    · rw [List.getElem?_range h]
      simp only [Option.map_some]
      by_cases h2 : j < k
      · rw [if_pos h2, if_pos (by omega)]
      · rw [if_neg h2, if_neg (by omega)]
    · rw [List.getElem?_eq_none (by simp; omega)]; rfl

set_option maxHeartbeats 1000000 in
theorem copied_own (a : Option Addr) (len cap : Nat) (zs : List Int) (w : World) (h : Ints w a len zs) (hr : len * 8 ≤ 140737488351232) :
    Calls Try.prog 19 #[.slice a len cap] w fun e w' => e = .returned (.slice (some ⟨w.heap.size, 0, none⟩) len len) ∧ w'.ownsRow w.heap.size 3 1 (.slice (some ⟨w.heap.size, 0, none⟩) len len) len (zs.map (Value.int .i64)) ∧ Below w.heap.size w w' ∧ w.heap.size < w'.heap.size := by
  obtain ⟨i0, hi, hz0, hz1, hz2⟩ := info_parts infoInt
  obtain ⟨hlen, hc⟩ := h
  go_enter Try.func19, Try.ntmps19
  go_wp2_with (at_make; refine wpList_make_full _ rfl _ _ 22 rfl w.heap.size 3 i0 (.int .i64 0) 1 Try.underlying22 hi hz0 hz1 .i64 .i64 _ _ len rfl rfl rfl rfl (by rw [hz2]; omega) (by unfold maxLen; omega) (Nat.le_refl _) ?_; intro w1 hown hgrow)
  have hw1 : w1.ownsRow w.heap.size 3 1 (.slice (some ⟨w.heap.size, 0, none⟩) len len) len ((fillZ zs len 0).map (Value.int .i64)) := by
    rw [fillZ_zero]
    simpa [toList_madeCells_one, Value.cells] using hown
  have hb1 : Below w.heap.size w w1 := (Below.refl _ _).grown hgrow (Nat.le_refl _) (by simp)
  clear hown hgrow
  go_loopw [4] (fun i wr => ∃ k : Nat, k ≤ len ∧ i = .int .i64 k ∧ wr.ownsRow w.heap.size 3 1 (.slice (some ⟨w.heap.size, 0, none⟩) len len) len ((fillZ zs len k).map (Value.int .i64)) ∧ Below w.heap.size w wr)
    (fun i _ => len - (intOf i).toNat)
  case atStart => exact ⟨0, Nat.zero_le _, rfl, hw1, hb1⟩
  case round =>
    obtain ⟨k, hk, rfl, hown, hbel⟩ := hrel
    by_cases hlt : k < len
    · obtain ⟨b, off, rfl, hcs⟩ := hc (by omega)
      have hck := hcs k hlt
      have hbl : b < w.heap.size := by
        by_cases hx : b < w.heap.size
        · exact hx
        · simp [World.cell?, hx] at hck
      have hck' : wr.cell? ⟨b, off + k, none⟩ = some (.int .i64 (zs.getD k 0)) := (hbel.cell (p := ⟨b, off + k, none⟩) hbl).trans hck
      obtain ⟨q, hq⟩ : ∃ q, q = zs.getD k 0 := ⟨_, rfl⟩
      rw [← hq] at hck'
      have hfr := hown.frozenAt k
      have hold : ∃ u, wr.cell? ⟨w.heap.size, k, none⟩ = some u := by
        rw [hown.cellAt k (by omega)]
        exact ⟨_, List.getElem?_eq_getElem (by simp [fillZ]; omega)⟩
      obtain ⟨u, hold⟩ := hold
      have hst := hown.stored k (.int .i64 q)
      have R : (wr.setCell ⟨w.heap.size, k, none⟩ (.int .i64 q)).ownsRow w.heap.size 3 1 (.slice (some ⟨w.heap.size, 0, none⟩) len len) len ((fillZ zs len (k + 1)).map (Value.int .i64)) ∧ Below w.heap.size w (wr.setCell ⟨w.heap.size, k, none⟩ (.int .i64 q)) := by
        refine ⟨?_, hbel.setCell (Nat.le_refl _) _⟩
        have := hst.1
        rw [hq, fillZ_set _ _ _ hlt] at this
        rw [hq]; exact this
      have HR := hide R
      clear hst R hown hq hck hcs hc hw1 hb1 hi hz0 hz1 hz2
      go_wp2
      go_roundw
      case rel => exact ⟨k + 1, by omega, by go_num, (unhide HR).1, (unhide HR).2⟩
      case measure => simp [intOf]; omega
    · have hk' : k = len := by omega
      subst hk'
      have HO := hide hown
      clear hown
      go_wp2
      go_ret
      have hown := unhide HO
      rw [fillZ_all _ _ hlen] at hown
      refine ⟨rfl, hown, hbel, ?_⟩
      rcases hown.2 with ⟨h', _⟩ | ⟨g', cap', cur, h', _, hg, _⟩
      · simp at h'
      · simp only [Value.slice.injEq, Option.some.injEq, Addr.mk.injEq, and_true, true_and] at h'
        obtain ⟨rfl, rfl⟩ := h'
        by_cases hx : w.heap.size < wr.heap.size
        · exact hx
        · simp [hx] at hg

theorem copied_any (a : Option Addr) (len cap : Nat) (zs : List Int) (w : World) (h : Ints w a len zs) (hr : len * 8 ≤ 140737488351232) :
    Calls Try.prog 19 #[.slice a len cap] w fun e w' => e = .returned (.slice (some ⟨w.heap.size, 0, none⟩) len len) ∧ Ints w' (some ⟨w.heap.size, 0, none⟩) len zs ∧ Below w.heap.size w w' ∧ w.heap.size < w'.heap.size :=
  (copied_own a len cap zs w h hr).mono fun e w' hq => ⟨hq.1, ints_of_own hq.2.1, hq.2.2.1, hq.2.2.2⟩
end Go.Proofs.Ytmdjdpofpkgffab

/- Same, Given, checkAmounts, by their contracts. -/
namespace Go.Proofs.Ytmdjdpofpkgffab
open Go.ChangeShapes Go.WideShapes Go.ChangeAt Go.RowKit
set_option linter.unusedVariables false

def amt (z : Int) : Bool := decide (0 ≤ z ∧ z ≤ 1000000000)
theorem amt_t {z : Int} : amt z = true ↔ (0 ≤ z ∧ z ≤ 1000000000) := by simp [amt]
theorem amt_f {z : Int} : amt z = false ↔ (z < 0 ∨ 1000000000 < z) := by simp [amt]; omega

/-- The first number that may not be owed. -/
def badAt (zs : List Int) : Nat := zs.findIdx fun z => !amt z

theorem badAt_eq {zs : List Int} {k : Nat} (hk : k < zs.length) (h : ∀ j, j < k → amt (zs.getD j 0) = true) (hb : amt (zs.getD k 0) = false) : badAt zs = k := by
  unfold badAt
  rw [List.findIdx_eq hk]
  refine ⟨?_, fun j hj => ?_⟩
  · have : zs.getD k 0 = zs[k] := by simp [List.getElem?_eq_getElem hk]
    rw [← this, hb]; rfl
  · have : zs.getD j 0 = zs[j] := by simp [List.getElem?_eq_getElem (show j < zs.length by omega)]
    rw [← this, h j hj]; rfl

theorem badAt_all {zs : List Int} (h : ∀ j, j < zs.length → amt (zs.getD j 0) = true) : badAt zs = zs.length := by
  unfold badAt
  rw [List.findIdx_eq_length]
  intro x hx
  obtain ⟨j, hj, rfl⟩ := List.getElem_of_mem hx
  have := h j hj
  simp [List.getElem?_eq_getElem hj] at this
  simp [this]

def givenE (zs : List Int) (m : Int) : Int := if zs.length = 8 then (if badAt zs < 8 then 5 else if amt m then 0 else 5) else 4
def givenP (zs : List Int) (m : Int) : Int := if zs.length = 8 then (if badAt zs < 8 then badAt zs else if amt m then 0 else 8) else 0

theorem ret2_int {a b c d : Int} (h : a = c) (k : b = d) : Ending.returned (.tuple #[.int .i64 a, .int .i64 b]) = .returned (.tuple #[.int .i64 c, .int .i64 d]) := by rw [h, k]

theorem given_bad {zs : List Int} {m : Int} {k : Nat} (hl : zs.length = 8) (hk : k < 8) (h : ∀ j, j < k → amt (zs.getD j 0) = true) (hb : amt (zs.getD k 0) = false) : givenE zs m = 5 ∧ givenP zs m = k := by
  have := badAt_eq (by omega) h hb
  simp [givenE, givenP, hl, this, hk]
theorem given_end {zs : List Int} {m : Int} (hl : zs.length = 8) (h : ∀ j, j < 8 → amt (zs.getD j 0) = true) : badAt zs = 8 := by
  rw [badAt_all (by rw [hl]; exact h), hl]

theorem Ints.at {w : World} {a : Option Addr} {len : Nat} {zs : List Int} (h : Ints w a len zs) (hp : 0 < len) : ∃ b off, a = some ⟨b, off, none⟩ ∧ ∀ i, i < len → w.cell? ⟨b, off + i, none⟩ = some (.int .i64 (zs.getD i 0)) := h.2 hp

set_option maxHeartbeats 1000000 in
theorem given_any (a : Option Addr) (len cap : Nat) (zs : List Int) (m : Int) (w : World) (h : Ints w a len zs) (hr : len * 8 ≤ 140737488351232) :
    Calls Try.prog 22 #[.slice a len cap, .int .i64 m] w fun e w' => e = .returned (.tuple #[.int .i64 (givenE zs m), .int .i64 (givenP zs m)]) ∧ w' = w := by
  obtain ⟨hlen, hc⟩ := h
  by_cases h8 : len = 8
  · subst h8
    obtain ⟨b, off, rfl, hcs⟩ := hc (by omega)
    clear hc
    have HC := hide hcs
    clear hcs
    have HL := hide hlen
    clear hlen
    go_enter Try.func22, Try.ntmps22
    go_wp2
    go_loop [6] (fun i => ∃ k : Nat, k ≤ 8 ∧ i = .int .i64 k ∧ Hid (∀ j, j < k → amt (zs.getD j 0) = true)) (fun i => 8 - (intOf i).toNat)
    case atStart => exact ⟨0, by omega, rfl, fun j hj => by omega⟩
    case round =>
      obtain ⟨k, hk, rfl, hall⟩ := hrel
      by_cases hlt : k < 8
      · obtain ⟨q, hq⟩ : ∃ q, q = zs.getD k 0 := ⟨_, rfl⟩
        have hck := unhide HC k hlt
        rw [← hq] at hck
        have HQ := hide hq
        clear hq
        by_cases h0 : q < 0
        · go_wp2
          go_ret2
          have := given_bad (m := m) (unhide HL) hlt (unhide hall) (by rw [← unhide HQ, amt_f]; omega)
          exact ⟨ret2_int this.1.symm this.2.symm, rfl⟩
        · by_cases h1 : 1000000000 < q
          · go_wp2
            go_ret2
            have := given_bad (m := m) (unhide HL) hlt (unhide hall) (by rw [← unhide HQ, amt_f]; omega)
            exact ⟨ret2_int this.1.symm this.2.symm, rfl⟩
          · go_wp2
            go_round
            case rel =>
              refine ⟨k + 1, by omega, by go_num, fun j hj => ?_⟩
              by_cases e : j = k
              · subst e; rw [← unhide HQ, amt_t]; omega
              · exact unhide hall j (by omega)
            case measure => simp [intOf]; omega
      · have hk8 : k = 8 := by omega
        subst hk8
        have hb := given_end (m := m) (unhide HL) (unhide hall)
        have HE : Hid (badAt zs = 8) := hb
        clear hb
        by_cases h0 : m < 0
        · go_wp2
          go_ret2
          have e : amt m = false := by rw [amt_f]; omega
          exact ⟨ret2_int (by simp [givenE, unhide HL, unhide HE, e]) (by simp [givenP, unhide HL, unhide HE, e]), rfl⟩
        · by_cases h1 : 1000000000 < m
          · go_wp2
            go_ret2
            have e : amt m = false := by rw [amt_f]; omega
            exact ⟨ret2_int (by simp [givenE, unhide HL, unhide HE, e]) (by simp [givenP, unhide HL, unhide HE, e]), rfl⟩
          · go_wp2
            go_ret2
            have e : amt m = true := by rw [amt_t]; omega
            exact ⟨ret2_int (by simp [givenE, unhide HL, unhide HE, e]) (by simp [givenP, unhide HL, unhide HE, e]), rfl⟩
  · have hne : ((len : Int) == 8) = false := by simp; omega
    have hne' : ((len : Int) != 8) = true := by simp; omega
    have e1 : givenE zs m = 4 := by simp [givenE, hlen, h8]
    have e2 : givenP zs m = 0 := by simp [givenP, hlen, h8]
    rw [e1, e2]
    clear e1 e2
    go_enter Try.func22, Try.ntmps22
    go_wp2
    go_ret2
    exact ⟨rfl, rfl⟩

theorem isAmount_any (z : Int) (w : World) : Calls Try.prog 80 #[.int .i64 z] w fun e w' => e = .returned (.bool (amt z)) ∧ w' = w := by
  by_cases h0 : 0 ≤ z
  · by_cases h1 : z ≤ 1000000000
    · have e : amt z = true := by rw [amt_t]; omega
      rw [e]; clear e
      go_enter Try.func80, Try.ntmps80
      go_wp2
      go_ret
      exact ⟨rfl, rfl⟩
    · have e : amt z = false := by rw [amt_f]; omega
      rw [e]; clear e
      go_enter Try.func80, Try.ntmps80
      go_wp2
      go_ret
      exact ⟨rfl, rfl⟩
  · have e : amt z = false := by rw [amt_f]; omega
    rw [e]; clear e
    go_enter Try.func80, Try.ntmps80
    go_wp2
    go_ret
    exact ⟨rfl, rfl⟩

set_option maxHeartbeats 1000000 in
theorem checkAmounts_any (a : Option Addr) (len cap : Nat) (zs : List Int) (m : Int) (w : World) (h : Ints w a len zs) (hr : len * 8 ≤ 140737488351232) :
    Calls Try.prog 72 #[.slice a len cap, .int .i64 m] w fun e w' => e = .returned (.tuple #[.int .i64 (givenE zs m), .int .i64 (givenP zs m)]) ∧ w' = w := by
  obtain ⟨hlen, hc⟩ := h
  by_cases h8 : len = 8
  · subst h8
    obtain ⟨b, off, rfl, hcs⟩ := hc (by omega)
    clear hc
    have HC := hide hcs
    clear hcs
    have HL := hide hlen
    clear hlen
    go_enter Try.func72, Try.ntmps72
    go_wp2
    go_loop [6] (fun i => ∃ k : Nat, k ≤ 8 ∧ i = .int .i64 k ∧ Hid (∀ j, j < k → amt (zs.getD j 0) = true)) (fun i => 8 - (intOf i).toNat)
    case atStart => exact ⟨0, by omega, rfl, fun j hj => by omega⟩
    case round =>
      obtain ⟨k, hk, rfl, hall⟩ := hrel
      by_cases hlt : k < 8
      · obtain ⟨q, hq⟩ : ∃ q, q = zs.getD k 0 := ⟨_, rfl⟩
        have hck := unhide HC k hlt
        rw [← hq] at hck
        have HQ := hide hq
        clear hq
        cases hb : amt q
        · go_wp2_with (go_at_call 80; refine (isAmount_any _ _).mono ?_; rintro e w' ⟨rfl, rfl⟩)
          go_ret2
          have := given_bad (m := m) (unhide HL) hlt (unhide hall) (by rw [← unhide HQ, hb])
          exact ⟨ret2_int this.1.symm this.2.symm, rfl⟩
        · go_wp2_with (go_at_call 80; refine (isAmount_any _ _).mono ?_; rintro e w' ⟨rfl, rfl⟩)
          go_round
          case rel =>
            refine ⟨k + 1, by omega, by go_num, fun j hj => ?_⟩
            by_cases e : j = k
            · subst e; rw [← unhide HQ, hb]
            · exact unhide hall j (by omega)
          case measure => simp [intOf]; omega
      · have hk8 : k = 8 := by omega
        subst hk8
        have hb := given_end (m := m) (unhide HL) (unhide hall)
        have HE : Hid (badAt zs = 8) := hb
        clear hb
        cases hb : amt m
        · go_wp2_with (go_at_call 80; refine (isAmount_any _ _).mono ?_; rintro e w' ⟨rfl, rfl⟩)
          go_ret2
          exact ⟨ret2_int (by simp [givenE, unhide HL, unhide HE, hb]) (by simp [givenP, unhide HL, unhide HE, hb]), rfl⟩
        · go_wp2_with (go_at_call 80; refine (isAmount_any _ _).mono ?_; rintro e w' ⟨rfl, rfl⟩)
          go_ret2
          exact ⟨ret2_int (by simp [givenE, unhide HL, unhide HE, hb]) (by simp [givenP, unhide HL, unhide HE, hb]), rfl⟩
  · have hne : ((len : Int) == 8) = false := by simp; omega
    have hne' : ((len : Int) != 8) = true := by simp; omega
    have e1 : givenE zs m = 4 := by simp [givenE, hlen, h8]
    have e2 : givenP zs m = 0 := by simp [givenP, hlen, h8]
    rw [e1, e2]
    clear e1 e2
    go_enter Try.func72, Try.ntmps72
    go_wp2
    go_ret2
    exact ⟨rfl, rfl⟩

theorem list_eq_of_getD {zs ys : List Int} (hl : zs.length = ys.length) (h : ∀ j, j < zs.length → zs.getD j 0 = ys.getD j 0) : zs = ys := by
  apply List.ext_getElem hl
  intro j h1 h2
  have := h j h1
  simpa [List.getElem?_eq_getElem h1, List.getElem?_eq_getElem h2] using this

set_option maxHeartbeats 1000000 in
theorem same_any (a : Option Addr) (len cap : Nat) (zs : List Int) (a' : Option Addr) (len' cap' : Nat) (ys : List Int) (w : World) (h : Ints w a len zs) (h' : Ints w a' len' ys) (hr : len * 8 ≤ 140737488351232) :
    Calls Try.prog 17 #[.slice a len cap, .slice a' len' cap'] w fun e w' => e = .returned (.bool (decide (zs = ys))) ∧ ∃ n, w' = w.drewN n := by
  obtain ⟨hlen, hc⟩ := h
  obtain ⟨hlen', hc'⟩ := h'
  by_cases hll : len = len'
  · subst hll
    have HL := hide hlen
    have HL' := hide hlen'
    clear hlen hlen'
    have HC := hide hc
    have HC' := hide hc'
    clear hc hc'
    go_enter Try.func17, Try.ntmps17
    go_wp2
    go_loopw [5] (fun i wr => ∃ k : Nat, k ≤ len ∧ i = .int .i64 k ∧ Hid (∀ j, j < k → zs.getD j 0 = ys.getD j 0) ∧ ∃ n, wr = w.drewN n) (fun i _ => len - (intOf i).toNat)
    case atStart => exact ⟨0, Nat.zero_le _, rfl, fun j hj => by omega, 0, rfl⟩
    case round =>
      obtain ⟨k, hk, rfl, hall, n, rfl⟩ := hrel
      by_cases hlt : k < len
      · obtain ⟨b, off, rfl, hcs⟩ := unhide HC (by omega)
        obtain ⟨b', off', rfl, hcs'⟩ := unhide HC' (by omega)
        obtain ⟨q, hq⟩ : ∃ q, q = zs.getD k 0 := ⟨_, rfl⟩
        obtain ⟨q', hq'⟩ : ∃ q', q' = ys.getD k 0 := ⟨_, rfl⟩
        have hck := hcs k hlt
        have hck' := hcs' k hlt
        rw [← hq] at hck
        rw [← hq'] at hck'
        have HQ := hide hq
        have HQ' := hide hq'
        clear hq hq' hcs hcs'
        by_cases he : q = q'
        · subst he
          go_wp2
          go_quiet (fail)
          go_wp2
          go_roundw
          case rel =>
            refine ⟨k + 1, by omega, by go_num, fun j hj => ?_, ?_⟩
            · by_cases e : j = k
              · subst e; rw [← unhide HQ, ← unhide HQ']
              · exact unhide hall j (by omega)
            · exact ⟨_, rfl⟩
          case measure => simp [intOf]; omega
        · have hne : (q != q') = true := by simp [he]
          go_wp2
          go_quiet (fail)
          go_wp2
          go_ret
          refine ⟨?_, _, World.drewN_drewN _ _ _⟩
          have e1 : decide (zs = ys) = false := by
            simp only [decide_eq_false_iff_not]
            intro e
            apply he
            rw [unhide HQ, unhide HQ', e]
          rw [e1]; rfl
      · go_wp2
        go_ret
        refine ⟨?_, _, rfl⟩
        have e1 : decide (zs = ys) = true := by
          simp only [decide_eq_true_eq]
          apply list_eq_of_getD (by rw [unhide HL, unhide HL'])
          intro j hj
          exact unhide hall j (by have := unhide HL; omega)
        rw [e1]; rfl
  · have hne : ((len : Int) != (len' : Int)) = true := by simp; omega
    have e1 : decide (zs = ys) = false := by
      simp; intro e; subst e; omega
    rw [e1]
    clear e1
    go_enter Try.func17, Try.ntmps17
    go_wp2
    go_ret
    exact ⟨rfl, 0, rfl⟩

theorem num_any (x : Int) (w : World) : Calls Try.prog 13 #[.int .i64 x] w fun e w' => e = .returned (.int .i64 x) ∧ w' = w := by
  go_enter Try.func13, Try.ntmps13
  go_wp2
  go_ret
  exact ⟨rfl, rfl⟩
end Go.Proofs.Ytmdjdpofpkgffab

/- The purse in memory; newPurse, listOf, by their contracts. -/
namespace Go.Proofs.Ytmdjdpofpkgffab
open Go.ChangeShapes Go.WideShapes Go.ChangeAt Go.RowKit
set_option linter.unusedVariables false
set_option linter.unusedSimpArgs false

def pcL (hand : Int) (held : Value) (owed paid : List Int) : List Value := .int .i64 hand :: held :: (owed.map (Value.int .i64) ++ paid.map (Value.int .i64))

/-- The purse that lies in block P. -/
structure Purse (w : World) (P : Nat) (hand : Int) (held : Value) (owed paid : List Int) : Prop where
  lo : owed.length = 8
  lp : paid.length = 8
  row : w.heap[P]? = some (.cells (pcL hand held owed paid).toArray 126 (0, 0))

section
variable {w : World} {P : Nat} {hand : Int} {held : Value} {owed paid : List Int}

theorem Purse.lt (h : Purse w P hand held owed paid) : P < w.heap.size := cell_lt h.row
theorem Purse.hand_cell (h : Purse w P hand held owed paid) : w.cell? ⟨P, 0, none⟩ = some (.int .i64 hand) := by
  rw [cell_of_row w P 0 _ _ _ h.row]; simp [pcL]
theorem Purse.held_cell (h : Purse w P hand held owed paid) : w.cell? ⟨P, 1, none⟩ = some held := by
  rw [cell_of_row w P 1 _ _ _ h.row]; simp [pcL]
theorem Purse.owed_cell (h : Purse w P hand held owed paid) (i : Nat) (hi : i < 8) : w.cell? ⟨P, 2 + i, none⟩ = some (.int .i64 (owed.getD i 0)) := by
  have h1 := h.lo
  rw [cell_of_row w P _ _ _ _ h.row, Nat.add_comm]
  simp [pcL, List.getElem?_append, List.getElem?_cons, h1, hi, List.getElem?_eq_getElem (show i < owed.length by omega)]
theorem Purse.paid_cell (h : Purse w P hand held owed paid) (i : Nat) (hi : i < 8) : w.cell? ⟨P, 10 + i, none⟩ = some (.int .i64 (paid.getD i 0)) := by
  have h1 := h.lo
  have h2 := h.lp
  rw [cell_of_row w P _ _ _ _ h.row, show 10 + i = (8 + i) + 2 from by omega]
  simp [pcL, List.getElem?_append, List.getElem?_cons, h1, hi, List.getElem?_eq_getElem (show i < paid.length by omega)]
theorem Purse.frozen (h : Purse w P hand held owed paid) (j : Nat) : w.frozen? ⟨P, j, none⟩ = false := frozen_of_row w P j _ _ h.row

theorem Purse.set_hand (h : Purse w P hand held owed paid) (x : Int) : Purse (w.setCell ⟨P, 0, none⟩ (.int .i64 x)) P x held owed paid := by
  refine ⟨h.lo, h.lp, ?_⟩
  rw [heap_setCell_same w P 0 _ _ _ h.row]; simp [pcL]
theorem Purse.set_held (h : Purse w P hand held owed paid) (x : Value) : Purse (w.setCell ⟨P, 1, none⟩ x) P hand x owed paid := by
  refine ⟨h.lo, h.lp, ?_⟩
  rw [heap_setCell_same w P 1 _ _ _ h.row]; simp [pcL]
theorem Purse.set_owed (h : Purse w P hand held owed paid) (i : Nat) (hi : i < 8) (x : Int) : Purse (w.setCell ⟨P, 2 + i, none⟩ (.int .i64 x)) P hand held (owed.set i x) paid := by
  have h1 := h.lo
  refine ⟨by simp [h1], h.lp, ?_⟩
  rw [heap_setCell_same w P _ _ _ _ h.row, Nat.add_comm 2 i]
  simp [pcL, List.set_append, List.map_set, h1, hi]
theorem Purse.set_paid (h : Purse w P hand held owed paid) (i : Nat) (hi : i < 8) (x : Int) : Purse (w.setCell ⟨P, 10 + i, none⟩ (.int .i64 x)) P hand held owed (paid.set i x) := by
  have h1 := h.lo
  refine ⟨h.lo, by simp [h.lp], ?_⟩
  rw [heap_setCell_same w P _ _ _ _ h.row, show 10 + i = (8 + i) + 2 from by omega]
  simp [pcL, List.set_append, List.map_set, h1]
theorem Purse.below {w' : World} {B : Nat} (h : Purse w P hand held owed paid) (hb : Below B w w') (hP : P < B) : Purse w' P hand held owed paid :=
  ⟨h.lo, h.lp, (hb.block P hP).trans h.row⟩
theorem Purse.other {w' : World} (h : Purse w P hand held owed paid) (e : w'.heap[P]? = w.heap[P]?) : Purse w' P hand held owed paid :=
  ⟨h.lo, h.lp, e.trans h.row⟩
end

theorem fillZ_set' (zs : List Int) (n k : Nat) (hk : k < n) : (fillZ zs n k).set k (zs.getD k 0) = fillZ zs n (k + 1) := by
  have := fillZ_set zs n k hk
  rw [← List.map_set] at this
  exact (List.map_inj_right (by intro a b h; simpa using h)).1 this

theorem purse_new (w : World) (m : Int) (zs : List Int) : Purse (w.alloc (.cells #[.int .i64 m, .slice none 0 0, .int .i64 0, .int .i64 0, .int .i64 0, .int .i64 0, .int .i64 0, .int .i64 0, .int .i64 0, .int .i64 0, .int .i64 0, .int .i64 0, .int .i64 0, .int .i64 0, .int .i64 0, .int .i64 0, .int .i64 0, .int .i64 0] 126)) w.heap.size m (.slice none 0 0) (fillZ zs 8 0) (List.replicate 8 0) := by
  refine ⟨by simp [fillZ], by simp, ?_⟩
  rw [heap_alloc_new]
  rfl

set_option maxHeartbeats 1000000 in
theorem newPurse_any (a : Option Addr) (cap : Nat) (zs : List Int) (m : Int) (w : World) (h : Ints w a 8 zs) :
    Calls Try.prog 73 #[.slice a 8 cap, .int .i64 m] w fun e w' => e = .returned (.pointer (some ⟨w.heap.size, 0, none⟩)) ∧ Purse w' w.heap.size m (.slice none 0 0) zs (List.replicate 8 0) ∧ Below w.heap.size w w' := by
  obtain ⟨hlen, hc⟩ := h
  obtain ⟨b, off, rfl, hcs⟩ := hc (by omega)
  clear hc
  have hbl : b < w.heap.size := by
    have := hcs 0 (by omega)
    by_cases hx : b < w.heap.size
    · exact hx
    · simp [World.cell?, hx] at this
  have HC := hide hcs
  clear hcs
  have HL := hide hlen
  clear hlen
  have HP := hide (purse_new w m zs)
  go_enter Try.func73, Try.ntmps73
  go_wp2
  go_loopw [6] (fun i wr => ∃ k : Nat, k ≤ 8 ∧ i = .int .i64 k ∧ Hid (Purse wr w.heap.size m (.slice none 0 0) (fillZ zs 8 k) (List.replicate 8 0)) ∧ Hid (Below w.heap.size w wr)) (fun i _ => 8 - (intOf i).toNat)
  case atStart => exact ⟨0, Nat.zero_le _, rfl, HP, (Below.refl _ _).alloc (Nat.le_refl _) _⟩
  case round =>
    obtain ⟨k, hk, rfl, hp, hb⟩ := hrel
    by_cases hlt : k < 8
    · have hck := unhide HC k hlt
      have hck' : wr.cell? ⟨b, off + k, none⟩ = some (.int .i64 (zs.getD k 0)) := ((unhide hb).cell (p := ⟨b, off + k, none⟩) hbl).trans hck
      obtain ⟨q, hq⟩ : ∃ q, q = zs.getD k 0 := ⟨_, rfl⟩
      rw [← hq] at hck'
      have HQ := hide hq
      have hfr := (unhide hp).frozen (2 + k)
      have hold := (unhide hp).owed_cell k hlt
      clear hck hq
      go_wp2
      go_region
      all_goals go_wp2
      go_roundw
      case rel =>
        refine ⟨k + 1, by omega, by go_num, ?_, ?_⟩
        · rw [← fillZ_set' zs 8 k hlt, ← unhide HQ]
          exact ((unhide hp).set_owed k hlt q).other rfl
        · exact ((unhide hb).setCell (p := ⟨w.heap.size, 2 + k, none⟩) (Nat.le_refl _) _).drew
      case measure => simp [intOf]; omega
    · go_wp2
      go_ret
      have hk8 : k = 8 := by omega
      subst hk8
      have := unhide hp
      rw [fillZ_all _ _ (unhide HL)] at this
      exact ⟨rfl, this, unhide hb⟩

theorem list8 : ∀ {l : List Int}, l.length = 8 → ∃ f0 f1 f2 f3 f4 f5 f6 f7, l = [f0, f1, f2, f3, f4, f5, f6, f7]
  | [a, b, c, d, e, f, g, h], _ => ⟨a, b, c, d, e, f, g, h, rfl⟩

theorem row_ints {w : World} {F : Nat} {T : TypeId} (f0 f1 f2 f3 f4 f5 f6 f7 : Int) (h : w.heap[F]? = some (.cells #[.int .i64 f0, .int .i64 f1, .int .i64 f2, .int .i64 f3, .int .i64 f4, .int .i64 f5, .int .i64 f6, .int .i64 f7] T (0, 0))) (i : Nat) (hi : i < 8) :
    w.cell? ⟨F, i, none⟩ = some (.int .i64 ([f0, f1, f2, f3, f4, f5, f6, f7].getD i 0)) := by
  rw [cell_of_row w F _ _ _ _ h]
  match i, hi with
  | 0, _ | 1, _ | 2, _ | 3, _ | 4, _ | 5, _ | 6, _ | 7, _ => rfl

set_option maxHeartbeats 1000000 in
/-- listOf: a list of its own with the eight numbers. -/
theorem listOf_any (f0 f1 f2 f3 f4 f5 f6 f7 : Int) (w : World) :
    Calls Try.prog 53 #[.agg #[.int .i64 f0, .int .i64 f1, .int .i64 f2, .int .i64 f3, .int .i64 f4, .int .i64 f5, .int .i64 f6, .int .i64 f7]] w fun e w' => ∃ g : Nat, e = .returned (.slice (some ⟨g, 0, none⟩) 8 8) ∧ w.heap.size ≤ g ∧ g < w'.heap.size ∧ Ints w' (some ⟨g, 0, none⟩) 8 [f0, f1, f2, f3, f4, f5, f6, f7] ∧ Below w.heap.size w w' := by
  obtain ⟨i0, hi, hz0, hz1, hz2⟩ := info_parts infoInt
  have HROW : Hid (∀ i, i < 8 → (w.alloc (.cells #[.int .i64 f0, .int .i64 f1, .int .i64 f2, .int .i64 f3, .int .i64 f4, .int .i64 f5, .int .i64 f6, .int .i64 f7] 85)).cell? ⟨w.heap.size, i, none⟩ = some (.int .i64 ([f0, f1, f2, f3, f4, f5, f6, f7].getD i 0))) := row_ints (w := w.alloc (.cells #[.int .i64 f0, .int .i64 f1, .int .i64 f2, .int .i64 f3, .int .i64 f4, .int .i64 f5, .int .i64 f6, .int .i64 f7] 85)) f0 f1 f2 f3 f4 f5 f6 f7 (heap_alloc_new _ _)
  go_enter Try.func53, Try.ntmps53
  obtain ⟨wa, hwa⟩ : ∃ wa, wa = w.alloc (.cells #[.int .i64 f0, .int .i64 f1, .int .i64 f2, .int .i64 f3, .int .i64 f4, .int .i64 f5, .int .i64 f6, .int .i64 f7] 85) := ⟨_, rfl⟩
  have hza : wa.heap.size = w.heap.size + 1 := by rw [hwa]; simp
  have hba : Below w.heap.size w wa := by rw [hwa]; exact (Below.refl _ _).alloc (Nat.le_refl _) _
  rw [← hwa] at HROW
  have HWA := hide hwa
  have HBA := hide hba
  have HZA := hide hza
  clear hwa hba hza
  go_wp2_with (at_make; refine wpList_make_full _ rfl _ _ 22 rfl (w.heap.size + 1) 3 i0 (.int .i64 0) 1 Try.underlying22 hi hz0 hz1 .i64 .i64 _ _ 8 rfl rfl rfl rfl (by rw [hz2]; omega) (by unfold maxLen; omega) (by simp) ?_; intro w1 hown hgrow)
  have hsz : (w.alloc (.cells #[.int .i64 f0, .int .i64 f1, .int .i64 f2, .int .i64 f3, .int .i64 f4, .int .i64 f5, .int .i64 f6, .int .i64 f7] 85)).heap.size = w.heap.size + 1 := by simp
  rw [hsz] at hown
  rw [← unhide HWA] at hgrow
  have hw1 : w1.ownsRow (w.heap.size + 1) 3 1 (.slice (some ⟨w.heap.size + 1, 0, none⟩) 8 8) 8 ((fillZ [f0, f1, f2, f3, f4, f5, f6, f7] 8 0).map (Value.int .i64)) := by
    rw [fillZ_zero]
    simpa [toList_madeCells_one, Value.cells] using hown
  have hb1 : Below (w.heap.size + 1) wa w1 := (Below.refl _ _).grown hgrow (by rw [unhide HZA]; exact Nat.le_refl _) (by simp)
  clear hown hgrow hsz
  have HW1 := hide hw1
  have HB1 := hide hb1
  clear hw1 hb1
  generalize hfs : [f0, f1, f2, f3, f4, f5, f6, f7] = fs at *
  have hfl : fs.length = 8 := by rw [← hfs]; rfl
  have HFL := hide hfl
  have HFS := hide hfs
  clear hfs hfl
  go_loopw [4] (fun i wr => ∃ k : Nat, k ≤ 8 ∧ i = .int .i64 k ∧ Hid (wr.ownsRow (w.heap.size + 1) 3 1 (.slice (some ⟨w.heap.size + 1, 0, none⟩) 8 8) 8 ((fillZ fs 8 k).map (Value.int .i64))) ∧ Hid (Below (w.heap.size + 1) wa wr))
    (fun i _ => 8 - (intOf i).toNat)
  case atStart => exact ⟨0, Nat.zero_le _, rfl, HW1, HB1⟩
  case round =>
    obtain ⟨k, hk, rfl, hown, hbel⟩ := hrel
    clear HWA HW1 HB1
    by_cases hlt : k < 8
    · have hck' : wr.cell? ⟨w.heap.size, k, none⟩ = some (.int .i64 (fs.getD k 0)) := ((unhide hbel).cell (p := ⟨w.heap.size, k, none⟩) (Nat.lt_succ_self _)).trans (unhide HROW k hlt)
      obtain ⟨q, hq⟩ : ∃ q, q = fs.getD k 0 := ⟨_, rfl⟩
      rw [← hq] at hck'
      have HQ := hide hq
      clear hq
      have hfr := (unhide hown).frozenAt k
      have hold : ∃ u, wr.cell? ⟨w.heap.size + 1, k, none⟩ = some u := by
        rw [(unhide hown).cellAt k (by omega)]
        exact ⟨_, List.getElem?_eq_getElem (by simp [fillZ]; omega)⟩
      obtain ⟨u, hold⟩ := hold
      clear hi hz0 hz1 hz2
      go_wp2
      go_roundw
      case rel =>
        refine ⟨k + 1, by omega, by go_num, ?_, ?_⟩
        · have := ((unhide hown).stored k (.int .i64 q)).1
          rw [unhide HQ, fillZ_set _ _ _ hlt] at this
          rw [unhide HQ]
          exact this
        · exact (unhide hbel).setCell (Nat.le_refl _) _
      case measure => simp [intOf]; omega
    · have hk' : k = 8 := by omega
      subst hk'
      go_wp2
      go_ret
      have hown := unhide hown
      rw [fillZ_all _ _ (unhide HFL)] at hown
      refine ⟨w.heap.size + 1, rfl, by omega, ?_, by rw [unhide HFS]; exact ints_of_own hown, (unhide HBA).trans ((unhide hbel).mono (by omega))⟩
      rcases hown.2 with ⟨h', _⟩ | ⟨g', cap', cur, h', _, hg, _⟩
      · simp at h'
      · simp only [Value.slice.injEq, Option.some.injEq, Addr.mk.injEq, and_true, true_and] at h'
        obtain ⟨rfl, rfl⟩ := h'
        exact cell_lt hg
end Go.Proofs.Ytmdjdpofpkgffab
