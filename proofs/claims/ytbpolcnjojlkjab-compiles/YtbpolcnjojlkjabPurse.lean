/- The purse in memory; newPurse, paidList, by their contracts. -/
import Derived.Test.YtbpolcnjojlkjabGiven
import Derived.RegionTactic
import Derived.ChangeAlike
import Derived.WalkSmall
namespace Go.Proofs.Ytbpolcnjojlkjab
open Go.ChangeShapes Go.WideShapes Go.ChangeAt Go.RowKit
set_option linter.unusedVariables false
set_option linter.unusedSimpArgs false

def pcL (hand : Int) (held : Value) (owed paid : List Int) : List Value := .int .i64 hand :: held :: (owed.map (Value.int .i64) ++ paid.map (Value.int .i64))

/-- The purse that lies in block P. -/
structure Purse (w : World) (P : Nat) (hand : Int) (held : Value) (owed paid : List Int) : Prop where
  lo : owed.length = 8
  lp : paid.length = 8
  row : w.heap[P]? = some (.cells (pcL hand held owed paid).toArray 81 (0, 0))

section
variable {w : World} {P : Nat} {hand : Int} {held : Value} {owed paid : List Int}

theorem Purse.lt (h : Purse w P hand held owed paid) : P < w.heap.size := cell_lt h.row
theorem Purse.hand_cell (h : Purse w P hand held owed paid) : w.cell? ⟨P, 0, none⟩ = some (.int .i64 hand) := by
  rw [cell_of_row w P 0 _ _ _ h.row]; simp [pcL]
theorem Purse.held_cell (h : Purse w P hand held owed paid) : w.cell? ⟨P, 1, none⟩ = some held := by
  rw [cell_of_row w P 1 _ _ _ h.row]; simp [pcL]
theorem Purse.owed_cell (h : Purse w P hand held owed paid) (i : Nat) (hi : i < 8) : w.cell? ⟨P, 2 + i, none⟩ = some (.int .i64 (owed.getD i 0)) := by
  have h1 := h.lo
  rw [cell_of_row w P _ _ _ _ h.row, Nat.add_comm]
  simp [pcL, List.getElem?_append, List.getElem?_cons, h1, hi, List.getElem?_eq_getElem (show i < owed.length by omega)]
theorem Purse.paid_cell (h : Purse w P hand held owed paid) (i : Nat) (hi : i < 8) : w.cell? ⟨P, 10 + i, none⟩ = some (.int .i64 (paid.getD i 0)) := by
  have h1 := h.lo
  have h2 := h.lp
  rw [cell_of_row w P _ _ _ _ h.row, show 10 + i = (8 + i) + 2 from by omega]
  simp [pcL, List.getElem?_append, List.getElem?_cons, h1, hi, List.getElem?_eq_getElem (show i < paid.length by omega)]
theorem Purse.frozen (h : Purse w P hand held owed paid) (j : Nat) : w.frozen? ⟨P, j, none⟩ = false := frozen_of_row w P j _ _ h.row

theorem Purse.set_hand (h : Purse w P hand held owed paid) (x : Int) : Purse (w.setCell ⟨P, 0, none⟩ (.int .i64 x)) P x held owed paid := by
  refine ⟨h.lo, h.lp, ?_⟩
  rw [heap_setCell_same w P 0 _ _ _ h.row]; simp [pcL]
theorem Purse.set_held (h : Purse w P hand held owed paid) (x : Value) : Purse (w.setCell ⟨P, 1, none⟩ x) P hand x owed paid := by
  refine ⟨h.lo, h.lp, ?_⟩
  rw [heap_setCell_same w P 1 _ _ _ h.row]; simp [pcL]
theorem Purse.set_owed (h : Purse w P hand held owed paid) (i : Nat) (hi : i < 8) (x : Int) : Purse (w.setCell ⟨P, 2 + i, none⟩ (.int .i64 x)) P hand held (owed.set i x) paid := by
  have h1 := h.lo
  refine ⟨by simp [h1], h.lp, ?_⟩
  rw [heap_setCell_same w P _ _ _ _ h.row, Nat.add_comm 2 i]
  simp [pcL, List.set_append, List.map_set, h1, hi]
theorem Purse.set_paid (h : Purse w P hand held owed paid) (i : Nat) (hi : i < 8) (x : Int) : Purse (w.setCell ⟨P, 10 + i, none⟩ (.int .i64 x)) P hand held owed (paid.set i x) := by
  have h1 := h.lo
  refine ⟨h.lo, by simp [h.lp], ?_⟩
  rw [heap_setCell_same w P _ _ _ _ h.row, show 10 + i = (8 + i) + 2 from by omega]
  simp [pcL, List.set_append, List.map_set, h1]
theorem Purse.below {w' : World} {B : Nat} (h : Purse w P hand held owed paid) (hb : Below B w w') (hP : P < B) : Purse w' P hand held owed paid :=
  ⟨h.lo, h.lp, (hb.block P hP).trans h.row⟩
theorem Purse.other {w' : World} (h : Purse w P hand held owed paid) (e : w'.heap[P]? = w.heap[P]?) : Purse w' P hand held owed paid :=
  ⟨h.lo, h.lp, e.trans h.row⟩
end

theorem fillZ_set' (zs : List Int) (n k : Nat) (hk : k < n) : (fillZ zs n k).set k (zs.getD k 0) = fillZ zs n (k + 1) := by
  have := fillZ_set zs n k hk
  rw [← List.map_set] at this
  exact (List.map_inj_right (by intro a b h; simpa using h)).1 this

theorem purse_new (w : World) (m : Int) (zs : List Int) : Purse (w.alloc (.cells #[.int .i64 m, .slice none 0 0, .int .i64 0, .int .i64 0, .int .i64 0, .int .i64 0, .int .i64 0, .int .i64 0, .int .i64 0, .int .i64 0, .int .i64 0, .int .i64 0, .int .i64 0, .int .i64 0, .int .i64 0, .int .i64 0, .int .i64 0, .int .i64 0] 81)) w.heap.size m (.slice none 0 0) (fillZ zs 8 0) (List.replicate 8 0) := by
  refine ⟨by simp [fillZ], by simp, ?_⟩
  rw [heap_alloc_new]
  rfl

set_option maxHeartbeats 1000000 in
theorem newPurse_any (a : Option Addr) (cap : Nat) (zs : List Int) (m : Int) (w : World) (h : Ints w a 8 zs) :
    Calls Try.prog 39 #[.slice a 8 cap, .int .i64 m] w fun e w' => e = .returned (.pointer (some ⟨w.heap.size, 0, none⟩)) ∧ Purse w' w.heap.size m (.slice none 0 0) zs (List.replicate 8 0) ∧ Below w.heap.size w w' := by
  obtain ⟨hlen, hc⟩ := h
  obtain ⟨b, off, rfl, hcs⟩ := hc (by omega)
  clear hc
  have hbl : b < w.heap.size := by
    have := hcs 0 (by omega)
    by_cases hx : b < w.heap.size
    · exact hx
    · simp [World.cell?, hx] at this
  have HC := hide hcs
  clear hcs
  have HL := hide hlen
  clear hlen
  have HP := hide (purse_new w m zs)
  go_enter Try.func39, Try.ntmps39
  go_wp2
  go_loopw [6] (fun i wr => ∃ k : Nat, k ≤ 8 ∧ i = .int .i64 k ∧ Hid (Purse wr w.heap.size m (.slice none 0 0) (fillZ zs 8 k) (List.replicate 8 0)) ∧ Hid (Below w.heap.size w wr)) (fun i _ => 8 - (intOf i).toNat)
  case atStart => exact ⟨0, Nat.zero_le _, rfl, HP, (Below.refl _ _).alloc (Nat.le_refl _) _⟩
  case round =>
    obtain ⟨k, hk, rfl, hp, hb⟩ := hrel
    by_cases hlt : k < 8
    · have hck := unhide HC k hlt
      have hck' : wr.cell? ⟨b, off + k, none⟩ = some (.int .i64 (zs.getD k 0)) := ((unhide hb).cell (p := ⟨b, off + k, none⟩) hbl).trans hck
      obtain ⟨q, hq⟩ : ∃ q, q = zs.getD k 0 := ⟨_, rfl⟩
      rw [← hq] at hck'
      have HQ := hide hq
      have hfr := (unhide hp).frozen (2 + k)
      have hold := (unhide hp).owed_cell k hlt
      clear hck hq
      go_wp2
      go_region
      all_goals go_wp2
      go_roundw
      case rel =>
        refine ⟨k + 1, by omega, by go_num, ?_, ?_⟩
        · rw [← fillZ_set' zs 8 k hlt, ← unhide HQ]
          exact ((unhide hp).set_owed k hlt q).other rfl
        · exact ((unhide hb).setCell (p := ⟨w.heap.size, 2 + k, none⟩) (Nat.le_refl _) _).drew
      case measure => simp [intOf]; omega
    · go_wp2
      go_ret
      have hk8 : k = 8 := by omega
      subst hk8
      have := unhide hp
      rw [fillZ_all _ _ (unhide HL)] at this
      exact ⟨rfl, this, unhide hb⟩

set_option maxHeartbeats 1000000 in
theorem paidList_any (P : Nat) (hand : Int) (held : Value) (owed paid : List Int) (w : World) (h : Purse w P hand held owed paid) :
    Calls Try.prog 41 #[.pointer (some ⟨P, 0, none⟩)] w fun e w' => e = .returned (.slice (some ⟨w.heap.size, 0, none⟩) 8 8) ∧ Ints w' (some ⟨w.heap.size, 0, none⟩) 8 paid ∧ Below w.heap.size w w' ∧ w.heap.size < w'.heap.size := by
  obtain ⟨i0, hi, hz0, hz1, hz2⟩ := info_parts infoInt
  have hPlt := h.lt
  have HP := hide h
  clear h
  go_enter Try.func41, Try.ntmps41
  go_wp2_with (at_make; refine wpList_make_full _ rfl _ _ 22 rfl w.heap.size 3 i0 (.int .i64 0) 1 Try.underlying22 hi hz0 hz1 .i64 .i64 _ _ 8 rfl rfl rfl rfl (by rw [hz2]; omega) (by unfold maxLen; omega) (Nat.le_refl _) ?_; intro w1 hown hgrow)
  have hw1 : w1.ownsRow w.heap.size 3 1 (.slice (some ⟨w.heap.size, 0, none⟩) 8 8) 8 ((fillZ paid 8 0).map (Value.int .i64)) := by
    rw [fillZ_zero]
    simpa [toList_madeCells_one, Value.cells] using hown
  have hb1 : Below w.heap.size w w1 := (Below.refl _ _).grown hgrow (Nat.le_refl _) (by simp)
  clear hown hgrow
  go_loopw [4] (fun i wr => ∃ k : Nat, k ≤ 8 ∧ i = .int .i64 k ∧ Hid (wr.ownsRow w.heap.size 3 1 (.slice (some ⟨w.heap.size, 0, none⟩) 8 8) 8 ((fillZ paid 8 k).map (Value.int .i64))) ∧ Hid (Below w.heap.size w wr))
    (fun i _ => 8 - (intOf i).toNat)
  case atStart => exact ⟨0, Nat.zero_le _, rfl, hw1, hb1⟩
  case round =>
    obtain ⟨k, hk, rfl, hown, hbel⟩ := hrel
    by_cases hlt : k < 8
    · have hck' : wr.cell? ⟨P, 10 + k, none⟩ = some (.int .i64 (paid.getD k 0)) := ((unhide hbel).cell (p := ⟨P, 10 + k, none⟩) hPlt).trans ((unhide HP).paid_cell k hlt)
      obtain ⟨q, hq⟩ : ∃ q, q = paid.getD k 0 := ⟨_, rfl⟩
      rw [← hq] at hck'
      have HQ := hide hq
      clear hq
      have hfr := (unhide hown).frozenAt k
      have hold : ∃ u, wr.cell? ⟨w.heap.size, k, none⟩ = some u := by
        rw [(unhide hown).cellAt k (by omega)]
        exact ⟨_, List.getElem?_eq_getElem (by simp [fillZ]; omega)⟩
      obtain ⟨u, hold⟩ := hold
      clear hw1 hb1 hi hz0 hz1 hz2
      go_wp2
      go_roundw
      case rel =>
        refine ⟨k + 1, by omega, by go_num, ?_, ?_⟩
        · have := ((unhide hown).stored k (.int .i64 q)).1
          rw [unhide HQ, fillZ_set _ _ _ hlt] at this
          rw [unhide HQ]
          exact this
        · exact (unhide hbel).setCell (Nat.le_refl _) _
      case measure => simp [intOf]; omega
    · have hk' : k = 8 := by omega
      subst hk'
      go_wp2
      go_ret
      have hown := unhide hown
      rw [fillZ_all _ _ (unhide HP).lp] at hown
      refine ⟨rfl, ints_of_own hown, unhide hbel, ?_⟩
      rcases hown.2 with ⟨h', _⟩ | ⟨g', cap', cur, h', _, hg, _⟩
      · simp at h'
      · simp only [Value.slice.injEq, Option.some.injEq, Addr.mk.injEq, and_true, true_and] at h'
        obtain ⟨rfl, rfl⟩ := h'
        exact cell_lt hg
end Go.Proofs.Ytbpolcnjojlkjab
