/- RefUse: changed, Install, Charge, Pay of the document's book. -/
import Derived.Test.YtmdjdpofpkgffabRefTurn
import Derived.Test.YtmdjdpofpkgffabRefShares
namespace Go.Proofs.Ytmdjdpofpkgffab
open Go.ChangeShapes Go.WideShapes Go.ChangeAt Go.RowKit
open Split
set_option linter.unusedVariables false
set_option linter.unusedSimpArgs false

set_option maxHeartbeats 1000000 in
theorem changed_any (a : Option Addr) (cap : Nat) (zs : List Int) (k : Nat) (x : Int) (w : World) (h : Ints w a 8 zs) (hk : k < 8) (hb : 0 ≤ zs.getD k 0 + x ∧ zs.getD k 0 + x ≤ 4000000000) :
    Calls Try.prog 55 #[.slice a 8 cap, .int .i64 k, .int .i64 x] w fun e w' => e = .returned (.slice (some ⟨w.heap.size, 0, none⟩) 8 8) ∧ L8 w' (fun j => j = w.heap.size) (some ⟨w.heap.size, 0, none⟩) (zs.set k (zs.getD k 0 + x)) ∧ Below w.heap.size w w' ∧ w.heap.size < w'.heap.size := by
  obtain ⟨i0, hi, hz0, hz1, hz2⟩ := info_parts infoInt
  obtain ⟨hlen, hc⟩ := h
  obtain ⟨b, off, rfl, hcs⟩ := hc (by omega)
  have HCS := hide hcs
  have HLEN := hide hlen
  clear hc hcs hlen
  go_enter Try.func55, Try.ntmps55
  go_wp2_with (at_make; refine wpList_make_full _ rfl _ _ 22 rfl w.heap.size 3 i0 (.int .i64 0) 1 Try.underlying22 hi hz0 hz1 .i64 .i64 _ _ 8 rfl rfl rfl rfl (by rw [hz2]; omega) (by unfold maxLen; omega) (Nat.le_refl _) ?_; intro w1 hown hgrow)
  have hw1 : Hid (w1.ownsRow w.heap.size 3 1 (.slice (some ⟨w.heap.size, 0, none⟩) 8 8) 8 ((fillZ zs 8 0).map (Value.int .i64))) := by
    rw [fillZ_zero]
    simpa [Hid, toList_madeCells_one, Value.cells] using hown
  have hb1 : Hid (Below w.heap.size w w1) := (Below.refl _ _).grown hgrow (Nat.le_refl _) (by simp)
  clear hown hgrow
  go_loopw [8] (fun i wr => ∃ j : Nat, j ≤ 8 ∧ i = .int .i64 j ∧ Hid (wr.ownsRow w.heap.size 3 1 (.slice (some ⟨w.heap.size, 0, none⟩) 8 8) 8 ((fillZ zs 8 j).map (Value.int .i64))) ∧ Hid (Below w.heap.size w wr))
    (fun i _ => 8 - (intOf i).toNat)
  case atStart => exact ⟨0, Nat.zero_le _, rfl, hw1, hb1⟩
  case round =>
    obtain ⟨j, hj, rfl, hown, hbel⟩ := hrel
    by_cases hlt : j < 8
    · have hck := unhide HCS j hlt
      have hbl : b < w.heap.size := by
        by_cases hx : b < w.heap.size
        · exact hx
        · simp [World.cell?, hx] at hck
      have hck' : wr.cell? ⟨b, off + j, none⟩ = some (.int .i64 (zs.getD j 0)) := ((unhide hbel).cell (p := ⟨b, off + j, none⟩) hbl).trans hck
      obtain ⟨q, hq⟩ : ∃ q, q = zs.getD j 0 := ⟨_, rfl⟩
      rw [← hq] at hck'
      have HQ := hide hq
      have hfr := (unhide hown).frozenAt j
      have hold : ∃ u, wr.cell? ⟨w.heap.size, j, none⟩ = some u := by
        rw [(unhide hown).cellAt j (by omega)]
        exact ⟨_, List.getElem?_eq_getElem (by simp [fillZ]; omega)⟩
      obtain ⟨u, hold⟩ := hold
      clear hck hq hi hz0 hz1 hz2 hw1 hb1 hb
      go_wp2
      go_roundw
      case rel =>
        refine ⟨j + 1, by omega, by go_num, ?_, ?_⟩
        · have := ((unhide hown).stored j (.int .i64 q)).1
          rw [unhide HQ, fillZ_set _ _ _ hlt] at this
          rw [unhide HQ]
          exact this
        · exact (unhide hbel).setCell (p := ⟨w.heap.size, j, none⟩) (Nat.le_refl _) _
      case measure => simp [intOf]; omega
    · have hj' : j = 8 := by omega
      subst hj'
      have hown' := unhide hown
      rw [fillZ_all _ _ (unhide HLEN)] at hown'
      have hck : wr.cell? ⟨w.heap.size, k, none⟩ = some (.int .i64 (zs.getD k 0)) := by
        obtain ⟨b', off', e, hcs⟩ := (ints_of_own hown').2 (by omega)
        simp only [Option.some.injEq, Addr.mk.injEq, and_true] at e
        obtain ⟨rfl, rfl⟩ := e
        have := hcs k hk
        rwa [Nat.zero_add] at this
      have hfr := hown'.frozenAt k
      have hst := (hown'.stored k (.int .i64 (zs.getD k 0 + x))).1
      rw [← List.map_set] at hst
      obtain ⟨q, hq⟩ : ∃ q, q = zs.getD k 0 := ⟨_, rfl⟩
      rw [← hq] at hck hb hst
      have HST := hide hst
      have HQ := hide hq
      clear hq hown' hst hi hz0 hz1 hz2 hw1 hb1
      go_wp2
      go_ret
      have h8 := l8_of_own (S := fun j => j = w.heap.size) (by simp [unhide HLEN]) (unhide HST) rfl
      refine ⟨rfl, by rw [← unhide HQ]; exact h8, (unhide hbel).setCell (p := ⟨w.heap.size, k, none⟩) (Nat.le_refl _) _, ?_⟩
      obtain ⟨_, g, o, cur, fr, e, e2, e3, _⟩ := h8
      have := cell_lt e3
      rw [e2] at this
      exact this
end Go.Proofs.Ytmdjdpofpkgffab
