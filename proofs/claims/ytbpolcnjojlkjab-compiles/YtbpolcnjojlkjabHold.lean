/- split's purse: hold, takeBack. -/
import Derived.Test.YtbpolcnjojlkjabPay
namespace Go.Proofs.Ytbpolcnjojlkjab
open Go.ChangeShapes Go.WideShapes Go.ChangeAt Go.RowKit
open Split (Pu lea paySum payM Keeps holdM backM)
set_option linter.unusedVariables false
set_option linter.unusedSimpArgs false

theorem Purse.via {w W w2 : World} {P : Nat} {hand : Int} {held : Value} {owed paid : List Int} {r : Option Nat} (h : Purse w P hand held owed paid) (hg : W.grownBy w2 r) (hr : some P ≠ r) (e : W.heap[P]? = w.heap[P]?) : Purse w2 P hand held owed paid :=
  Purse.grown (w := W) (h.other e) hg hr

theorem wrap_big {x : Int} (h0 : -1000000000000000000 ≤ x) (h1 : x ≤ 1000000000000000000) : IntKind.i64.wrap x = x := by
  rw [IntWalk.i64_left]
  exact IntWalk.wrap64_in x (by omega)

set_option maxHeartbeats 4000000 in
theorem hold_any (P : Nat) (p : Pu) (M : Int) (o0 : List Int) (n : Int) (w : World) (h : PA w P p) (hk : Keeps M o0 p) (hn : 0 ≤ n) (hn' : n ≤ 100) (hl : p.held.length ≤ 1000) :
    Calls Try.prog 58 #[.pointer (some ⟨P, 0, none⟩), .int .i64 n] w fun e w' => e = .returned (.tuple #[]) ∧ PA w' P (holdM p n) ∧ Below P w w' := by
  obtain ⟨vh, hP, hH⟩ := h
  have hpb := Split.part_bd p.hand n hk.h0 hn hn'
  have b1 := hk.paid_le 0
  have b2 := hk.pa 0
  have b3 := hk.h0
  have hm1 : 0 ≤ p.hand * n := Int.mul_nonneg b3 hn
  have hm2 : p.hand * n ≤ p.hand * 100 := Int.mul_le_mul_of_nonneg_left hn' b3
  obtain ⟨i0, hi, hz0, hz1, hz2⟩ := info_parts infoInt
  obtain ⟨ha, hcap, rfl, hhc, _⟩ := own_slice hH
  have hm : holdM p n = ⟨p.hand * n / 100, p.held ++ [p.hand - p.hand * n / 100], p.owed, p.paid⟩ := rfl
  rw [hm]
  obtain ⟨hd, hld, ow, pd⟩ := p
  dsimp only at *
  obtain ⟨m, hme⟩ : ∃ m, hd * n = m := ⟨_, rfl⟩
  rw [hme] at hm1 hm2 hpb ⊢
  have hsum : 0 ≤ hld.sum := b1.2
  have b1' := b1.1
  have hbd : hd ≤ 1000000000 := by omega
  have hm3 : m ≤ 100000000000 := by omega
  have HME := hide hme
  have ch := hP.hand_cell
  have chd := hP.held_cell
  have fh := hP.frozen 0
  have fhd := hP.frozen 1
  have hPlt := hP.lt
  have HP := hide hP
  have HH := hide hH
  clear hP hH hm hk b1 b1' b2 hme
  go_enter Try.func58, Try.ntmps58
  go_wp2_with fail
  rw [show wrap64 (hd * n) = m from by rw [unhide HME]; exact IntWalk.wrap64_in m (by omega), show wrap64 (m.tdiv 100) = m / 100 from by rw [Int.tdiv_eq_ediv_of_nonneg hm1]; exact IntWalk.wrap64_in _ (by omega)]
  obtain ⟨q, hq⟩ : ∃ q, m / 100 = q := ⟨_, rfl⟩
  rw [hq] at hpb ⊢
  have HQ := hide hq
  have hwr : IntKind.i64.wrap (hd - q) = hd - q := wrap_big (by omega) (by omega)
  clear hq
  go_region_law (refine step_append_own rfl (.tmp 16) (.tmp 23) 22 rfl (P + 1) 3 i0 (.int .i64 0) 1 8 Try.underlying22 hi hz0 hz1 hz2 rfl (by decide) (.slice ha hld.length hcap) hld.length (hld.map (Value.int .i64)) (by simp [Act.eval, Act.put]) (by exact World.ownsRow.alloc (World.ownsRow.drew (unhide HH)) _) ⟨w.heap.size, 0, none⟩ 1 1 [.int .i64 (hd - q)] (by simp [Act.eval, Act.put]) rfl (by intro j u hj; match j, hj with | 0, hj => simp at hj; subst hj; simp [Addr.add]) (by intro u hu; simp at hu; subst hu; rfl) (by unfold maxLen; omega) (by omega) (by simp; omega) ?_; intro v' w2 hown hgrow; have hP2 := Purse.via (unhide HP) hgrow (own_base (unhide HH) (Nat.lt_succ_self _)) (by exact Go.heap_alloc_old _ _ hPlt); have fh' := hP2.frozen 0; have ch' := hP2.hand_cell; have fhd' := hP2.frozen 1; have chd' := hP2.held_cell; obtain ⟨a2, cap2, rfl, hle2, _⟩ := own_slice hown)
  all_goals
    have HP2 := hide hP2
    have HOWN := hide hown
    have HB := hide (((Below.refl P w).alloc (by omega) _).trans (below_of_grown (B := P) (grown_undrew hgrow) (by simp; omega) (fun k hk => by have := (unhide HH).lt k hk; omega)))
    clear hP2 hown hgrow hi hz0 hz1 hz2
    go_wp2_with fail
    go_end0
    rw [unhide HQ]
    refine ⟨rfl, ⟨_, ((unhide HP2).set_held _).set_hand q, ?_⟩, ?_⟩
    · refine World.ownsRow.kept ?_ (grown_set (grown_set (grown_refl _ _) 1 _) 0 _) (own_ne (unhide HOWN) (by omega))
      simpa using unhide HOWN
    · exact ((unhide HB).setCell (p := ⟨P, 1, none⟩) (Nat.le_refl _) _).setCell (p := ⟨P, 0, none⟩) (Nat.le_refl _) _

set_option maxHeartbeats 4000000 in
theorem takeBack_any (P : Nat) (p : Pu) (M : Int) (o0 : List Int) (w : World) (h : PA w P p) (hk : Keeps M o0 p) (hl : p.held.length ≤ 1000) :
    Calls Try.prog 59 #[.pointer (some ⟨P, 0, none⟩)] w fun e w' => e = .returned (.tuple #[]) ∧ PA w' P (backM p) ∧ Below P w w' := by
  obtain ⟨vh, hP, hH⟩ := h
  have hPlt := hP.lt
  obtain ⟨ha, hcap, rfl, hhc, hha⟩ := own_slice hH
  unfold backM
  obtain ⟨hd, hld, ow, pd⟩ := p
  dsimp only at *
  cases hlast : hld.getLast? with
  | none =>
    have e0 : hld = [] := List.getLast?_eq_none_iff.1 hlast
    subst e0
    have chd := hP.held_cell
    have HP := hide hP
    have HH := hide hH
    clear hP hH hk hha hlast
    dsimp only
    go_enter Try.func59, Try.ntmps59
    go_wp2_with fail
    refine bodyPost_ret (v := .tuple #[]) (by simp [results, Try.results59, go_sem]) rfl ?_
    exact ⟨rfl, ⟨_, unhide HP, unhide HH⟩, Below.refl _ _⟩
  | some x =>
    have hmem : x ∈ hld := List.mem_of_getLast? hlast
    have hne : hld ≠ [] := fun e => by rw [e] at hmem; simp at hmem
    obtain ⟨l, rfl⟩ : ∃ l, hld = l ++ [x] := by
      have := List.dropLast_concat_getLast hne
      rw [List.getLast?_eq_some_getLast hne] at hlast
      simp at hlast
      rw [hlast] at this
      exact ⟨_, this.symm⟩
    obtain ⟨g, rfl⟩ := hha (by simp)
    dsimp only
    rw [List.dropLast_concat]
    have hx0 := hk.hh x hmem
    have b1 := hk.paid_le 0
    have b2 := hk.pa 0
    have b3 := hk.h0
    have hxs : x ≤ (l ++ [x]).sum := Split.mem_le_sum _ hk.hh x hmem
    dsimp only at hx0 b1 b2 b3
    have hbd : hd + x ≤ 1000000000 := by omega
    have hlen : (l ++ [x]).length = l.length + 1 := by simp
    have hmap : (l ++ [x]).map (Value.int .i64) = l.map (Value.int .i64) ++ [.int .i64 x] := by simp
    rw [hlen] at hH hP hhc hl
    rw [hmap] at hH
    have hg := (hH.lt g rfl).1
    have chd := hP.held_cell
    have ch := hP.hand_cell
    have fh := hP.frozen 0
    have fhd := hP.frozen 1
    have cx : w.cell? ⟨g, l.length, none⟩ = some (.int .i64 x) := by
      rw [hH.cellAt _ (by omega), List.getElem?_append_right (by simp)]
      simp
    have hH2 := ownsRow_pop (by simp) hH
    have HP := hide hP
    have HH := hide hH2
    clear hP hH hH2 hk b1 b2 hxs hlen hmap hne hmem hlast hha
    go_enter Try.func59, Try.ntmps59
    go_wp2_with fail
    go_region
    all_goals
      go_wp2_with fail
      go_end0
      refine ⟨rfl, ⟨_, (((unhide HP).set_hand (hd + x)).set_held _).other rfl, ?_⟩, ?_⟩
      · exact World.ownsRow.kept (unhide HH) (grown_drewN (grown_set (grown_set (grown_refl _ _) 0 _) 1 _) 1) (own_ne (unhide HH) (by omega))
      · exact (((Below.refl _ _).setCell (p := ⟨P, 0, none⟩) (Nat.le_refl _) _).setCell (p := ⟨P, 1, none⟩) (Nat.le_refl _) _).drew
end Go.Proofs.Ytbpolcnjojlkjab
