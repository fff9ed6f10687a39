/- Purse, Pay, Hold -/
import Derived.Test.YtbpolcnjojlkjabPack0
import Derived.RegionTactic
import Derived.ChangeAlike
import Derived.WalkSmall
import Derived.Test.YtbpolcnjojlkjabPack5
import Derived.Test.YtbpolcnjojlkjabPack4

/- The purse in memory; newPurse, paidList, by their contracts. -/
namespace Go.Proofs.Ytbpolcnjojlkjab
open Go.ChangeShapes Go.WideShapes Go.ChangeAt Go.RowKit
set_option linter.unusedVariables false
set_option linter.unusedSimpArgs false

def pcL (hand : Int) (held : Value) (owed paid : List Int) : List Value := .int .i64 hand :: held :: (owed.map (Value.int .i64) ++ paid.map (Value.int .i64))

/-- The purse that lies in block P. -/
structure Purse (w : World) (P : Nat) (hand : Int) (held : Value) (owed paid : List Int) : Prop where
  lo : owed.length = 8
  lp : paid.length = 8
  row : w.heap[P]? = some (.cells (pcL hand held owed paid).toArray 81 (0, 0))

section
variable {w : World} {P : Nat} {hand : Int} {held : Value} {owed paid : List Int}

theorem Purse.lt (h : Purse w P hand held owed paid) : P < w.heap.size := cell_lt h.row
theorem Purse.hand_cell (h : Purse w P hand held owed paid) : w.cell? ⟨P, 0, none⟩ = some (.int .i64 hand) := by
  rw [cell_of_row w P 0 _ _ _ h.row]; simp [pcL]
theorem Purse.held_cell (h : Purse w P hand held owed paid) : w.cell? ⟨P, 1, none⟩ = some held := by
  rw [cell_of_row w P 1 _ _ _ h.row]; simp [pcL]
theorem Purse.owed_cell (h : Purse w P hand held owed paid) (i : Nat) (hi : i < 8) : w.cell? ⟨P, 2 + i, none⟩ = some (.int .i64 (owed.getD i 0)) := by
  have h1 := h.lo
  rw [cell_of_row w P _ _ _ _ h.row, Nat.add_comm]
  simp [pcL, List.getElem?_append, List.getElem?_cons, h1, hi, List.getElem?_eq_getElem (show i < owed.length by omega)]
theorem Purse.paid_cell (h : Purse w P hand held owed paid) (i : Nat) (hi : i < 8) : w.cell? ⟨P, 10 + i, none⟩ = some (.int .i64 (paid.getD i 0)) := by
  have h1 := h.lo
  have h2 := h.lp
  rw [cell_of_row w P _ _ _ _ h.row, show 10 + i = (8 + i) + 2 from by omega]
  simp [pcL, List.getElem?_append, List.getElem?_cons, h1, hi, List.getElem?_eq_getElem (show i < paid.length by omega)]
theorem Purse.frozen (h : Purse w P hand held owed paid) (j : Nat) : w.frozen? ⟨P, j, none⟩ = false := frozen_of_row w P j _ _ h.row

theorem Purse.set_hand (h : Purse w P hand held owed paid) (x : Int) : Purse (w.setCell ⟨P, 0, none⟩ (.int .i64 x)) P x held owed paid := by
  refine ⟨h.lo, h.lp, ?_⟩
  rw [heap_setCell_same w P 0 _ _ _ h.row]; simp [pcL]
theorem Purse.set_held (h : Purse w P hand held owed paid) (x : Value) : Purse (w.setCell ⟨P, 1, none⟩ x) P hand x owed paid := by
  refine ⟨h.lo, h.lp, ?_⟩
  rw [heap_setCell_same w P 1 _ _ _ h.row]; simp [pcL]
theorem Purse.set_owed (h : Purse w P hand held owed paid) (i : Nat) (hi : i < 8) (x : Int) : Purse (w.setCell ⟨P, 2 + i, none⟩ (.int .i64 x)) P hand held (owed.set i x) paid := by
  have h1 := h.lo
  refine ⟨by simp [h1], h.lp, ?_⟩
  rw [heap_setCell_same w P _ _ _ _ h.row, Nat.add_comm 2 i]
  simp [pcL, List.set_append, List.map_set, h1, hi]
theorem Purse.set_paid (h : Purse w P hand held owed paid) (i : Nat) (hi : i < 8) (x : Int) : Purse (w.setCell ⟨P, 10 + i, none⟩ (.int .i64 x)) P hand held owed (paid.set i x) := by
  have h1 := h.lo
  refine ⟨h.lo, by simp [h.lp], ?_⟩
  rw [heap_setCell_same w P _ _ _ _ h.row, show 10 + i = (8 + i) + 2 from by omega]
  simp [pcL, List.set_append, List.map_set, h1]
theorem Purse.below {w' : World} {B : Nat} (h : Purse w P hand held owed paid) (hb : Below B w w') (hP : P < B) : Purse w' P hand held owed paid :=
  ⟨h.lo, h.lp, (hb.block P hP).trans h.row⟩
theorem Purse.other {w' : World} (h : Purse w P hand held owed paid) (e : w'.heap[P]? = w.heap[P]?) : Purse w' P hand held owed paid :=
  ⟨h.lo, h.lp, e.trans h.row⟩
end

theorem fillZ_set' (zs : List Int) (n k : Nat) (hk : k < n) : (fillZ zs n k).set k (zs.getD k 0) = fillZ zs n (k + 1) := by
  have := fillZ_set zs n k hk
  rw [← List.map_set] at this
  exact (List.map_inj_right (by intro a b h; simpa using h)).1 this

theorem purse_new (w : World) (m : Int) (zs : List Int) : Purse (w.alloc (.cells #[.int .i64 m, .slice none 0 0, .int .i64 0, .int .i64 0, .int .i64 0, .int .i64 0, .int .i64 0, .int .i64 0, .int .i64 0, .int .i64 0, .int .i64 0, .int .i64 0, .int .i64 0, .int .i64 0, .int .i64 0, .int .i64 0, .int .i64 0, .int .i64 0] 81)) w.heap.size m (.slice none 0 0) (fillZ zs 8 0) (List.replicate 8 0) := by
  refine ⟨by simp [fillZ], by simp, ?_⟩
  rw [heap_alloc_new]
  rfl

set_option maxHeartbeats 1000000 in
theorem newPurse_any (a : Option Addr) (cap : Nat) (zs : List Int) (m : Int) (w : World) (h : Ints w a 8 zs) :
    Calls Try.prog 39 #[.slice a 8 cap, .int .i64 m] w fun e w' => e = .returned (.pointer (some ⟨w.heap.size, 0, none⟩)) ∧ Purse w' w.heap.size m (.slice none 0 0) zs (List.replicate 8 0) ∧ Below w.heap.size w w' := by
  obtain ⟨hlen, hc⟩ := h
  obtain ⟨b, off, rfl, hcs⟩ := hc (by omega)
  clear hc
  have hbl : b < w.heap.size := by
    have := hcs 0 (by omega)
    by_cases hx : b < w.heap.size
    · exact hx
    · simp [World.cell?, hx] at this
  have HC := hide hcs
  clear hcs
  have HL := hide hlen
  clear hlen
  have HP := hide (purse_new w m zs)
  go_enter Try.func39, Try.ntmps39
  go_wp2
  go_loopw [6] (fun i wr => ∃ k : Nat, k ≤ 8 ∧ i = .int .i64 k ∧ Hid (Purse wr w.heap.size m (.slice none 0 0) (fillZ zs 8 k) (List.replicate 8 0)) ∧ Hid (Below w.heap.size w wr)) (fun i _ => 8 - (intOf i).toNat)
  case atStart => exact ⟨0, Nat.zero_le _, rfl, HP, (Below.refl _ _).alloc (Nat.le_refl _) _⟩
  case round =>
    obtain ⟨k, hk, rfl, hp, hb⟩ := hrel
    by_cases hlt : k < 8
    · have hck := unhide HC k hlt
      have hck' : wr.cell? ⟨b, off + k, none⟩ = some (.int .i64 (zs.getD k 0)) := ((unhide hb).cell (p := ⟨b, off + k, none⟩) hbl).trans hck
      obtain ⟨q, hq⟩ : ∃ q, q = zs.getD k 0 := ⟨_, rfl⟩
      rw [← hq] at hck'
      have HQ := hide hq
      have hfr := (unhide hp).frozen (2 + k)
      have hold := (unhide hp).owed_cell k hlt
      clear hck hq
      go_wp2
      go_region
      all_goals go_wp2
      go_roundw
      case rel =>
        refine ⟨k + 1, by omega, by go_num, ?_, ?_⟩
        · rw [← fillZ_set' zs 8 k hlt, ← unhide HQ]
          exact ((unhide hp).set_owed k hlt q).other rfl
        · exact ((unhide hb).setCell (p := ⟨w.heap.size, 2 + k, none⟩) (Nat.le_refl _) _).drew
      case measure => simp [intOf]; omega
    · go_wp2
      go_ret
      have hk8 : k = 8 := by omega
      subst hk8
      have := unhide hp
      rw [fillZ_all _ _ (unhide HL)] at this
      exact ⟨rfl, this, unhide hb⟩

set_option maxHeartbeats 1000000 in
theorem paidList_any (P : Nat) (hand : Int) (held : Value) (owed paid : List Int) (w : World) (h : Purse w P hand held owed paid) :
    Calls Try.prog 41 #[.pointer (some ⟨P, 0, none⟩)] w fun e w' => e = .returned (.slice (some ⟨w.heap.size, 0, none⟩) 8 8) ∧ Ints w' (some ⟨w.heap.size, 0, none⟩) 8 paid ∧ Below w.heap.size w w' ∧ w.heap.size < w'.heap.size := by
  obtain ⟨i0, hi, hz0, hz1, hz2⟩ := info_parts infoInt
  have hPlt := h.lt
  have HP := hide h
  clear h
  go_enter Try.func41, Try.ntmps41
  go_wp2_with (at_make; refine wpList_make_full _ rfl _ _ 22 rfl w.heap.size 3 i0 (.int .i64 0) 1 Try.underlying22 hi hz0 hz1 .i64 .i64 _ _ 8 rfl rfl rfl rfl (by rw [hz2]; omega) (by unfold maxLen; omega) (Nat.le_refl _) ?_; intro w1 hown hgrow)
  have hw1 : w1.ownsRow w.heap.size 3 1 (.slice (some ⟨w.heap.size, 0, none⟩) 8 8) 8 ((fillZ paid 8 0).map (Value.int .i64)) := by
    rw [fillZ_zero]
    simpa [toList_madeCells_one, Value.cells] using hown
  have hb1 : Below w.heap.size w w1 := (Below.refl _ _).grown hgrow (Nat.le_refl _) (by simp)
  clear hown hgrow
  go_loopw [4] (fun i wr => ∃ k : Nat, k ≤ 8 ∧ i = .int .i64 k ∧ Hid (wr.ownsRow w.heap.size 3 1 (.slice (some ⟨w.heap.size, 0, none⟩) 8 8) 8 ((fillZ paid 8 k).map (Value.int .i64))) ∧ Hid (Below w.heap.size w wr))
    (fun i _ => 8 - (intOf i).toNat)
  case atStart => exact ⟨0, Nat.zero_le _, rfl, hw1, hb1⟩
  case round =>
    obtain ⟨k, hk, rfl, hown, hbel⟩ := hrel
    by_cases hlt : k < 8
    · have hck' : wr.cell? ⟨P, 10 + k, none⟩ = some (.int .i64 (paid.getD k 0)) := ((unhide hbel).cell (p := ⟨P, 10 + k, none⟩) hPlt).trans ((unhide HP).paid_cell k hlt)
      obtain ⟨q, hq⟩ : ∃ q, q = paid.getD k 0 := ⟨_, rfl⟩
      rw [← hq] at hck'
      have HQ := hide hq
      clear hq
      have hfr := (unhide hown).frozenAt k
      have hold : ∃ u, wr.cell? ⟨w.heap.size, k, none⟩ = some u := by
        rw [(unhide hown).cellAt k (by omega)]
        exact ⟨_, List.getElem?_eq_getElem (by simp [fillZ]; omega)⟩
      obtain ⟨u, hold⟩ := hold
      clear hw1 hb1 hi hz0 hz1 hz2
      go_wp2
      go_roundw
      case rel =>
        refine ⟨k + 1, by omega, by go_num, ?_, ?_⟩
        · have := ((unhide hown).stored k (.int .i64 q)).1
          rw [unhide HQ, fillZ_set _ _ _ hlt] at this
          rw [unhide HQ]
          exact this
        · exact (unhide hbel).setCell (Nat.le_refl _) _
      case measure => simp [intOf]; omega
    · have hk' : k = 8 := by omega
      subst hk'
      go_wp2
      go_ret
      have hown := unhide hown
      rw [fillZ_all _ _ (unhide HP).lp] at hown
      refine ⟨rfl, ints_of_own hown, unhide hbel, ?_⟩
      rcases hown.2 with ⟨h', _⟩ | ⟨g', cap', cur, h', _, hg, _⟩
      · simp at h'
      · simp only [Value.slice.injEq, Option.some.injEq, Addr.mk.injEq, and_true, true_and] at h'
        obtain ⟨rfl, rfl⟩ := h'
        exact cell_lt hg
end Go.Proofs.Ytbpolcnjojlkjab

/- split's purse: least, payAtMost, pay, hold, takeBack. -/
namespace Go.Proofs.Ytbpolcnjojlkjab
open Go.ChangeShapes Go.WideShapes Go.ChangeAt Go.RowKit
open Split (Pu lea paySum payM Keeps holdM backM)
set_option linter.unusedVariables false
set_option linter.unusedSimpArgs false

/-- The purse in block P, what it holds with it. -/
def PA (w : World) (P : Nat) (p : Pu) : Prop := ∃ vh, Purse w P p.hand vh p.owed p.paid ∧ w.ownsRow (P + 1) 3 1 vh p.held.length (p.held.map (Value.int .i64))

theorem Purse.grown {w w' : World} {P : Nat} {hand : Int} {held : Value} {owed paid : List Int} {r : Option Nat} (h : Purse w P hand held owed paid) (hg : w.grownBy w' r) (hr : some P ≠ r) : Purse w' P hand held owed paid :=
  h.other (hg.block P h.lt hr)

theorem least_any (a b : Int) (w : World) : Calls Try.prog 70 #[.int .i64 a, .int .i64 b] w fun e w' => e = .returned (.int .i64 (lea a b)) ∧ w' = w := by
  by_cases h : a < b
  · have e : lea a b = a := by simp [lea, h]
    rw [e]; clear e
    go_enter Try.func70, Try.ntmps70
    go_wp2
    go_ret
    exact ⟨rfl, rfl⟩
  · have e : lea a b = b := by simp [lea, h]
    rw [e]; clear e
    go_enter Try.func70, Try.ntmps70
    go_wp2
    go_ret
    exact ⟨rfl, rfl⟩

set_option maxHeartbeats 4000000 in
theorem payAtMost_any (P : Nat) (p : Pu) (M : Int) (o0 : List Int) (i : Nat) (most : Int) (w : World) (h : PA w P p) (hg : Keeps M o0 p) (hi : i < 8) (hm : 0 ≤ most) (hm' : most ≤ 2000000000) :
    Calls Try.prog 56 #[.pointer (some ⟨P, 0, none⟩), .int .i64 i, .int .i64 most] w fun e w' => e = .returned (.tuple #[]) ∧ PA w' P (payM p i most) ∧ w.grownBy w' (some P) := by
  obtain ⟨vh, hP, hH⟩ := h
  have hs := Split.paySum_bd hg i most hm
  have b1 := hg.paid_le i
  have b2 := hg.owed_le i
  have b3 := hg.h0
  have b4 := hg.ow i
  have b5 := hg.pa i
  obtain ⟨s, hse⟩ : ∃ s, paySum p i most = s := ⟨_, rfl⟩
  have hse' : lea (lea p.hand most) (p.owed.getD i 0) = s := hse
  have hpay : payM p i most = ⟨p.hand - s, p.held, p.owed.set i (p.owed.getD i 0 - s), p.paid.set i (p.paid.getD i 0 + s)⟩ := by
    unfold payM; rw [hse]
  rw [hse] at hs
  rw [hpay]
  obtain ⟨hd, hld, ow, pd⟩ := p
  dsimp only at *
  obtain ⟨x, hx⟩ : ∃ x, ow.getD i 0 = x := ⟨_, rfl⟩
  obtain ⟨y, hy⟩ : ∃ y, pd.getD i 0 = y := ⟨_, rfl⟩
  have ch := hP.hand_cell
  have co := hP.owed_cell i hi
  have cp := hP.paid_cell i hi
  have fh := hP.frozen 0
  have fo := hP.frozen (2 + i)
  have fp := hP.frozen (10 + i)
  have hsum : 0 ≤ hld.sum := b1.2
  have b1' := b1.1
  rw [hx] at co b2 b4 hs hse' ⊢
  rw [hy] at cp b5 b1' ⊢
  have HP := hide hP
  have HH := hide hH
  have HS := hide hse'
  clear hP hH hse hse' hpay hg hx hy b1
  go_enter Try.func56, Try.ntmps56
  go_wp2_with fail
  refine (least_any hd most _).mono ?_
  rintro e w1 ⟨rfl, hw⟩
  have hw := hw.symm
  subst hw
  generalize hl1 : lea hd most = l1 at *
  clear hl1
  go_wp2_with fail
  refine (least_any l1 x _).mono ?_
  rintro e w1 ⟨rfl, hw⟩
  have hw := hw.symm
  subst hw
  rw [unhide HS]
  go_wp2_with fail
  go_region
  go_wp2_with fail
  go_region
  go_end0
  refine ⟨rfl, ⟨vh, ?_, ?_⟩, ?_⟩
  · exact ((((unhide HP).set_hand (hd - s)).set_owed i hi (x - s)).set_paid i hi (y + s)).other rfl
  · exact (unhide HH).kept (grown_drewN (grown_set (grown_set (grown_set (grown_refl _ _) 0 _) (2 + i) _) (10 + i) _) 2) (own_ne (unhide HH) (by omega))
  · exact grown_drewN (grown_set (grown_set (grown_set (grown_refl _ _) 0 _) (2 + i) _) (10 + i) _) 2

theorem pay_any (P : Nat) (p : Pu) (M : Int) (o0 : List Int) (i : Nat) (w : World) (h : PA w P p) (hg : Keeps M o0 p) (hi : i < 8) :
    Calls Try.prog 55 #[.pointer (some ⟨P, 0, none⟩), .int .i64 i] w fun e w' => e = .returned (.tuple #[]) ∧ PA w' P (payM p i 1000000000) ∧ w.grownBy w' (some P) := by
  go_enter Try.func55, Try.ntmps55
  go_wp2_with fail
  refine (payAtMost_any P p M o0 i 1000000000 _ h hg hi (by omega) (by omega)).mono ?_
  rintro e w1 ⟨rfl, h1, g1⟩
  have H1 := hide h1
  have G1 := hide g1
  clear h1 g1 h hg
  go_wp2_with fail
  go_end0
  exact ⟨rfl, unhide H1, unhide G1⟩
end Go.Proofs.Ytbpolcnjojlkjab

/- split's purse: hold, takeBack. -/
namespace Go.Proofs.Ytbpolcnjojlkjab
open Go.ChangeShapes Go.WideShapes Go.ChangeAt Go.RowKit
open Split (Pu lea paySum payM Keeps holdM backM)
set_option linter.unusedVariables false
set_option linter.unusedSimpArgs false

theorem Purse.via {w W w2 : World} {P : Nat} {hand : Int} {held : Value} {owed paid : List Int} {r : Option Nat} (h : Purse w P hand held owed paid) (hg : W.grownBy w2 r) (hr : some P ≠ r) (e : W.heap[P]? = w.heap[P]?) : Purse w2 P hand held owed paid :=
  Purse.grown (w := W) (h.other e) hg hr

theorem wrap_big {x : Int} (h0 : -1000000000000000000 ≤ x) (h1 : x ≤ 1000000000000000000) : IntKind.i64.wrap x = x := by
  rw [IntWalk.i64_left]
  exact IntWalk.wrap64_in x (by omega)

set_option maxHeartbeats 4000000 in
theorem hold_any (P : Nat) (p : Pu) (M : Int) (o0 : List Int) (n : Int) (w : World) (h : PA w P p) (hk : Keeps M o0 p) (hn : 0 ≤ n) (hn' : n ≤ 100) (hl : p.held.length ≤ 1000) :
    Calls Try.prog 58 #[.pointer (some ⟨P, 0, none⟩), .int .i64 n] w fun e w' => e = .returned (.tuple #[]) ∧ PA w' P (holdM p n) ∧ Below P w w' := by
  obtain ⟨vh, hP, hH⟩ := h
  have hpb := Split.part_bd p.hand n hk.h0 hn hn'
  have b1 := hk.paid_le 0
  have b2 := hk.pa 0
  have b3 := hk.h0
  have hm1 : 0 ≤ p.hand * n := Int.mul_nonneg b3 hn
  have hm2 : p.hand * n ≤ p.hand * 100 := Int.mul_le_mul_of_nonneg_left hn' b3
  obtain ⟨i0, hi, hz0, hz1, hz2⟩ := info_parts infoInt
  obtain ⟨ha, hcap, rfl, hhc, _⟩ := own_slice hH
  have hm : holdM p n = ⟨p.hand * n / 100, p.held ++ [p.hand - p.hand * n / 100], p.owed, p.paid⟩ := rfl
  rw [hm]
  obtain ⟨hd, hld, ow, pd⟩ := p
  dsimp only at *
  obtain ⟨m, hme⟩ : ∃ m, hd * n = m := ⟨_, rfl⟩
  rw [hme] at hm1 hm2 hpb ⊢
  have hsum : 0 ≤ hld.sum := b1.2
  have b1' := b1.1
  have hbd : hd ≤ 1000000000 := by omega
  have hm3 : m ≤ 100000000000 := by omega
  have HME := hide hme
  have ch := hP.hand_cell
  have chd := hP.held_cell
  have fh := hP.frozen 0
  have fhd := hP.frozen 1
  have hPlt := hP.lt
  have HP := hide hP
  have HH := hide hH
  clear hP hH hm hk b1 b1' b2 hme
  go_enter Try.func58, Try.ntmps58
  go_wp2_with fail
  rw [show wrap64 (hd * n) = m from by rw [unhide HME]; exact IntWalk.wrap64_in m (by omega), show wrap64 (m.tdiv 100) = m / 100 from by rw [Int.tdiv_eq_ediv_of_nonneg hm1]; exact IntWalk.wrap64_in _ (by omega)]
  obtain ⟨q, hq⟩ : ∃ q, m / 100 = q := ⟨_, rfl⟩
  rw [hq] at hpb ⊢
  have HQ := hide hq
  have hwr : IntKind.i64.wrap (hd - q) = hd - q := wrap_big (by omega) (by omega)
  clear hq
  go_region_law (refine step_append_own rfl (.tmp 16) (.tmp 23) 22 rfl (P + 1) 3 i0 (.int .i64 0) 1 8 Try.underlying22 hi hz0 hz1 hz2 rfl (by decide) (.slice ha hld.length hcap) hld.length (hld.map (Value.int .i64)) (by simp [Act.eval, Act.put]) (by exact World.ownsRow.alloc (World.ownsRow.drew (unhide HH)) _) ⟨w.heap.size, 0, none⟩ 1 1 [.int .i64 (hd - q)] (by simp [Act.eval, Act.put]) rfl (by intro j u hj; match j, hj with | 0, hj => simp at hj; subst hj; simp [Addr.add]) (by intro u hu; simp at hu; subst hu; rfl) (by unfold maxLen; omega) (by omega) (by simp; omega) ?_; intro v' w2 hown hgrow; have hP2 := Purse.via (unhide HP) hgrow (own_base (unhide HH) (Nat.lt_succ_self _)) (by exact Go.heap_alloc_old _ _ hPlt); have fh' := hP2.frozen 0; have ch' := hP2.hand_cell; have fhd' := hP2.frozen 1; have chd' := hP2.held_cell; obtain ⟨a2, cap2, rfl, hle2, _⟩ := own_slice hown)
  all_goals
    have HP2 := hide hP2
    have HOWN := hide hown
    have HB := hide (((Below.refl P w).alloc (by omega) _).trans (below_of_grown (B := P) (grown_undrew hgrow) (by simp; omega) (fun k hk => by have := (unhide HH).lt k hk; omega)))
    clear hP2 hown hgrow hi hz0 hz1 hz2
    go_wp2_with fail
    go_end0
    rw [unhide HQ]
    refine ⟨rfl, ⟨_, ((unhide HP2).set_held _).set_hand q, ?_⟩, ?_⟩
    · refine World.ownsRow.kept ?_ (grown_set (grown_set (grown_refl _ _) 1 _) 0 _) (own_ne (unhide HOWN) (by omega))
      simpa using unhide HOWN
    · exact ((unhide HB).setCell (p := ⟨P, 1, none⟩) (Nat.le_refl _) _).setCell (p := ⟨P, 0, none⟩) (Nat.le_refl _) _

set_option maxHeartbeats 4000000 in
theorem takeBack_any (P : Nat) (p : Pu) (M : Int) (o0 : List Int) (w : World) (h : PA w P p) (hk : Keeps M o0 p) (hl : p.held.length ≤ 1000) :
    Calls Try.prog 59 #[.pointer (some ⟨P, 0, none⟩)] w fun e w' => e = .returned (.tuple #[]) ∧ PA w' P (backM p) ∧ Below P w w' := by
  obtain ⟨vh, hP, hH⟩ := h
  have hPlt := hP.lt
  obtain ⟨ha, hcap, rfl, hhc, hha⟩ := own_slice hH
  unfold backM
  obtain ⟨hd, hld, ow, pd⟩ := p
  dsimp only at *
  cases hlast : hld.getLast? with
  | none =>
    have e0 : hld = [] := List.getLast?_eq_none_iff.1 hlast
    subst e0
    have chd := hP.held_cell
    have HP := hide hP
    have HH := hide hH
    clear hP hH hk hha hlast
    dsimp only
    go_enter Try.func59, Try.ntmps59
    go_wp2_with fail
    refine bodyPost_ret (v := .tuple #[]) (by simp [results, Try.results59, go_sem]) rfl ?_
    exact ⟨rfl, ⟨_, unhide HP, unhide HH⟩, Below.refl _ _⟩
  | some x =>
    have hmem : x ∈ hld := List.mem_of_getLast? hlast
    have hne : hld ≠ [] := fun e => by rw [e] at hmem; simp at hmem
    obtain ⟨l, rfl⟩ : ∃ l, hld = l ++ [x] := by
      have := List.dropLast_concat_getLast hne
      rw [List.getLast?_eq_some_getLast hne] at hlast
      simp at hlast
      rw [hlast] at this
      exact ⟨_, this.symm⟩
    obtain ⟨g, rfl⟩ := hha (by simp)
    dsimp only
    rw [List.dropLast_concat]
    have hx0 := hk.hh x hmem
    have b1 := hk.paid_le 0
    have b2 := hk.pa 0
    have b3 := hk.h0
    have hxs : x ≤ (l ++ [x]).sum := Split.mem_le_sum _ hk.hh x hmem
    dsimp only at hx0 b1 b2 b3
    have hbd : hd + x ≤ 1000000000 := by omega
    have hlen : (l ++ [x]).length = l.length + 1 := by simp
    have hmap : (l ++ [x]).map (Value.int .i64) = l.map (Value.int .i64) ++ [.int .i64 x] := by simp
    rw [hlen] at hH hP hhc hl
    rw [hmap] at hH
    have hg := (hH.lt g rfl).1
    have chd := hP.held_cell
    have ch := hP.hand_cell
    have fh := hP.frozen 0
    have fhd := hP.frozen 1
    have cx : w.cell? ⟨g, l.length, none⟩ = some (.int .i64 x) := by
      rw [hH.cellAt _ (by omega), List.getElem?_append_right (by simp)]
      simp
    have hH2 := ownsRow_pop (by simp) hH
    have HP := hide hP
    have HH := hide hH2
    clear hP hH hH2 hk b1 b2 hxs hlen hmap hne hmem hlast hha
    go_enter Try.func59, Try.ntmps59
    go_wp2_with fail
    go_region
    all_goals
      go_wp2_with fail
      go_end0
      refine ⟨rfl, ⟨_, (((unhide HP).set_hand (hd + x)).set_held _).other rfl, ?_⟩, ?_⟩
      · exact World.ownsRow.kept (unhide HH) (grown_drewN (grown_set (grown_set (grown_refl _ _) 0 _) 1 _) 1) (own_ne (unhide HH) (by omega))
      · exact (((Below.refl _ _).setCell (p := ⟨P, 0, none⟩) (Nat.le_refl _) _).setCell (p := ⟨P, 1, none⟩) (Nat.le_refl _) _).drew
end Go.Proofs.Ytbpolcnjojlkjab
