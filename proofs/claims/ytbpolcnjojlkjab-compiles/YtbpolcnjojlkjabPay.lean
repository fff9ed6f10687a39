/- split's purse: least, payAtMost, pay, hold, takeBack. -/
import Derived.Test.YtbpolcnjojlkjabPurse
import Derived.Test.YtbpolcnjojlkjabPayM
import Derived.Test.YtbpolcnjojlkjabReader3
namespace Go.Proofs.Ytbpolcnjojlkjab
open Go.ChangeShapes Go.WideShapes Go.ChangeAt Go.RowKit
open Split (Pu lea paySum payM Keeps holdM backM)
set_option linter.unusedVariables false
set_option linter.unusedSimpArgs false

/-- The purse in block P, what it holds with it. -/
def PA (w : World) (P : Nat) (p : Pu) : Prop := ∃ vh, Purse w P p.hand vh p.owed p.paid ∧ w.ownsRow (P + 1) 3 1 vh p.held.length (p.held.map (Value.int .i64))

theorem Purse.grown {w w' : World} {P : Nat} {hand : Int} {held : Value} {owed paid : List Int} {r : Option Nat} (h : Purse w P hand held owed paid) (hg : w.grownBy w' r) (hr : some P ≠ r) : Purse w' P hand held owed paid :=
  h.other (hg.block P h.lt hr)

theorem least_any (a b : Int) (w : World) : Calls Try.prog 70 #[.int .i64 a, .int .i64 b] w fun e w' => e = .returned (.int .i64 (lea a b)) ∧ w' = w := by
  by_cases h : a < b
  · have e : lea a b = a := by simp [lea, h]
    rw [e]; clear e
    go_enter Try.func70, Try.ntmps70
    go_wp2
    go_ret
    exact ⟨rfl, rfl⟩
  · have e : lea a b = b := by simp [lea, h]
    rw [e]; clear e
    go_enter Try.func70, Try.ntmps70
    go_wp2
    go_ret
    exact ⟨rfl, rfl⟩

set_option maxHeartbeats 4000000 in
theorem payAtMost_any (P : Nat) (p : Pu) (M : Int) (o0 : List Int) (i : Nat) (most : Int) (w : World) (h : PA w P p) (hg : Keeps M o0 p) (hi : i < 8) (hm : 0 ≤ most) (hm' : most ≤ 2000000000) :
    Calls Try.prog 56 #[.pointer (some ⟨P, 0, none⟩), .int .i64 i, .int .i64 most] w fun e w' => e = .returned (.tuple #[]) ∧ PA w' P (payM p i most) ∧ w.grownBy w' (some P) := by
  obtain ⟨vh, hP, hH⟩ := h
  have hs := Split.paySum_bd hg i most hm
  have b1 := hg.paid_le i
  have b2 := hg.owed_le i
  have b3 := hg.h0
  have b4 := hg.ow i
  have b5 := hg.pa i
  obtain ⟨s, hse⟩ : ∃ s, paySum p i most = s := ⟨_, rfl⟩
  have hse' : lea (lea p.hand most) (p.owed.getD i 0) = s := hse
  have hpay : payM p i most = ⟨p.hand - s, p.held, p.owed.set i (p.owed.getD i 0 - s), p.paid.set i (p.paid.getD i 0 + s)⟩ := by
    unfold payM; rw [hse]
  rw [hse] at hs
  rw [hpay]
  obtain ⟨hd, hld, ow, pd⟩ := p
  dsimp only at *
  obtain ⟨x, hx⟩ : ∃ x, ow.getD i 0 = x := ⟨_, rfl⟩
  obtain ⟨y, hy⟩ : ∃ y, pd.getD i 0 = y := ⟨_, rfl⟩
  have ch := hP.hand_cell
  have co := hP.owed_cell i hi
  have cp := hP.paid_cell i hi
  have fh := hP.frozen 0
  have fo := hP.frozen (2 + i)
  have fp := hP.frozen (10 + i)
  have hsum : 0 ≤ hld.sum := b1.2
  have b1' := b1.1
  rw [hx] at co b2 b4 hs hse' ⊢
  rw [hy] at cp b5 b1' ⊢
  have HP := hide hP
  have HH := hide hH
  have HS := hide hse'
  clear hP hH hse hse' hpay hg hx hy b1
  go_enter Try.func56, Try.ntmps56
  go_wp2_with fail
  refine (least_any hd most _).mono ?_
  rintro e w1 ⟨rfl, hw⟩
  have hw := hw.symm
  subst hw
  generalize hl1 : lea hd most = l1 at *
  clear hl1
  go_wp2_with fail
  refine (least_any l1 x _).mono ?_
  rintro e w1 ⟨rfl, hw⟩
  have hw := hw.symm
  subst hw
  rw [unhide HS]
  go_wp2_with fail
  go_region
  go_wp2_with fail
  go_region
  go_end0
  refine ⟨rfl, ⟨vh, ?_, ?_⟩, ?_⟩
  · exact ((((unhide HP).set_hand (hd - s)).set_owed i hi (x - s)).set_paid i hi (y + s)).other rfl
  · exact (unhide HH).kept (grown_drewN (grown_set (grown_set (grown_set (grown_refl _ _) 0 _) (2 + i) _) (10 + i) _) 2) (own_ne (unhide HH) (by omega))
  · exact grown_drewN (grown_set (grown_set (grown_set (grown_refl _ _) 0 _) (2 + i) _) (10 + i) _) 2

theorem pay_any (P : Nat) (p : Pu) (M : Int) (o0 : List Int) (i : Nat) (w : World) (h : PA w P p) (hg : Keeps M o0 p) (hi : i < 8) :
    Calls Try.prog 55 #[.pointer (some ⟨P, 0, none⟩), .int .i64 i] w fun e w' => e = .returned (.tuple #[]) ∧ PA w' P (payM p i 1000000000) ∧ w.grownBy w' (some P) := by
  go_enter Try.func55, Try.ntmps55
  go_wp2_with fail
  refine (payAtMost_any P p M o0 i 1000000000 _ h hg hi (by omega) (by omega)).mono ?_
  rintro e w1 ⟨rfl, h1, g1⟩
  have H1 := hide h1
  have G1 := hide g1
  clear h1 g1 h hg
  go_wp2_with fail
  go_end0
  exact ⟨rfl, unhide H1, unhide G1⟩
end Go.Proofs.Ytbpolcnjojlkjab
