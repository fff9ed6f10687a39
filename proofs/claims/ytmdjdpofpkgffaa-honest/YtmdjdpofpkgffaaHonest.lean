/- Honest: the walk. -/
import Derived.Test.YtmdjdpofpkgffaaLoadRun
import Derived.Test.YtmdjdpofpkgffaaConserves
namespace Go.Proofs.Ytmdjdpofpkgffaa
open Go.ChangeShapes Go.WideShapes Go.ChangeAt Go.RowKit
open Split (St SOk Pu Keeps execM heldM InCode)
set_option linter.unusedVariables false
set_option linter.unusedSimpArgs false

/-- Code that is admitted makes and loses nothing. -/
theorem code_keeps {c : ByteArray} {zs : List Int} {m : Int} (hl : loadE c = 0) (hg : givenE zs m = 0) : ∃ q : Pu, ruL c zs m = q.paid ∧ ruR c zs m = q.hand ∧ ruE c zs m = 0 ∧ Keeps m zs q ∧ q.held = [] := by
  obtain ⟨h1, h2, h3, h4⟩ := load_ok hl
  refine ⟨execM (codeM c (cntM c)) (codeM c (cntM c)).length 0 (pu0 zs m), ?_, ?_, ?_, exec_keeps h1 _ _ _ (keeps0 hg), Split.held_none h2 h3 _ rfl⟩
  · simp [ruL, hl, stL, hg]
  · simp [ruR, hl, stR, hg]
  · simp [ruE, hl, hg]

theorem code_bad {c : ByteArray} {zs : List Int} {m : Int} (h : ¬ (loadE c = 0 ∧ givenE zs m = 0)) : ruL c zs m = [] ∧ ruR c zs m = 0 ∧ ruE c zs m ≠ 0 := by
  by_cases hl : loadE c = 0
  · have hg : givenE zs m ≠ 0 := fun hg => h ⟨hl, hg⟩
    refine ⟨by simp [ruL, hl, stL, hg], by simp [ruR, hl, stR, hg], by simpa [ruE, hl] using hg⟩
  · exact ⟨by simp [ruL, hl], by simp [ruR, hl], by simp [ruE, hl]⟩

set_option maxRecDepth 100000 in
set_option maxHeartbeats 4000000 in
theorem honest_walk (c : ByteArray) (a : Option Addr) (len cap : Nat) (zs : List Int) (m : Int) (w : World) (ht : c.size ≤ 140737488351232) (h : Ints w a len zs) (hwf : ∀ n ∈ zs, (Lit.int .i64 n).wf = true) (hr : len * 8 ≤ 140737488351232) (hm : (Lit.int .i64 m).wf = true) :
    Calls Try.prog 14 #[.string c, .slice a len cap, .int .i64 m] w fun e w' => e = .returned (.bool true) ∧ Below w.heap.size w w' := by
  have HI := hide h
  clear h hwf hm
  by_cases hfit : loadE c = 0 ∧ givenE zs m = 0
  · obtain ⟨hl, hg⟩ := hfit
    obtain ⟨q, q1, q2, q3, hk, hh⟩ := code_keeps hl hg
    have hrun := run_any c zs m (by omega)
    rw [q1, q2, q3] at hrun
    generalize ruP c zs m = pp at hrun
    have HRUN := hide hrun
    have hver := fun w' => verify_any c w' (by omega)
    rw [hl] at hver
    generalize loadP c = lp at hver
    have HVER := hide hver
    obtain ⟨hz8, _, _, hm9⟩ := given_ok hg
    have h8 : len = 8 := by rw [← (unhide HI).1, hz8]
    subst h8
    have HK := hide (And.intro hk hh)
    have HG := hide hg
    have hlp := hk.lp
    clear hk hh hl hg q1 q2 q3 hz8 hrun hver
    go_enter Try.func14, Try.ntmps14
    go_wp2_with fail
    refine (copied_any a 8 cap zs _ (unhide HI) hr).mono ?_
    rintro e w1 ⟨rfl, hi1, hb1, _⟩
    have I1 := hide hi1
    have B1 := hide hb1
    clear hi1 hb1
    go_wp2_with fail
    refine (unhide HRUN _ 8 8 _ (unhide I1) hr).mono ?_
    rintro e w2 ⟨a2, n2, c2, rfl, hi2, hf2, hb2⟩
    have hn8 : n2 = 8 := by rw [← hi2.1]; exact hlp
    subst hn8
    have I2 := hide hi2
    have B2 := hide (below_step (unhide B1) hb2)
    clear hi2 hb2 hf2 I1 B1 HRUN
    go_wp2_with fail
    refine (unhide HVER _).mono ?_
    rintro e w3 ⟨rfl, hb3⟩
    have I3 := hide ((unhide I2).below hb3)
    have B3 := hide (below_step (unhide B2) hb3)
    clear hb3 I2 B2 HVER
    go_wp2_with fail
    refine (given_any _ _ _ zs m _ ((unhide HI).below (unhide B3)) hr).mono ?_
    rintro e w4 ⟨rfl, hw4⟩
    have hw4 := hw4.symm
    subst hw4
    rw [unhide HG]
    generalize givenP zs m = gp
    obtain ⟨hd, hhd⟩ : ∃ x, q.hand = x := ⟨_, rfl⟩
    rw [hhd] at ⊢
    have HHD := hide hhd
    clear hhd
    go_wp2_with (go_at_call 17; refine (num_any _ _).mono ?_; rintro e w5 ⟨rfl, rfl⟩)
    have B5 : Hid (Below w5.heap.size w5 (w5.alloc (.cells #[.slice a2 8 c2, .int .i64 hd, .bool true] 38))) := (Below.refl _ _).alloc (Nat.le_refl _) _
    refine (whole_true a2 c2 q.paid hd a cap zs m _ ((unhide I3).below (unhide B5)) ((unhide HI).below (below_step (unhide B3) (unhide B5))) (unhide HK).1.pa ?_ ?_ ?_ hm9).mono ?_
    · intro i
      have h1 := (unhide HK).1.tot i
      have h2 := (unhide HK).1.ow i
      omega
    · have := (unhide HK).1.h0
      rw [unhide HHD] at this
      exact this
    · have h1 := (unhide HK).1.sum
      rw [(unhide HK).2, unhide HHD] at h1
      simpa using h1
    rintro e w6 ⟨rfl, hb6⟩
    have B6 := hide (below_step (below_step (unhide B3) (unhide B5)) hb6)
    clear hb6
    go_wp2_with fail
    go_ret
    exact ⟨rfl, unhide B6⟩
  · obtain ⟨u1, u2, u3⟩ := code_bad hfit
    have hrun := run_any c zs m (by omega)
    rw [u1, u2] at hrun
    generalize ruP c zs m = pp at hrun
    have hver := fun w' => verify_any c w' (by omega)
    generalize loadP c = lp at hver
    obtain ⟨re, hre⟩ : ∃ x, ruE c zs m = x := ⟨_, rfl⟩
    rw [hre] at hrun u3
    obtain ⟨le, hle⟩ : ∃ x, loadE c = x := ⟨_, rfl⟩
    obtain ⟨ge, hge⟩ : ∃ x, givenE zs m = x := ⟨_, rfl⟩
    rw [hle] at hver hfit
    rw [hge] at hfit
    have HRUN := hide hrun
    have HVER := hide hver
    have HGE := hide hge
    have HFIT := hide hfit
    have n1 : (re != 0) = true := by simpa using u3
    clear u1 u2 u3 hrun hver hre hle hge hfit
    go_enter Try.func14, Try.ntmps14
    go_wp2_with fail
    refine (copied_any a len cap zs _ (unhide HI) hr).mono ?_
    rintro e w1 ⟨rfl, hi1, hb1, _⟩
    have I1 := hide hi1
    have B1 := hide hb1
    clear hi1 hb1
    go_wp2_with fail
    refine (unhide HRUN _ len len _ (unhide I1) hr).mono ?_
    rintro e w2 ⟨a2, n2, c2, rfl, hi2, hf2, hb2⟩
    have hn0 : n2 = 0 := by rw [← hi2.1]; rfl
    subst hn0
    have B2 := hide (below_step (unhide B1) hb2)
    clear hi2 hb2 hf2 I1 B1 HRUN
    go_wp2_with fail
    refine (unhide HVER _).mono ?_
    rintro e w3 ⟨rfl, hb3⟩
    have B3 := hide (below_step (unhide B2) hb3)
    clear hb3 B2 HVER
    go_wp2_with fail
    refine (given_any _ _ _ zs m _ ((unhide HI).below (unhide B3)) hr).mono ?_
    rintro e w4 ⟨rfl, hw4⟩
    have hw4 := hw4.symm
    subst hw4
    rw [unhide HGE]
    generalize givenP zs m = gp
    by_cases hl0 : le = 0
    · have hg0 : ge ≠ 0 := fun hg => unhide HFIT ⟨hl0, hg⟩
      subst hl0
      have n2 : (ge != 0) = true := by simpa using hg0
      clear hg0 HFIT
      go_wp2_with (go_at_call 17; refine (num_any _ _).mono ?_; rintro e w5 ⟨rfl, rfl⟩)
      go_ret
      exact ⟨rfl, unhide B3⟩
    · have n2 : (le != 0) = true := by simpa using hl0
      clear hl0 HFIT
      go_wp2_with (go_at_call 17; refine (num_any _ _).mono ?_; rintro e w5 ⟨rfl, rfl⟩)
      go_ret
      exact ⟨rfl, unhide B3⟩
end Go.Proofs.Ytmdjdpofpkgffaa
