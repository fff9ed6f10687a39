/- Alike: the walk. -/
import Derived.Test.YtmdjdpofpkgffabCompiler
namespace Go.Proofs.Ytmdjdpofpkgffab
open Go.ChangeShapes Go.WideShapes Go.ChangeAt Go.RowKit
open Split (St SOk heldM)
set_option linter.unusedVariables false
set_option linter.unusedSimpArgs false

/-- The code of a policy, run, is the policy. -/
theorem cm_run {t : ByteArray} (h : checkE t = 0) : loadE (cmT t) = 0 ∧ loadP (cmT t) = 0 ∧ (cmT t).size ≤ 600 ∧ ∀ zs m, ruL (cmT t) zs m = shL t zs m ∧ ruR (cmT t) zs m = shR t zs m ∧ ruE (cmT t) zs m = shE t zs m ∧ ruP (cmT t) zs m = shP t zs m := by
  obtain ⟨q1, q2, q3, q4⟩ := policy_enc t h
  have e : cmT t = encT (rsE t).ss := by unfold cmT; rw [if_pos h]
  rw [e]
  obtain ⟨r1, r2, r3, r4⟩ := round_load q1 q2 q3 q4
  have hz := enc_size (rsE t).ss
  refine ⟨r3, r4, by omega, fun zs m => ?_⟩
  have e1 : shE t zs m = givenE zs m := by simp [shE, h]
  refine ⟨?_, ?_, ?_, ?_⟩
  · unfold ruL
    rw [if_pos r3, r1, r2]
    unfold shL
    rw [e1]
    rfl
  · unfold ruR
    rw [if_pos r3, r1, r2]
    unfold shR
    rw [e1]
    rfl
  · unfold ruE
    rw [if_pos r3, e1]
  · unfold ruP
    rw [if_pos r3]
    simp [shP, h, stP]

set_option maxRecDepth 100000 in
set_option maxHeartbeats 4000000 in
theorem alike_walk (t : ByteArray) (a : Option Addr) (len cap : Nat) (zs : List Int) (m : Int) (w : World) (ht : t.size ≤ 140737488351232) (h : Ints w a len zs) (hwf : ∀ n ∈ zs, (Lit.int .i64 n).wf = true) (hr : len * 8 ≤ 140737488351232) (hm : (Lit.int .i64 m).wf = true) :
    Calls Try.prog 4 #[.string t, .slice a len cap, .int .i64 m] w fun e w' => e = .returned (.bool true) ∧ Below w.heap.size w w' := by
  have HI := hide h
  have HCM := hide (compile_any t w (by omega))
  have HRC := hide (fun w' => rcheck_any t w' (by omega))
  clear h hwf hm
  by_cases hc : checkE t = 0
  · obtain ⟨k1, k2, k3, k4⟩ := cm_run hc
    obtain ⟨l1, l2, l3, l4⟩ := k4 zs m
    have hsE : shE t zs m = givenE zs m := by simp [shE, hc]
    have hver := fun w' => verify_any (cmT t) w' (by omega)
    have hrun := run_any (cmT t) zs m (by omega)
    have hsh := share_any t zs m (by omega)
    rw [k1, k2] at hver
    rw [l1, l2, l3, l4, hsE] at hrun
    rw [hsE] at hsh
    have hlen : (shL t zs m).length ≤ 8 := by
      by_cases hg : givenE zs m = 0
      · have := (shr_keeps hc hg).1.lp
        simp [shL, hsE, hg, this]
      · simp [shL, hsE, hg]
    rw [hc, check_p hc] at HCM HRC
    generalize cmT t = T at *
    generalize shL t zs m = L at *
    generalize shR t zs m = R at *
    generalize shP t zs m = P at *
    obtain ⟨g, hg⟩ : ∃ g, givenE zs m = g := ⟨_, rfl⟩
    rw [hg] at hrun hsh
    have HG := hide hg
    have HVER := hide hver
    have HRUN := hide hrun
    have HSH := hide hsh
    have HL := hide hlen
    clear k1 k2 k3 k4 l1 l2 l3 l4 hsE hver hrun hsh hlen hc hg
    have g1 : (R == R) = true := by simp
    have g2 : (g == g) = true := by simp
    have g3 : (P == P) = true := by simp
    go_enter Try.func4, Try.ntmps4
    go_wp2_with fail
    refine (unhide HCM).mono ?_
    rintro e w1 ⟨rfl, hb1⟩
    have B1 := hide hb1
    clear hb1 HCM
    go_wp2_with fail
    refine (unhide HRC _).mono ?_
    rintro e w2 ⟨rfl, n2, hw2⟩
    have B2 : Hid (Below w.heap.size w w2) := by
      show Below w.heap.size w w2
      rw [hw2]; exact below_drewN (unhide B1) _
    clear hw2 B1 HRC
    go_wp2_with fail
    refine (unhide HVER _).mono ?_
    rintro e w3 ⟨rfl, hb3⟩
    have B3 := hide (below_step (unhide B2) hb3)
    clear hb3 B2 HVER
    go_wp2_with fail
    refine (copied_any a len cap zs _ ((unhide HI).below (unhide B3)) hr).mono ?_
    rintro e w4 ⟨rfl, hi4, hb4, _⟩
    have I4 := hide hi4
    have B4 := hide (below_step (unhide B3) hb4)
    clear hi4 hb4 B3
    generalize w3.heap.size = gv at *
    go_wp2_with fail
    refine (unhide HRUN _ len len _ (unhide I4) hr).mono ?_
    rintro e w5 ⟨a5, n5, c5, rfl, hi5, _, hb5⟩
    have I5 := hide hi5
    have J5 := hide ((unhide I4).below hb5)
    have B5 := hide (below_step (unhide B4) hb5)
    clear hi5 hb5 I4 B4 HRUN
    go_wp2_with fail
    refine (unhide HSH _ len len _ (unhide J5) hr).mono ?_
    rintro e w6 ⟨a6, n6, c6, rfl, hi6, _, hb6⟩
    have hn6 : n6 = n5 := by rw [← hi6.1, ← (unhide I5).1]
    subst hn6
    have I6 := hide hi6
    have J6 := hide ((unhide I5).below hb6)
    have B6 := hide (below_step (unhide B5) hb6)
    have hn8 : n6 ≤ 8 := by rw [← hi6.1]; exact unhide HL
    clear hi6 hb6 I5 J5 B5 HSH
    go_wp2_with fail
    refine (same_any _ _ _ L _ _ _ L _ (unhide J6) (unhide I6) (by omega)).mono ?_
    rintro e w7 ⟨rfl, n7, hw7⟩
    rw [show decide (L = L) = true from decide_eq_true rfl]
    have B7 : Hid (Below w.heap.size w w7) := by
      show Below w.heap.size w w7
      rw [hw7]; exact below_drewN (unhide B6) _
    clear hw7 I6 J6 B6
    go_wp2_with fail
    refine (given_any _ _ _ zs m _ ((unhide HI).below (unhide B7)) hr).mono ?_
    rintro e w8 ⟨rfl, hw8⟩
    have hw8 := hw8.symm
    subst hw8
    rw [unhide HG]
    generalize givenP zs m = gp
    go_wp2_with (go_at_call 13; refine (num_any _ _).mono ?_; rintro e w9 ⟨rfl, rfl⟩)
    go_ret
    exact ⟨rfl, unhide B7⟩
  · have hcb : (checkE t != 0) = true := by simpa using hc
    have e1 : cmT t = ⟨#[]⟩ := by unfold cmT; rw [if_neg hc]
    rw [e1] at HCM
    obtain ⟨c, hce⟩ : ∃ c, checkE t = c := ⟨_, rfl⟩
    obtain ⟨p, hpe⟩ : ∃ p, checkP t = p := ⟨_, rfl⟩
    rw [hce, hpe] at HCM HRC
    rw [hce] at hcb
    have hcc : (c == c) = true := by simp
    clear hc e1 hce hpe
    go_enter Try.func4, Try.ntmps4
    go_wp2_with fail
    refine (unhide HCM).mono ?_
    rintro e w1 ⟨rfl, hb1⟩
    have B1 := hide hb1
    clear hb1 HCM
    go_wp2_with fail
    refine (unhide HRC _).mono ?_
    rintro e w2 ⟨rfl, n2, hw2⟩
    have B2 : Hid (Below w.heap.size w w2) := by
      show Below w.heap.size w w2
      rw [hw2]; exact below_drewN (unhide B1) _
    clear hw2 B1 HRC
    go_wp2_with (go_at_call 13; refine (num_any _ _).mono ?_; rintro e w3 ⟨rfl, rfl⟩)
    go_ret
    exact ⟨rfl, unhide B2⟩
end Go.Proofs.Ytmdjdpofpkgffab
