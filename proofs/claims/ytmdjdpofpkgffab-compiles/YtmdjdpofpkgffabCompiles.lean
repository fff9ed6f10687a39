/- Compiles: the walk. -/
import Derived.Test.YtmdjdpofpkgffabRefRuns
import Derived.Test.YtmdjdpofpkgffabCompiler
namespace Go.Proofs.Ytmdjdpofpkgffab
open Go.ChangeShapes Go.WideShapes Go.ChangeAt Go.RowKit
open Split (St SOk heldM)
set_option linter.unusedVariables false
set_option linter.unusedSimpArgs false

/-- The code of a policy is admitted. -/
theorem cm_adm {t : ByteArray} (h : checkE t = 0) : ∃ n, Adm (cmT t) n ∧ codeM (cmT t) n = (rsE t).ss := by
  obtain ⟨q1, q2, q3, q4⟩ := policy_enc t h
  have e : cmT t = encT (rsE t).ss := by unfold cmT; rw [if_pos h]
  rw [e]
  obtain ⟨r1, r2, r3, r4⟩ := round_load q1 q2 q3 q4
  have hz := enc_size (rsE t).ss
  refine ⟨(rsE t).ss.length, ⟨hz, q4, fun i hi => ?_, by rw [r2]; exact q3⟩, r2⟩
  obtain ⟨p1, p2, p3, p4⟩ := enc_parts q1 i hi
  unfold decOk
  rw [p1, p2, p3]
  simp only [Bool.and_eq_true, decide_eq_true_eq]
  refine ⟨by omega, (q1 _ (List.getElem_mem hi)).ok _ fun hk => ?_⟩
  have := q2 i _ (List.getElem?_eq_getElem hi) hk
  obtain ⟨l, _, hle⟩ := (q1 _ (List.getElem_mem hi)).sok.l
  omega

set_option maxRecDepth 100000 in
set_option maxHeartbeats 4000000 in
theorem compiles_walk (t : ByteArray) (a : Option Addr) (len cap : Nat) (zs : List Int) (m : Int) (w : World) (ht : t.size ≤ 140737488351232) (h : Ints w a len zs) (hwf : ∀ n ∈ zs, (Lit.int .i64 n).wf = true) (hr : len * 8 ≤ 140737488351232) (hm : (Lit.int .i64 m).wf = true) :
    Calls Try.prog 3 #[.string t, .slice a len cap, .int .i64 m] w fun e w' => e = .returned (.bool true) ∧ Below w.heap.size w w' := by
  have HI := hide h
  have HCM := hide (compile_any t w (by omega))
  have HRC := hide (fun w' => rcheck_any t w' (by omega))
  clear h hwf hm
  by_cases hc : checkE t = 0
  · obtain ⟨n, hA, hco⟩ := cm_adm hc
    have hver := fun w' => rverify_adm (cmT t) n w' hA
    have hrun := fun a len cap w => rrun_adm (cmT t) n hA zs m a len cap w
    rw [hco] at hrun
    have hsh := rshare_any t zs m (by omega)
    have hsE : shE t zs m = givenE zs m := by simp [shE, hc]
    have hsP : shP t zs m = stP zs m := by simp [shP, hc, stP]
    have hsL : shL t zs m = stL (rsE t).ss zs m := by simp only [shL, hsE, stL]; rfl
    have hsR : shR t zs m = stR (rsE t).ss zs m := by simp only [shR, hsE, stR]; rfl
    rw [hsE, hsP, hsL, hsR] at hsh
    have hlen : (stL (rsE t).ss zs m).length ≤ 8 := by
      rw [← hsL]
      by_cases hg : givenE zs m = 0
      · have := (shr_keeps hc hg).1.lp
        simp [shL, hsE, hg, this]
      · simp [shL, hsE, hg]
    rw [hc, check_p hc] at HCM HRC
    generalize cmT t = T at *
    generalize stL (rsE t).ss zs m = L at *
    generalize stR (rsE t).ss zs m = R at *
    generalize stP zs m = P at *
    generalize givenE zs m = g at *
    have HVER := hide hver
    have HRUN := hide hrun
    have HSH := hide hsh
    have HL := hide hlen
    clear hver hrun hsh hlen hA hco hsE hsP hsL hsR hc
    have g1 : (R == R) = true := by simp
    have g2 : (g == g) = true := by simp
    have g3 : (P == P) = true := by simp
    go_enter Try.func3, Try.ntmps3
    go_wp2_with fail
    refine (unhide HCM).mono ?_
    rintro e w1 ⟨rfl, hb1⟩
    have B1 := hide hb1
    clear hb1 HCM
    go_wp2_with fail
    refine (unhide HRC _).mono ?_
    rintro e w2 ⟨rfl, n2, hw2⟩
    have B2 : Hid (Below w.heap.size w w2) := by
      show Below w.heap.size w w2
      rw [hw2]; exact below_drewN (unhide B1) _
    clear hw2 B1 HRC
    go_wp2_with (go_at_call 13; refine (num_any _ _).mono ?_; rintro e w3 ⟨rfl, rfl⟩)
    refine (unhide HVER _).mono ?_
    rintro e w4 ⟨rfl, hb4⟩
    have B4 := hide (below_step (unhide B2) hb4)
    clear hb4 B2 HVER
    go_wp2_with fail
    refine (unhide HRUN _ _ _ _ ((unhide HI).below (unhide B4)) hr).mono ?_
    rintro e w5 ⟨a5, n5, c5, rfl, hi5, hb5⟩
    have I5 := hide hi5
    have B5 := hide (below_step (unhide B4) hb5)
    clear hi5 hb5 B4 HRUN
    go_wp2_with fail
    refine (unhide HSH _ _ _ _ ((unhide HI).below (unhide B5)) hr).mono ?_
    rintro e w6 ⟨a6, n6, c6, rfl, hi6, _, hb6⟩
    have hn6 : n6 = n5 := by rw [← hi6.1, ← (unhide I5).1]
    subst hn6
    have I6 := hide hi6
    have J6 := hide ((unhide I5).below hb6)
    have B6 := hide (below_step (unhide B5) hb6)
    have hn8 : n6 ≤ 8 := by rw [← hi6.1]; exact unhide HL
    clear hi6 hb6 I5 B5 HSH
    go_wp2_with fail
    refine (same_any _ _ _ L _ _ _ L _ (unhide J6) (unhide I6) (by omega)).mono ?_
    rintro e w7 ⟨rfl, n7, hw7⟩
    rw [show decide (L = L) = true from decide_eq_true rfl]
    have B7 : Hid (Below w.heap.size w w7) := by
      show Below w.heap.size w w7
      rw [hw7]; exact below_drewN (unhide B6) _
    clear hw7 I6 J6 B6
    go_wp2_with fail
    go_ret
    exact ⟨rfl, unhide B7⟩
  · have hcb : (checkE t != 0) = true := by simpa using hc
    have e1 : cmT t = ⟨#[]⟩ := by unfold cmT; rw [if_neg hc]
    rw [e1] at HCM
    obtain ⟨c, hce⟩ : ∃ c, checkE t = c := ⟨_, rfl⟩
    obtain ⟨p, hpe⟩ : ∃ p, checkP t = p := ⟨_, rfl⟩
    rw [hce, hpe] at HCM HRC
    rw [hce] at hcb
    have hcc : (c != c) = false := by simp
    have hpp : (p != p) = false := by simp
    clear hc e1 hce hpe
    go_enter Try.func3, Try.ntmps3
    go_wp2_with fail
    refine (unhide HCM).mono ?_
    rintro e w1 ⟨rfl, hb1⟩
    have B1 := hide hb1
    clear hb1 HCM
    go_wp2_with fail
    refine (unhide HRC _).mono ?_
    rintro e w2 ⟨rfl, n2, hw2⟩
    have B2 : Hid (Below w.heap.size w w2) := by
      show Below w.heap.size w w2
      rw [hw2]; exact below_drewN (unhide B1) _
    clear hw2 B1 HRC
    go_wp2_with (go_at_call 13; refine (num_any _ _).mono ?_; rintro e w3 ⟨rfl, rfl⟩)
    go_ret
    exact ⟨rfl, unhide B2⟩
end Go.Proofs.Ytmdjdpofpkgffab
