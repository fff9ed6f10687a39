/- RefShare, RefRun -/
import Derived.Test.YtbpolcnjojlkjabPack29
import Derived.Test.YtbpolcnjojlkjabPack30

/- splitref's Begin and Share. -/
namespace Go.Proofs.Ytbpolcnjojlkjab
open Go.ChangeShapes Go.WideShapes Go.ChangeAt Go.RowKit
open Split (Pu payM Keeps)
set_option linter.unusedVariables false
set_option linter.unusedSimpArgs false

theorem fillZ_none (zs : List Int) : fillZ zs 8 0 = List.replicate 8 0 := by
  simp [fillZ]
  decide

theorem begun (w : World) (m : Int) (L Q : Nat) (h : L = w.heap.size ∧ Q = w.heap.size + 1 ∨ L = w.heap.size + 1 ∧ Q = w.heap.size) :
    RSt (((w.alloc (.cells made8 3)).alloc (.cells made8 3)).alloc (.cells #[.int .i64 m, .slice (some ⟨L, 0, none⟩) 8 8, .slice (some ⟨Q, 0, none⟩) 8 8] 55)).drew (w.heap.size + 1 + 1) L Q ⟨m, [], List.replicate 8 0, List.replicate 8 0⟩ ∧
    Below w.heap.size w (((w.alloc (.cells made8 3)).alloc (.cells made8 3)).alloc (.cells #[.int .i64 m, .slice (some ⟨L, 0, none⟩) 8 8, .slice (some ⟨Q, 0, none⟩) 8 8] 55)).drew := by
  have hs1 : (w.alloc (.cells made8 3)).heap.size = w.heap.size + 1 := by simp
  have hs2 : ((w.alloc (.cells made8 3)).alloc (.cells made8 3)).heap.size = w.heap.size + 1 + 1 := by simp
  refine ⟨?_, ?_⟩
  · have g0 : ∀ o : Obj, (((w.alloc (.cells made8 3)).alloc (.cells made8 3)).alloc o).heap[w.heap.size]? = some (.cells made8 3 (0, 0)) := by
      intro o
      rw [Below.heap_alloc _ _ _ (by omega), Below.heap_alloc _ _ _ (by omega)]
      exact heap_alloc_new _ _
    have g1 : ∀ o : Obj, (((w.alloc (.cells made8 3)).alloc (.cells made8 3)).alloc o).heap[w.heap.size + 1]? = some (.cells made8 3 (0, 0)) := by
      intro o
      rw [Below.heap_alloc _ _ _ (by omega), ← hs1]
      exact heap_alloc_new _ _
    have g2 : ∀ o : Obj, (((w.alloc (.cells made8 3)).alloc (.cells made8 3)).alloc o).heap[w.heap.size + 1 + 1]? = some o := by
      intro o
      rw [← hs2]
      exact heap_alloc_new _ _
    have e8 := made8_eq
    refine ⟨by simp, by simp, by omega, by omega, by omega, g2 _, ?_, ?_⟩
    · rcases h with ⟨rfl, rfl⟩ | ⟨rfl, rfl⟩
      · rw [← e8]; exact g0 _
      · rw [← e8]; exact g1 _
    · rcases h with ⟨rfl, rfl⟩ | ⟨rfl, rfl⟩
      · rw [← e8]; exact g1 _
      · rw [← e8]; exact g0 _
  · exact ((((Below.refl _ _).alloc (Nat.le_refl _) _).alloc (by omega) _).alloc (by omega) _).drew

set_option maxHeartbeats 4000000 in
theorem begin_any (a : Option Addr) (cap : Nat) (zs : List Int) (m : Int) (w : World) (h : Ints w a 8 zs) :
    Calls Try.prog 23 #[.slice a 8 cap, .int .i64 m] w fun e w' => ∃ T L Q : Nat, e = .returned (.pointer (some ⟨T, 0, none⟩)) ∧ w.heap.size ≤ T ∧ w.heap.size ≤ L ∧ w.heap.size ≤ Q ∧ RSt w' T L Q (pu0 zs m) ∧ Below w.heap.size w w' := by
  obtain ⟨hlen, hc⟩ := h
  obtain ⟨b, off, rfl, hcs⟩ := hc (by omega)
  clear hc
  have hbl : b < w.heap.size := by
    have := hcs 0 (by omega)
    by_cases hx : b < w.heap.size
    · exact hx
    · simp [World.cell?, hx] at this
  have HC := hide hcs
  clear hcs
  have HL := hide hlen
  clear hlen
  have HMK := hide (begun w m)
  have hmk := mk8
  go_enter Try.func23, Try.ntmps23
  go_wp2_with fail
  go_region
  · have hnew := unhide HMK w.heap.size (w.heap.size + 1) (by omega)
    generalize hW : (((w.alloc (.cells made8 3)).alloc (.cells made8 3)).alloc (.cells #[.int .i64 m, .slice (some ⟨w.heap.size, 0, none⟩) 8 8, .slice (some ⟨(w.heap.size + 1), 0, none⟩) 8 8] 55)).drew = W at hnew ⊢
    have HN := hide hnew.1
    have HB := hide hnew.2
    have hT : Hid (w.heap.size ≤ w.heap.size + 1 + 1 ∧ w.heap.size ≤ w.heap.size ∧ w.heap.size ≤ (w.heap.size + 1)) := by
      show _ ∧ _ ∧ _
      omega
    clear hnew hW HMK hmk
    generalize hTe : w.heap.size + 1 + 1 = T at HN hT ⊢
    clear hTe
    generalize hLe : w.heap.size + 1 = Q at HN hT ⊢
    clear hLe
    go_wp2_with fail
    go_loopw [6] (fun i wr => ∃ k : Nat, k ≤ 8 ∧ i = .int .i64 k ∧ Hid (RSt wr T w.heap.size Q ⟨m, [], fillZ zs 8 k, List.replicate 8 0⟩) ∧ Hid (Below w.heap.size w wr)) (fun i _ => 8 - (intOf i).toNat)
    case atStart => exact ⟨0, Nat.zero_le _, rfl, by rw [fillZ_none]; exact HN, HB⟩
    case round =>
      obtain ⟨k, hk, rfl, hp, hb⟩ := hrel
      clear HN HB
      by_cases hlt : k < 8
      · have hck' : wr.cell? ⟨b, off + k, none⟩ = some (.int .i64 (zs.getD k 0)) := ((unhide hb).cell (p := ⟨b, off + k, none⟩) hbl).trans (unhide HC k hlt)
        obtain ⟨q, hq⟩ : ∃ q, q = zs.getD k 0 := ⟨_, rfl⟩
        rw [← hq] at hck'
        have HQ := hide hq
        have hfr := (unhide hp).fl k
        have hcl := (unhide hp).cl
        have hco := (unhide hp).co k hlt
        generalize (fillZ zs 8 k).getD k 0 = old at hco
        clear hq
        go_wp2_with fail
        go_region
        all_goals go_wp2_with fail
        go_roundw
        case rel =>
          refine ⟨k + 1, by omega, by go_num, ?_, ?_⟩
          · rw [← fillZ_set' zs 8 k hlt, ← unhide HQ]
            exact ((unhide hp).owe k q).other rfl rfl rfl
          · exact ((unhide hb).setCell (p := ⟨w.heap.size, k, none⟩) (unhide hT).2.1 _).drew
        case measure => simp [intOf]; omega
      · go_wp2_with fail
        go_ret
        have hk8 : k = 8 := by omega
        subst hk8
        have := unhide hp
        rw [fillZ_all _ _ (unhide HL)] at this
        exact ⟨T, w.heap.size, Q, rfl, (unhide hT).1, (unhide hT).2.1, (unhide hT).2.2, this, unhide hb⟩
  · have hnew := unhide HMK (w.heap.size + 1) w.heap.size (by omega)
    generalize hW : (((w.alloc (.cells made8 3)).alloc (.cells made8 3)).alloc (.cells #[.int .i64 m, .slice (some ⟨(w.heap.size + 1), 0, none⟩) 8 8, .slice (some ⟨w.heap.size, 0, none⟩) 8 8] 55)).drew = W at hnew ⊢
    have HN := hide hnew.1
    have HB := hide hnew.2
    have hT : Hid (w.heap.size ≤ w.heap.size + 1 + 1 ∧ w.heap.size ≤ (w.heap.size + 1) ∧ w.heap.size ≤ w.heap.size) := by
      show _ ∧ _ ∧ _
      omega
    clear hnew hW HMK hmk
    generalize hTe : w.heap.size + 1 + 1 = T at HN hT ⊢
    clear hTe
    generalize hLe : w.heap.size + 1 = L at HN hT ⊢
    clear hLe
    go_wp2_with fail
    go_loopw [6] (fun i wr => ∃ k : Nat, k ≤ 8 ∧ i = .int .i64 k ∧ Hid (RSt wr T L w.heap.size ⟨m, [], fillZ zs 8 k, List.replicate 8 0⟩) ∧ Hid (Below w.heap.size w wr)) (fun i _ => 8 - (intOf i).toNat)
    case atStart => exact ⟨0, Nat.zero_le _, rfl, by rw [fillZ_none]; exact HN, HB⟩
    case round =>
      obtain ⟨k, hk, rfl, hp, hb⟩ := hrel
      clear HN HB
      by_cases hlt : k < 8
      · have hck' : wr.cell? ⟨b, off + k, none⟩ = some (.int .i64 (zs.getD k 0)) := ((unhide hb).cell (p := ⟨b, off + k, none⟩) hbl).trans (unhide HC k hlt)
        obtain ⟨q, hq⟩ : ∃ q, q = zs.getD k 0 := ⟨_, rfl⟩
        rw [← hq] at hck'
        have HQ := hide hq
        have hfr := (unhide hp).fl k
        have hcl := (unhide hp).cl
        have hco := (unhide hp).co k hlt
        generalize (fillZ zs 8 k).getD k 0 = old at hco
        clear hq
        go_wp2_with fail
        go_region
        all_goals go_wp2_with fail
        go_roundw
        case rel =>
          refine ⟨k + 1, by omega, by go_num, ?_, ?_⟩
          · rw [← fillZ_set' zs 8 k hlt, ← unhide HQ]
            exact ((unhide hp).owe k q).other rfl rfl rfl
          · exact ((unhide hb).setCell (p := ⟨L, k, none⟩) (unhide hT).2.1 _).drew
        case measure => simp [intOf]; omega
      · go_wp2_with fail
        go_ret
        have hk8 : k = 8 := by omega
        subst hk8
        have := unhide hp
        rw [fillZ_all _ _ (unhide HL)] at this
        exact ⟨T, L, w.heap.size, rfl, (unhide hT).1, (unhide hT).2.1, (unhide hT).2.2, this, unhide hb⟩

theorem shr_sem {t : ByteArray} {zs : List Int} {m : Int} (hc : checkE t = 0) : shrM t zs m = semF t 0 (pu0 zs m) := by
  obtain ⟨h1, h2, h3, h4, h5, h6⟩ := policy_code t hc
  have e : (rsE t).ss = codeJ t 0 := h2
  unfold shrM semF
  rw [e, exec_sem t h5]

theorem RSt.paid_ints {w : World} {T L Q : Nat} {p : Pu} (h : RSt w T L Q p) : Ints w (some ⟨Q, 0, none⟩) 8 p.paid := by
  refine ⟨h.lp, fun _ => ⟨Q, 0, rfl, fun i hi => ?_⟩⟩
  rw [Nat.zero_add]
  exact h.cp i hi

set_option maxHeartbeats 4000000 in
theorem rshare_any (t : ByteArray) (zs : List Int) (m : Int) (ht : t.size ≤ 1000000000000000) (a : Option Addr) (len cap : Nat) (w : World) (h : Ints w a len zs) (hr : len * 8 ≤ 140737488351232) :
    Calls Try.prog 10 #[.string t, .slice a len cap, .int .i64 m] w fun e w' => ∃ (a' : Option Addr) (n c : Nat), e = .returned (.tuple #[.slice a' n c, .int .i64 (shR t zs m), .int .i64 (shE t zs m), .int .i64 (shP t zs m)]) ∧ Ints w' a' n (shL t zs m) ∧ (∀ b, a' = some b → w.heap.size ≤ b.block) ∧ Below w.heap.size w w' := by
  have HPS := hide (rcheck_any t · ht)
  by_cases hc : checkE t = 0
  · by_cases hg : givenE zs m = 0
    · have e1 : shE t zs m = 0 := by simp [shE, hc, hg]
      have e2 : shP t zs m = 0 := by simp [shP, hc, hg]
      have e3 : shL t zs m = (semF t 0 (pu0 zs m)).paid := by simp [shL, e1, shr_sem hc]
      have e4 : shR t zs m = (semF t 0 (pu0 zs m)).hand := by simp [shR, e1, shr_sem hc]
      rw [e1, e2, e3, e4]
      clear e1 e2 e3 e4
      obtain ⟨hz8, _, _, _⟩ := given_ok hg
      have h8 : len = 8 := by rw [← h.1, hz8]
      subst h8
      have hkp := keeps0 hg
      obtain ⟨hs, _, _, _, hok, _⟩ := policy_code t hc
      have HW := hide (walk_all t hs t.size 0 (by omega) (by omega) hok)
      have HKP := hide hkp
      rw [hc] at HPS
      have HG := hide hg
      have HI := hide h
      clear hkp hg h hc hz8 hr hok
      generalize hcp : checkP t = cp at HPS
      clear hcp
      obtain ⟨q, hqe⟩ : ∃ q, semF t 0 (pu0 zs m) = q := ⟨_, rfl⟩
      rw [hqe]
      have HQE := hide hqe
      clear hqe
      go_enter Try.func10, Try.ntmps10
      go_wp2_with fail
      refine (unhide HPS _).mono ?_
      rintro e w1 ⟨rfl, n1, hw1⟩
      have HB1 : Hid (Below w.heap.size w w1) := by
        show Below _ _ _
        rw [hw1]
        exact below_drewN (Below.refl _ _) _
      have hsz : w1.heap.size = w.heap.size := by rw [hw1]; rfl
      have HSZ := hide hsz
      have hI1 := hide ((unhide HI).below (unhide HB1))
      clear hw1 hsz
      go_wp2_with fail
      refine (given_any _ _ _ zs m _ (unhide hI1) (by omega)).mono ?_
      rintro e w2 ⟨rfl, hw⟩
      have hw := hw.symm
      subst hw
      rw [unhide HG]
      generalize hgp : givenP zs m = gp
      clear hgp
      go_wp2_with fail
      refine (begin_any _ _ zs m _ (unhide hI1)).mono ?_
      rintro e w3 ⟨T, L, Q, rfl, hT, hL, hQ, hp, hb3⟩
      have HP := hide hp
      have HB3 := hide hb3
      clear hp hb3
      go_wp2_with fail
      refine (unhide HW T L Q (pu0 zs m) m zs _ (unhide HP) (unhide HKP)).mono ?_
      rintro e w4 ⟨rfl, hp4, hb4⟩
      rw [unhide HQE] at hp4
      have HB4 := hide (below_step (unhide HB1) (show Below w1.heap.size w1 w4 from (unhide HB3).trans (hb4.below (unhide HB3).size hT hL hQ)))
      have HI4 := hide hp4.paid_ints
      have c1 := hp4.ch
      have c2 := hp4.cq
      have HQ9 : Hid (w.heap.size ≤ Q) := by
        show _ ≤ _
        have := unhide HSZ
        omega
      clear hp4 hb4
      go_wp2_with fail
      go_quiet (fail)
      go_wp2_with fail
      refine bodyPost_ret (v := .tuple #[.slice (some ⟨Q, 0, none⟩) 8 8, .int .i64 q.hand, .int .i64 0, .int .i64 0]) (by simp [results, Try.results10, go_sem]) rfl ?_
      refine ⟨_, _, _, rfl, (unhide HI4).below (below_drewN (Below.refl _ _) _), fun b hb => ?_, below_drewN (unhide HB4) _⟩
      simp at hb
      subst hb
      exact unhide HQ9
    · have e1 : shE t zs m = givenE zs m := by simp [shE, hc]
      have e2 : shP t zs m = givenP zs m := by simp [shP, hc, hg]
      have e3 : shL t zs m = [] := by simp [shL, e1, hg]
      have e4 : shR t zs m = 0 := by simp [shR, e1, hg]
      rw [e1, e2, e3, e4]
      clear e1 e2 e3 e4
      rw [hc] at HPS
      have hgb : (givenE zs m != 0) = true := by simpa using hg
      have HI := hide h
      clear h hc hg
      generalize hcp : checkP t = cp at HPS
      clear hcp
      go_enter Try.func10, Try.ntmps10
      go_wp2_with fail
      refine (unhide HPS _).mono ?_
      rintro e w1 ⟨rfl, n1, hw1⟩
      have HB1 : Hid (Below w.heap.size w w1) := by
        show Below _ _ _
        rw [hw1]
        exact below_drewN (Below.refl _ _) _
      have hI1 := hide ((unhide HI).below (unhide HB1))
      clear hw1 HPS
      go_wp2_with fail
      refine (given_any _ _ _ zs m _ (unhide hI1) hr).mono ?_
      rintro e w2 ⟨rfl, hw⟩
      have hw := hw.symm
      subst hw
      generalize hge : givenE zs m = ge at *
      generalize hgp : givenP zs m = gp at *
      have HG := hide (And.intro hge hgp)
      clear hge hgp
      go_wp2_with fail
      refine bodyPost_ret (v := .tuple #[.slice none 0 0, .int .i64 0, .int .i64 ge, .int .i64 gp]) (by simp [results, Try.results10, go_sem]) rfl ?_
      exact ⟨none, 0, 0, by rw [(unhide HG).1, (unhide HG).2], ⟨rfl, fun h => by omega⟩, fun b hb => by simp at hb, unhide HB1⟩
  · have e1 : shE t zs m = checkE t := by simp [shE, hc]
    have e2 : shP t zs m = checkP t := by simp [shP, hc]
    have e3 : shL t zs m = [] := by simp [shL, e1, hc]
    have e4 : shR t zs m = 0 := by simp [shR, e1, hc]
    rw [e1, e2, e3, e4]
    clear e1 e2 e3 e4
    have hcb : (checkE t != 0) = true := by simpa using hc
    clear hc
    generalize hge : checkE t = ge at *
    generalize hgp : checkP t = gp at *
    clear hge hgp
    go_enter Try.func10, Try.ntmps10
    go_wp2_with fail
    refine (unhide HPS _).mono ?_
    rintro e w1 ⟨rfl, n1, hw1⟩
    have HB1 : Hid (Below w.heap.size w w1) := by
      show Below _ _ _
      rw [hw1]
      exact below_drewN (Below.refl _ _) _
    clear HPS hw1
    go_wp2_with fail
    refine bodyPost_ret (v := .tuple #[.slice none 0 0, .int .i64 0, .int .i64 ge, .int .i64 gp]) (by simp [results, Try.results10, go_sem]) rfl ?_
    exact ⟨none, 0, 0, rfl, ⟨rfl, fun h => by omega⟩, fun b hb => by simp at hb, unhide HB1⟩
end Go.Proofs.Ytbpolcnjojlkjab

/- splitref's Run, of code that is admitted. -/
namespace Go.Proofs.Ytbpolcnjojlkjab
open Go.ChangeShapes Go.WideShapes Go.ChangeAt Go.RowKit
open Split (St SOk Pu Keeps execM doM skipM heldM InCode Well byt_bd byt_255)
set_option linter.unusedVariables false
set_option linter.unusedSimpArgs false

set_option maxRecDepth 100000 in
set_option maxHeartbeats 8000000 in
theorem rrun_adm (c : ByteArray) (n : Nat) (hA : Adm c n) (zs : List Int) (m : Int) (a : Option Addr) (len cap : Nat) (w : World) (h : Ints w a len zs) (hr : len * 8 ≤ 140737488351232) :
    Calls Try.prog 9 #[.string c, .slice a len cap, .int .i64 m] w fun e w' => ∃ (a' : Option Addr) (l c' : Nat), e = .returned (.tuple #[.slice a' l c', .int .i64 (stR (codeM c n) zs m), .int .i64 (givenE zs m), .int .i64 (stP zs m)]) ∧ Ints w' a' l (stL (codeM c n) zs m) ∧ Below w.heap.size w w' := by
  have HV := hide (fun w' => rverify_adm c n w' hA)
  have hn := hA.n120
  have hs := hA.size
  have hsok := hA.sok
  have hheld := hA.held
  have hcl : (codeM c n).length = n := codeM_len c n
  have hdiv : (c.size : Int).tdiv 5 = n := by
    rw [Int.tdiv_eq_ediv_of_nonneg (by omega)]
    omega
  have hc600 : c.size ≤ 600 := by omega
  have hget : ∀ i, i < n → (codeM c n)[i]? = some (decM c i) := fun i hi => by
    rw [List.getElem?_eq_getElem (by rw [hcl]; exact hi), codeM_get]
  have HA := hide hA
  have HS := hide hs
  have HI := hide h
  by_cases hg : givenE zs m = 0
  · have e2 : stP zs m = 0 := by simp [stP, hg]
    have e3 : stL (codeM c n) zs m = (execM (codeM c n) (codeM c n).length 0 (pu0 zs m)).paid := by simp [stL, hg]
    have e4 : stR (codeM c n) zs m = (execM (codeM c n) (codeM c n).length 0 (pu0 zs m)).hand := by simp [stR, hg]
    rw [e2, e3, e4, hg]
    obtain ⟨hz8, _, _, _⟩ := given_ok hg
    have h8 : len = 8 := by rw [← h.1, hz8]
    subst h8
    have hkp := keeps0 hg
    have hwell : Well (codeM c n) 0 (pu0 zs m) := Split.well_start hheld rfl
    obtain ⟨ss, hss⟩ : ∃ ss, codeM c n = ss := ⟨_, rfl⟩
    rw [hss] at hsok hheld hcl hget hwell ⊢
    rw [hcl]
    have HSOK := hide hsok
    have HGET := hide hget
    have HKP := hide hkp
    have HWELL := hide hwell
    have HG := hide hg
    have HCL := hide hcl
    clear hsok hheld hget hkp hwell hg hz8 h hA hs e2 e3 e4 hss hcl
    obtain ⟨q, hq⟩ : ∃ q, execM ss n 0 (pu0 zs m) = q := ⟨_, rfl⟩
    rw [hq]
    have HQ := hide hq
    clear hq
    go_enter Try.func9, Try.ntmps9
    go_wp2_with fail
    refine (unhide HV _).mono ?_
    rintro e w1 ⟨rfl, hb1⟩
    have B1 := hide hb1
    have I1 := hide ((unhide HI).below hb1)
    clear hb1 HV
    go_wp2_with fail
    refine (given_any _ _ _ zs m _ (unhide I1) hr).mono ?_
    rintro e w2 ⟨rfl, hw2⟩
    have hw2 := hw2.symm
    subst hw2
    rw [unhide HG]
    generalize givenP zs m = gp
    go_wp2_with fail
    refine (begin_any _ _ zs m _ (unhide I1)).mono ?_
    rintro e w3 ⟨T, L, Q, rfl, hT, hL, hQ, hp, hb3⟩
    have hlt := hp.lt
    have M3 : Hid (Mach w3 w.heap.size T L Q w3.heap.size (.slice none 0 0) (pu0 zs m)) :=
      ⟨hp, World.ownsRow_nil _ _ _ _, hlt.1, hlt.2.1, hlt.2.2, Nat.le_trans (unhide B1).size hT, Nat.le_trans (unhide B1).size hL, Nat.le_trans (unhide B1).size hQ, Nat.le_refl _⟩
    have B3 := hide (below_step (unhide B1) hb3)
    clear hp hb3 hlt hT hL hQ I1 B1
    generalize w3.heap.size = sb at M3
    go_wp2_with fail
    go_loopg [15, 16, 17] n (fun f vv ii _ wr => ∃ (pc : Nat) (p : Pu), pc ≤ n ∧ n - pc ≤ f ∧ ii = .int .i64 pc ∧ Hid (Mach wr w.heap.size T L Q sb vv p) ∧ Hid (Keeps m zs p) ∧ Hid (Well ss pc p) ∧ Hid (q = execM ss f pc p) ∧ Hid (Below w.heap.size w wr))
    case atStart => exact ⟨0, pu0 zs m, by omega, by omega, rfl, M3, HKP, HWELL, (unhide HQ).symm, B3⟩
    case round =>
      obtain ⟨pc, p, hpc, hf, rfl, hM, hk, hw, hex, hb⟩ := hrel
      obtain ⟨va, vc, rfl, _, _⟩ := own_slice (unhide hM).own
      clear M3 B3
      by_cases hlt : pc < n
      · have hsl : pc < ss.length := by rw [unhide HCL]; exact hlt
        obtain ⟨f', hf'⟩ : ∃ f', gk = f' + 1 := ⟨gk - 1, by omega⟩
        have hse : ss[pc] = decM c pc := by
          have := unhide HGET pc hlt
          rw [List.getElem?_eq_getElem hsl] at this
          simpa using this
        obtain ⟨wl1, wl2, wl3⟩ := Split.well_step (unhide HSOK).2 (unhide hw) hsl
        have hkd := Split.do_keeps (unhide hk) ((unhide HSOK).1 _ (List.getElem_mem hsl))
        have hex' : q = execM ss f' (pc + 1 + skipM (ss[pc]) p) (doM (ss[pc]) p) := by
          have := unhide hex
          rw [hf', exec_next ss f' pc p hsl] at this
          exact this
        rw [hse] at wl2 wl3 hkd hex'
        have hm : Hid (f' < gk ∧ n - (pc + 1) ≤ f') := ⟨by omega, by omega⟩
        have hsz : pc * 5 + 5 ≤ c.size := by have := unhide HS; omega
        have hat := fun w' => at_any c pc w' hc600 hsz
        have hok := (unhide HA).ok pc hlt
        unfold decOk at hok
        rw [decide_eq_true hsz, Bool.true_and] at hok
        have a1 := byt_bd c (pc * 5 + 1)
        have a2 := byt_255 (t := c) (i := pc * 5 + 1) (by omega)
        have b1 := byt_bd c (pc * 5 + 2)
        have b2 := byt_255 (t := c) (i := pc * 5 + 2) (by omega)
        have c1 := byt_bd c (pc * 5 + 3)
        have c2 := byt_255 (t := c) (i := pc * 5 + 3) (by omega)
        have d1 := byt_bd c (pc * 5 + 4)
        have d2 := byt_255 (t := c) (i := pc * 5 + 4) (by omega)
        have hact := act_all (m := nOf c pc) hok a1.1 a2 b1.1 b2 (by unfold nOf; omega) (by unfold nOf; omega)
        have hk69 : kOf c pc = 69 → p.held ≠ [] := fun h69 => wl2 (by
          show (decS (kOf c pc) _ _ _).kind = 69
          rw [h69]; rfl)
        have hpn : pc + 1 + skipM (decM c pc) p ≤ n := by
          have := wl3.1
          rw [unhide HCL] at this
          exact this
        have HAT := hide hat
        have HACT := hide (hact w.heap.size T L Q sb pc va p.held.length vc p m zs)
        have HK69 := hide hk69
        have HW3 := hide wl3
        have HKD := hide hkd
        have HEX := hide hex'
        have hwl1 : p.held.length ≤ 10 := by omega
        have hdec : decM c pc = decS (kOf c pc) (aOf c pc) (bOf c pc) (nOf c pc) := rfl
        rw [hdec] at HW3 HKD HEX hpn
        clear hat hact hok a1 a2 b1 b2 c1 c2 d1 d2 hk69 wl1 wl2 wl3 hkd hex' hex hf' hse hdec
        generalize kOf c pc = kk at *
        generalize aOf c pc = aa at *
        generalize bOf c pc = bb at *
        generalize nOf c pc = mm at *
        generalize decS kk aa bb mm = s at *
        go_wp2_with fail
        refine (unhide HAT _).mono ?_
        rintro e w4 ⟨rfl, hb4⟩
        have hb5 := below_step hb4 ((Below.refl _ _).alloc (Nat.le_refl _) (.cells #[.int .u8 kk, .int .i64 aa, .int .i64 bb, .int .i64 mm] 46))
        have M5 := hide ((unhide hM).below hb5)
        have B5 := hide ((unhide hb).trans (hb5.mono (unhide hM).bb))
        clear hb4 hb5
        go_wp2_with fail
        refine (unhide HACT _ (by omega) (unhide M5) (unhide hk) hwl1 (unhide HK69)).mono ?_
        rintro e w6 ⟨vs', rfl, hM6, hb6⟩
        have M6 := hide hM6
        have B6 := hide ((unhide B5).trans hb6)
        clear hM6 hb6
        obtain ⟨sk, hsk⟩ : ∃ x, skipM s p = x := ⟨_, rfl⟩
        rw [hsk] at HW3 HEX hpn ⊢
        clear hsk
        obtain ⟨va2, vc2, hve, _, _⟩ := own_slice (unhide M6).own
        subst hve
        go_wp2_with fail
        go_roundg f'
        case measure => exact (unhide hm).1
        case rel => exact ⟨pc + 1 + sk, doM s p, by omega, by have := (unhide hm).2; omega, by go_num, M6, HKD, HW3, HEX, B6⟩
      · have hpe : pc = n := by omega
        subst hpe
        have hqe : q = p := by
          have := unhide hex
          rw [exec_stop ss gk pc p (by rw [unhide HCL]; omega)] at this
          exact this
        subst hqe
        have c1 := (unhide hM).st.ch
        have c2 := (unhide hM).st.cq
        have HI4 := hide (unhide hM).st.paid_ints
        go_wp2_with fail
        go_quiet (fail)
        go_wp2_with fail
        refine bodyPost_ret (v := .tuple #[.slice (some ⟨Q, 0, none⟩) 8 8, .int .i64 q.hand, .int .i64 0, .int .i64 0]) (by simp [results, Try.results9, go_sem]) rfl ?_
        exact ⟨_, _, _, rfl, (unhide HI4).below (below_drewN (Below.refl _ _) _), below_drewN (unhide hb) _⟩
  · have e2 : stP zs m = givenP zs m := by simp [stP, hg]
    have e3 : stL (codeM c n) zs m = [] := by simp [stL, hg]
    have e4 : stR (codeM c n) zs m = 0 := by simp [stR, hg]
    rw [e2, e3, e4]
    have hgb : (givenE zs m != 0) = true := by simpa using hg
    clear hsok hheld hget hg h hA hs e2 e3 e4 hcl
    go_enter Try.func9, Try.ntmps9
    go_wp2_with fail
    refine (unhide HV _).mono ?_
    rintro e w1 ⟨rfl, hb1⟩
    have B1 := hide hb1
    have I1 := hide ((unhide HI).below hb1)
    clear hb1 HV
    go_wp2_with fail
    refine (given_any _ _ _ zs m _ (unhide I1) hr).mono ?_
    rintro e w2 ⟨rfl, hw2⟩
    have hw2 := hw2.symm
    subst hw2
    generalize hge : givenE zs m = ge at *
    generalize hgp : givenP zs m = gp at *
    have HG := hide (And.intro hge hgp)
    clear hge hgp
    go_wp2_with fail
    refine bodyPost_ret (v := .tuple #[.slice none 0 0, .int .i64 0, .int .i64 ge, .int .i64 gp]) (by simp [results, Try.results9, go_sem]) rfl ?_
    first
      | exact ⟨none, 0, 0, by rw [(unhide HG).1, (unhide HG).2], ⟨rfl, fun h => by omega⟩, unhide B1⟩
      | exact ⟨none, 0, 0, rfl, ⟨rfl, fun h => by omega⟩, unhide B1⟩
end Go.Proofs.Ytbpolcnjojlkjab
