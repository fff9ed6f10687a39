/- split's Verify and Run. -/
import Derived.Test.YtbpolcnjojlkjabLoad
import Derived.Test.YtbpolcnjojlkjabShare
namespace Go.Proofs.Ytbpolcnjojlkjab
open Go.ChangeShapes Go.WideShapes Go.ChangeAt Go.RowKit
open Split (St SOk Pu Keeps execM heldM InCode)
set_option linter.unusedVariables false
set_option linter.unusedSimpArgs false

theorem verify_any (c : ByteArray) (w : World) (hs : c.size ≤ 1000000000000000) : Calls Try.prog 12 #[.string c] w fun e w' => e = .returned (.tuple #[.int .i64 (loadE c), .int .i64 (loadP c)]) ∧ Below w.heap.size w w' := by
  go_enter Try.func12, Try.ntmps12
  go_wp2_with fail
  refine (load_any c _ hs).mono ?_
  rintro e w1 ⟨vs, rfl, _, _, hb⟩
  have HB := hide hb
  clear hb
  generalize hpe : loadE c = pe at *
  generalize hpp : loadP c = pp at *
  have HG := hide (And.intro hpe hpp)
  clear hpe hpp
  go_wp2_with fail
  go_ret2
  exact ⟨by rw [(unhide HG).1, (unhide HG).2]; rfl, unhide HB⟩

/-- Code that is admitted. -/
theorem load_ok {c : ByteArray} (h : loadE c = 0) : (∀ s ∈ codeM c (cntM c), SOk s) ∧ (∀ (i : Nat) (hi : i < (codeM c (cntM c)).length), InCode (codeM c (cntM c)).length i (codeM c (cntM c))[i]) ∧ heldM (codeM c (cntM c)) = -1 ∧ cntM c ≤ 200 := by
  unfold loadE at h
  by_cases hl : 600 < c.size
  · rw [if_pos hl] at h; simp at h
  · rw [if_neg hl] at h
    by_cases hb : badM c < cntM c
    · rw [if_pos hb] at h; simp at h
    · rw [if_neg hb] at h
      have hall : ∀ j, j < cntM c → okAt c j = true := by
        intro j hj
        cases hx : okAt c j
        · exfalso
          apply hb
          unfold badM
          have := List.findIdx_lt_length_of_exists (p := fun i => !okAt c i) (xs := List.range (cntM c)) ⟨j, by simpa using hj, by simp [hx]⟩
          simpa using this
        · rfl
      have := code_sok hall
      exact ⟨this.1, this.2, (held_zero h).2, by unfold cntM; omega⟩

def ruE (c : ByteArray) (zs : List Int) (m : Int) : Int := if loadE c = 0 then givenE zs m else loadE c
def ruP (c : ByteArray) (zs : List Int) (m : Int) : Int := if loadE c = 0 then stP zs m else loadP c
def ruL (c : ByteArray) (zs : List Int) (m : Int) : List Int := if loadE c = 0 then stL (codeM c (cntM c)) zs m else []
def ruR (c : ByteArray) (zs : List Int) (m : Int) : Int := if loadE c = 0 then stR (codeM c (cntM c)) zs m else 0

set_option maxHeartbeats 4000000 in
theorem run_any (c : ByteArray) (zs : List Int) (m : Int) (hc : c.size ≤ 1000000000000000) (a : Option Addr) (len cap : Nat) (w : World) (h : Ints w a len zs) (hr : len * 8 ≤ 140737488351232) :
    Calls Try.prog 14 #[.string c, .slice a len cap, .int .i64 m] w fun e w' => ∃ (a' : Option Addr) (n c' : Nat), e = .returned (.tuple #[.slice a' n c', .int .i64 (ruR c zs m), .int .i64 (ruE c zs m), .int .i64 (ruP c zs m)]) ∧ Ints w' a' n (ruL c zs m) ∧ (∀ b, a' = some b → w.heap.size ≤ b.block) ∧ Below w.heap.size w w' := by
  have HLD := hide (load_any c w hc)
  by_cases hl : loadE c = 0
  · have e1 : ruE c zs m = givenE zs m := by simp [ruE, hl]
    have e2 : ruP c zs m = stP zs m := by simp [ruP, hl]
    have e3 : ruL c zs m = stL (codeM c (cntM c)) zs m := by simp [ruL, hl]
    have e4 : ruR c zs m = stR (codeM c (cntM c)) zs m := by simp [ruR, hl]
    rw [e1, e2, e3, e4]
    clear e1 e2 e3 e4
    have hok := load_ok hl
    have hcl : (codeM c (cntM c)).length = cntM c := codeM_len _ _
    obtain ⟨ss, hss⟩ : ∃ ss, codeM c (cntM c) = ss := ⟨_, rfl⟩
    rw [hss] at hcl hok ⊢
    have HOK := hide hok
    have HCL := hide hcl
    have HSS := hide hss
    clear hok hcl hss
    have HI := hide h
    have HLE := hide hl
    clear h hl
    go_enter Try.func14, Try.ntmps14
    go_wp2_with fail
    refine (unhide HLD).mono ?_
    rintro e w1 ⟨vs, rfl, hown, _, hb1⟩
    have hown := hown (unhide HLE)
    rw [unhide HLE]
    obtain ⟨sa, scap, rfl, hsc, _⟩ := own_slice hown
    rw [unhide HSS] at hown
    rw [← unhide HCL] at hown ⊢
    have hl2 : ss.length ≤ 200 := by rw [unhide HCL]; exact (unhide HOK).2.2.2
    have HOWN := hide hown
    have HB1 := hide hb1
    have hI1 := hide ((unhide HI).below hb1)
    clear hown hb1 HLD hsc HSS HCL
    generalize hcp : loadP c = cp
    clear hcp
    go_wp2_with fail
    refine (settle_any ss _ _ _ _ _ _ zs m _ (unhide hI1) hr (unhide HOWN) (unhide HOK).1 hl2).mono ?_
    rintro e w2 ⟨a', n, c', rfl, hi2, hf2, hb2⟩
    have HI2 := hide hi2
    have HF2 := hide hf2
    have HB2 := hide hb2
    clear hi2 hf2 hb2
    generalize hge : givenE zs m = ge at *
    generalize hgp : stP zs m = gp at *
    generalize hgr : stR ss zs m = gr at *
    have HG := hide (And.intro hge (And.intro hgp hgr))
    clear hge hgp hgr
    go_wp2_with fail
    refine bodyPost_ret (v := .tuple #[.slice a' n c', .int .i64 gr, .int .i64 ge, .int .i64 gp]) (by simp [results, Try.results14, go_sem]) rfl ?_
    first
      | exact ⟨a', n, c', rfl, unhide HI2, fun b hb => Nat.le_trans (unhide HB1).size (unhide HF2 b hb), below_step (unhide HB1) (unhide HB2)⟩
      | exact ⟨a', n, c', by rw [(unhide HG).1, (unhide HG).2.1, (unhide HG).2.2], unhide HI2, fun b hb => Nat.le_trans (unhide HB1).size (unhide HF2 b hb), below_step (unhide HB1) (unhide HB2)⟩
  · have e1 : ruE c zs m = loadE c := by simp [ruE, hl]
    have e2 : ruP c zs m = loadP c := by simp [ruP, hl]
    have e3 : ruL c zs m = [] := by simp [ruL, hl]
    have e4 : ruR c zs m = 0 := by simp [ruR, hl]
    rw [e1, e2, e3, e4]
    clear e1 e2 e3 e4
    have hcb : (loadE c != 0) = true := by simpa using hl
    have HC := hide hl
    clear hl
    go_enter Try.func14, Try.ntmps14
    go_wp2_with fail
    refine (unhide HLD).mono ?_
    rintro e w1 ⟨vs, rfl, _, hvs, hb1⟩
    have hvs := hvs (unhide HC)
    subst hvs
    have HB1 := hide hb1
    clear hb1 HLD
    generalize hge : loadE c = ge at *
    generalize hgp : loadP c = gp at *
    have HG := hide (And.intro hge hgp)
    clear hge hgp
    go_wp2_with fail
    refine bodyPost_ret (v := .tuple #[.slice none 0 0, .int .i64 0, .int .i64 ge, .int .i64 gp]) (by simp [results, Try.results14, go_sem]) rfl ?_
    first
      | exact ⟨none, 0, 0, rfl, ⟨rfl, fun h => by omega⟩, fun b hb => by simp at hb, unhide HB1⟩
      | exact ⟨none, 0, 0, by rw [(unhide HG).1, (unhide HG).2], ⟨rfl, fun h => by omega⟩, fun b hb => by simp at hb, unhide HB1⟩
end Go.Proofs.Ytbpolcnjojlkjab
