/- LoadRun: Load, RunW -/
import Derived.Test.YtmdjdpofpkgffabCodes
import Derived.Test.YtmdjdpofpkgffabHeldWalk
import Derived.Test.YtmdjdpofpkgffabReaders
import Derived.Test.YtmdjdpofpkgffabShared

/- split's load. -/
namespace Go.Proofs.Ytmdjdpofpkgffab
open Go.ChangeShapes Go.WideShapes Go.ChangeAt Go.RowKit
open Split (byt St none8 SOk InCode heldM byt_bd byt_255)
set_option linter.unusedVariables false
set_option linter.unusedSimpArgs false

/-- How many instructions code has, the bytes at its end counted as one. -/
def cntM (c : ByteArray) : Nat := (c.size + 4) / 5
def okAt (c : ByteArray) (i : Nat) : Bool := decOk c i ((cntM c : Int) - 1 - i)
/-- The first that is none. -/
def badM (c : ByteArray) : Nat := (List.range (cntM c)).findIdx (fun i => !okAt c i)
def codeM (c : ByteArray) (k : Nat) : List St := (List.range k).map (decM c)
def loadE (c : ByteArray) : Int := if 600 < c.size then 1 else if badM c < cntM c then 6 else heldE (codeM c (cntM c))
def loadP (c : ByteArray) : Int := if 600 < c.size then 0 else if badM c < cntM c then badM c else heldP (codeM c (cntM c))

theorem codeM_len (c : ByteArray) (k : Nat) : (codeM c k).length = k := by simp [codeM]
theorem codeM_next (c : ByteArray) (k : Nat) : codeM c (k + 1) = codeM c k ++ [decM c k] := by simp [codeM, List.range_succ]
theorem codeM_get (c : ByteArray) (k i : Nat) (h : i < (codeM c k).length) : (codeM c k)[i] = decM c i := by simp [codeM]

theorem bad_at {c : ByteArray} {i : Nat} (hi : i < cntM c) (h : ∀ j, j < i → okAt c j = true) (hx : okAt c i = false) : badM c = i := by
  unfold badM
  rw [List.findIdx_eq (by simpa using hi)]
  refine ⟨by simp [hx], fun j hj => ?_⟩
  simp [h j hj]
theorem bad_not {c : ByteArray} (h : ∀ j, j < cntM c → okAt c j = true) : ¬ badM c < cntM c := by
  intro hb
  have := List.findIdx_getElem (p := fun i => !okAt c i) (xs := List.range (cntM c)) (w := by simpa [badM] using hb)
  simp at this
  rw [h _ (by simpa [badM] using hb)] at this
  simp at this

theorem held_zero {ss : List St} (h : heldE ss = 0) : heldP ss = 0 ∧ heldM ss = -1 := by
  unfold heldE at h
  unfold heldP
  by_cases hm : heldM ss = -1
  · rw [if_pos hm]; exact ⟨rfl, hm⟩
  · rw [if_neg hm] at h; simp at h

theorem bits_len (a : Int) : (bitsM a).length = 8 := by simp [bitsM]

/-- An instruction that holds is a step as it should be. -/
theorem dec_ok {k a b n left : Int} (h : decB k a b left = true) (ha : 0 ≤ a) (ha' : a ≤ 255) (hb : 0 ≤ b) (hb' : b ≤ 255) (hn : 0 ≤ n) (hn' : n ≤ 65535) : SOk (decS k a b n) ∧ (((decS k a b n).kind = 74 ∨ (decS k a b n).kind = 73) → (decS k a b n).leave ≤ left) := by
  have z8 : ∃ b : Nat, b < 8 ∧ (0 : Int) = b := ⟨0, by omega, rfl⟩
  have zl : ∃ l : Nat, l ≤ 1000 ∧ (0 : Int) = l := ⟨0, by omega, rfl⟩
  unfold decB at h
  unfold decS
  by_cases h80 : k = 80
  · rw [if_pos h80] at h ⊢
    simp at h
    exact ⟨⟨⟨a.toNat, by omega, by dsimp only; omega⟩, by simp, by simp, by simp, rfl, zl⟩, by simp⟩
  rw [if_neg h80] at h ⊢
  by_cases h67 : k = 67
  · rw [if_pos h67] at h ⊢
    simp at h
    exact ⟨⟨⟨a.toNat, by omega, by dsimp only; omega⟩, hn, by dsimp only; omega, by simp, rfl, zl⟩, by simp⟩
  rw [if_neg h67] at h ⊢
  by_cases h82 : k = 82
  · rw [if_pos h82] at h ⊢
    exact ⟨⟨z8, by simp, by simp, by simp, bits_len a, zl⟩, by simp⟩
  rw [if_neg h82] at h ⊢
  by_cases h72 : k = 72
  · rw [if_pos h72] at h ⊢
    simp at h
    exact ⟨⟨z8, ha, by dsimp only; omega, fun _ => by dsimp only; omega, rfl, zl⟩, by simp⟩
  rw [if_neg h72] at h ⊢
  by_cases h69 : k = 69
  · rw [if_pos h69] at h ⊢
    exact ⟨⟨z8, by simp, by simp, by simp, rfl, zl⟩, by simp⟩
  rw [if_neg h69] at h ⊢
  by_cases h74 : k = 74
  · rw [if_pos h74] at h ⊢
    simp at h
    exact ⟨⟨z8, by simp, by simp, by simp, rfl, ⟨a.toNat, by omega, by dsimp only; omega⟩⟩, fun _ => h⟩
  rw [if_neg h74] at h ⊢
  by_cases h73 : k = 73
  · rw [if_pos h73] at h ⊢
    simp at h
    exact ⟨⟨⟨a.toNat, by omega, by dsimp only; omega⟩, hn, by dsimp only; omega, by simp, rfl, ⟨b.toNat, by omega, by dsimp only; omega⟩⟩, fun _ => h.2⟩
  rw [if_neg h73] at h
  simp at h

theorem dec_at {c : ByteArray} {i : Nat} {left : Int} (h : decOk c i left = true) : SOk (decM c i) ∧ (((decM c i).kind = 74 ∨ (decM c i).kind = 73) → (decM c i).leave ≤ left) := by
  unfold decOk at h
  simp only [Bool.and_eq_true, decide_eq_true_eq] at h
  obtain ⟨hs, hb⟩ := h
  have a1 := byt_bd c (i * 5 + 1)
  have a2 := byt_255 (t := c) (i := i * 5 + 1) (by omega)
  have b1 := byt_bd c (i * 5 + 2)
  have b2 := byt_255 (t := c) (i := i * 5 + 2) (by omega)
  have c1 := byt_bd c (i * 5 + 3)
  have c2 := byt_255 (t := c) (i := i * 5 + 3) (by omega)
  have d1 := byt_bd c (i * 5 + 4)
  have d2 := byt_255 (t := c) (i := i * 5 + 4) (by omega)
  exact dec_ok hb a1.1 a2 b1.1 b2 (by unfold nOf; omega) (by unfold nOf; omega)

/-- Code of which all instructions hold. -/
theorem code_sok {c : ByteArray} (h : ∀ j, j < cntM c → okAt c j = true) : (∀ s ∈ codeM c (cntM c), SOk s) ∧ ∀ (i : Nat) (hi : i < (codeM c (cntM c)).length), InCode (codeM c (cntM c)).length i (codeM c (cntM c))[i] := by
  refine ⟨fun s hs => ?_, fun i hi => ?_⟩
  · simp only [codeM, List.mem_map, List.mem_range] at hs
    obtain ⟨i, hi, rfl⟩ := hs
    exact (dec_at (h i hi)).1
  · rw [codeM_get, codeM_len]
    rw [codeM_len] at hi
    intro hk
    have := (dec_at (h i hi)).2 hk
    omega

theorem stC_arr (s : St) : (stC s).toArray = #[.int .u8 s.kind, .int .i64 s.bucket, .int .i64 s.amount, .bool (s.among.getD 0 false), .bool (s.among.getD 1 false), .bool (s.among.getD 2 false), .bool (s.among.getD 3 false), .bool (s.among.getD 4 false), .bool (s.among.getD 5 false), .bool (s.among.getD 6 false), .bool (s.among.getD 7 false), .int .i64 s.leave] := rfl

def LoadPost (c : ByteArray) (w : World) (e : Ending) (w' : World) : Prop :=
  ∃ vs, e = .returned (.tuple #[vs, .int .i64 (loadE c), .int .i64 (loadP c)]) ∧ (loadE c = 0 → w'.ownsRow w.heap.size 110 12 vs (cntM c) (flat (codeM c (cntM c)))) ∧ (loadE c ≠ 0 → vs = .slice none 0 0) ∧ Below w.heap.size w w'

set_option maxRecDepth 100000 in
set_option maxHeartbeats 4000000 in
theorem load_any (c : ByteArray) (w : World) (hs : c.size ≤ 1000000000000000) : Calls Try.prog 46 #[.string c] w (LoadPost c w) := by
  obtain ⟨i0, hi, hz0, hz1, hz2⟩ := info_parts infoStep
  by_cases hlong : 600 < c.size
  · have e1 : loadE c = 1 := by unfold loadE; rw [if_pos hlong]
    have e2 : loadP c = 0 := by unfold loadP; rw [if_pos hlong]
    have HE := hide (And.intro e1 e2)
    clear e1 e2
    go_enter Try.func46, Try.ntmps46
    go_wp2_with fail
    go_ret3
    unfold LoadPost
    rw [(unhide HE).1, (unhide HE).2]
    exact ⟨.slice none 0 0, rfl, by simp, fun _ => rfl, Below.refl _ _⟩
  · obtain ⟨n, hn⟩ : ∃ n, cntM c = n := ⟨_, rfl⟩
    have hn2 : ((c.size : Int) + 5 - 1).tdiv 5 = n := by
      rw [Int.tdiv_eq_ediv_of_nonneg (by omega)]
      unfold cntM at hn
      omega
    have hn200 : n ≤ 200 := by unfold cntM at hn; omega
    have HN := hide hn
    have hsz : c.size ≤ 600 := by omega
    clear hn
    go_enter Try.func46, Try.ntmps46
    go_wp2_with fail
    go_loopw [6, 7] (fun vv ii wr => ∃ k : Nat, k ≤ n ∧ ii = .int .i64 k ∧ Hid (wr.ownsRow w.heap.size 110 12 vv k (flat (codeM c k))) ∧ Hid (∀ j, j < k → okAt c j = true) ∧ Hid (Below w.heap.size w wr)) (fun _ ii _ => n - (intOf ii).toNat)
    case atStart => exact ⟨0, by omega, rfl, World.ownsRow_nil _ _ _ _, fun j hj => by omega, Below.refl _ _⟩
    case round =>
      obtain ⟨k, hk, rfl, ho, hall, hb⟩ := hrel
      obtain ⟨va, vcap, rfl, hvc, _⟩ := own_slice (unhide ho)
      have hlk : (codeM c k).length = k := codeM_len c k
      by_cases hlt : k < n
      · have hoke : okAt c k = decOk c k ((n : Int) - 1 - k) := by unfold okAt; rw [unhide HN]
        cases hd : decOk c k ((n : Int) - 1 - k)
        · have hbad : badM c = k := bad_at (by rw [unhide HN]; exact hlt) (unhide hall) (hoke.trans hd)
          have e1 : loadE c = 6 := by
            unfold loadE
            rw [if_neg (by omega), if_pos (by rw [hbad, unhide HN]; exact hlt)]
          have e2 : loadP c = k := by
            unfold loadP
            rw [if_neg (by omega), if_pos (by rw [hbad, unhide HN]; exact hlt), hbad]
          have HE := hide (And.intro e1 e2)
          have HD := hide hd
          clear e1 e2 hbad hoke hd
          go_wp2_with fail
          refine (decode_any c k ((n : Int) - 1 - k) _ hsz (by omega) (by omega) (by omega)).mono ?_
          rintro e w2 ⟨s, rfl, _, hb2⟩
          rw [unhide HD]
          have B2 := hide (below_step (unhide hb) hb2)
          clear hb2
          rw [stC_arr]
          go_wp2_with fail
          go_ret3
          unfold LoadPost
          rw [(unhide HE).1, (unhide HE).2]
          exact ⟨.slice none 0 0, rfl, by simp, fun _ => rfl, below_step (unhide B2) ((Below.refl _ _).alloc (Nat.le_refl _) _)⟩
        · have HD := hide hd
          have HOK := hide (hoke.trans hd)
          clear hoke hd
          go_wp2_with fail
          refine (decode_any c k ((n : Int) - 1 - k) _ hsz (by omega) (by omega) (by omega)).mono ?_
          rintro e w2 ⟨s, rfl, hse, hb2⟩
          have hse := hse (unhide HD)
          rw [unhide HD]
          have B2 := hide (below_step (unhide hb) hb2)
          have O2 : Hid (w2.ownsRow w.heap.size 110 12 (.slice va k vcap) k (flat (codeM c k))) := by
            refine ⟨(unhide ho).1, ?_⟩
            rcases (unhide ho).2 with ⟨q, q'⟩ | ⟨g', cap', cur, q, q1, q2, q3⟩
            · exact .inl ⟨q, q'⟩
            · exact .inr ⟨g', cap', cur, q, q1, by rw [hb2.block g' (cell_lt q2)]; exact q2, q3⟩
          have HSE := hide hse
          clear hb2 hse ho
          rw [stC_arr]
          have hBs : w.heap.size ≤ w2.heap.size := (unhide B2).size
          go_wp2_with (at_builtin; refine wpList_append_own _ rfl (.tmp 38) (.tmp 40) 63 rfl w.heap.size 110 i0 _ 12 40 Try.underlying63 hi hz0 hz1 hz2 rfl (by decide) _ k (flat (codeM c k)) rfl (by exact World.ownsRow.alloc (World.ownsRow.alloc (unhide O2) _) _) ⟨w2.heap.size + 1, 0, none⟩ 1 1 (stC s) rfl rfl (news_cells (alloc_at (by simp) rfl)) (stC_one _) (by unfold maxLen; omega) (by omega) (by simp; omega) ?_; intro v' w3 hown hgrow _)
          obtain ⟨a2, cap2, rfl, hle2, _⟩ := own_slice hown
          go_roundw
          case rel =>
            refine ⟨k + 1, by omega, by go_num, ?_, ?_, ?_⟩
            · rw [codeM_next, flat_snoc, ← unhide HSE]
              exact hown
            · intro j hj
              by_cases hjk : j < k
              · exact unhide hall j hjk
              · have : j = k := by omega
                rw [this]
                exact unhide HOK
            · exact (((unhide B2).alloc hBs _).alloc (by simp; omega) _).trans (below_of_grown hgrow (by simp; omega) (fun q hq => by have := (unhide O2).lt q hq; omega))
          case measure => simp [intOf]; omega
      · have hkn : k = n := by omega
        subst hkn
        have hnb : ¬ badM c < cntM c := bad_not (by rw [unhide HN]; exact unhide hall)
        have hco := code_sok (c := c) (by rw [unhide HN]; exact unhide hall)
        rw [unhide HN] at hco hnb
        have e1 : loadE c = heldE (codeM c k) := by
          unfold loadE
          rw [if_neg (by omega), if_neg (by rw [unhide HN]; exact hnb), unhide HN]
        have e2 : loadP c = heldP (codeM c k) := by
          unfold loadP
          rw [if_neg (by omega), if_neg (by rw [unhide HN]; exact hnb), unhide HN]
        have HE := hide (And.intro e1 e2)
        have HCO := hide hco
        have HOW := hide (unhide ho)
        rw [← hlk] at HOW
        clear e1 e2 hco hnb
        go_wp2_with fail
        have hch := checkHeld_any (codeM c k) w.heap.size va vcap wr (by rw [hlk]; rw [hlk] at HOW; exact unhide HOW) (unhide HCO).1 (unhide HCO).2 (by rw [hlk]; exact hn200)
        rw [hlk] at hch
        refine hch.mono ?_
        rintro e w2 ⟨rfl, hb2⟩
        have B2 := hide (below_step (unhide hb) hb2)
        have O2 : Hid (w2.ownsRow w.heap.size 110 12 (.slice va k vcap) k (flat (codeM c k))) := by
          refine ⟨(unhide ho).1, ?_⟩
          rcases (unhide ho).2 with ⟨q, q'⟩ | ⟨g', cap', cur, q, q1, q2, q3⟩
          · exact .inl ⟨q, q'⟩
          · exact .inr ⟨g', cap', cur, q, q1, by rw [hb2.block g' (cell_lt q2)]; exact q2, q3⟩
        clear hb2 hch HOW ho
        have hz := @held_zero (codeM c k)
        obtain ⟨he, hhe⟩ : ∃ x, heldE (codeM c k) = x := ⟨_, rfl⟩
        obtain ⟨hp, hhp⟩ : ∃ x, heldP (codeM c k) = x := ⟨_, rfl⟩
        have hE := unhide HE
        rw [hhe, hhp] at hE ⊢
        rw [hhe, hhp] at hz
        have HE2 := hide hE
        have HZ := hide hz
        clear hhe hhp hE HE HCO hz
        by_cases h0 : he = 0
        · subst h0
          go_wp2_with fail
          go_ret3
          unfold LoadPost
          rw [(unhide HE2).1, (unhide HE2).2, (unhide HZ (by first | rfl | trivial)).1, unhide HN]
          exact ⟨.slice va k vcap, rfl, fun _ => unhide O2, fun h => absurd rfl h, unhide B2⟩
        · have q0 : (he != 0) = true := by simpa using h0
          have H0 := hide h0
          clear h0
          go_wp2_with fail
          go_ret3
          unfold LoadPost
          rw [(unhide HE2).1, (unhide HE2).2]
          exact ⟨.slice none 0 0, rfl, fun h => absurd h (unhide H0), fun _ => rfl, unhide B2⟩
end Go.Proofs.Ytmdjdpofpkgffab

/- split's Verify and Run. -/
namespace Go.Proofs.Ytmdjdpofpkgffab
open Go.ChangeShapes Go.WideShapes Go.ChangeAt Go.RowKit
open Split (St SOk Pu Keeps execM heldM InCode)
set_option linter.unusedVariables false
set_option linter.unusedSimpArgs false

theorem verify_any (c : ByteArray) (w : World) (hs : c.size ≤ 1000000000000000) : Calls Try.prog 18 #[.string c] w fun e w' => e = .returned (.tuple #[.int .i64 (loadE c), .int .i64 (loadP c)]) ∧ Below w.heap.size w w' := by
  go_enter Try.func18, Try.ntmps18
  go_wp2_with fail
  refine (load_any c _ hs).mono ?_
  rintro e w1 ⟨vs, rfl, _, _, hb⟩
  have HB := hide hb
  clear hb
  generalize hpe : loadE c = pe at *
  generalize hpp : loadP c = pp at *
  have HG := hide (And.intro hpe hpp)
  clear hpe hpp
  go_wp2_with fail
  go_ret2
  exact ⟨by rw [(unhide HG).1, (unhide HG).2]; rfl, unhide HB⟩

/-- Code that is admitted. -/
theorem load_ok {c : ByteArray} (h : loadE c = 0) : (∀ s ∈ codeM c (cntM c), SOk s) ∧ (∀ (i : Nat) (hi : i < (codeM c (cntM c)).length), InCode (codeM c (cntM c)).length i (codeM c (cntM c))[i]) ∧ heldM (codeM c (cntM c)) = -1 ∧ cntM c ≤ 200 := by
  unfold loadE at h
  by_cases hl : 600 < c.size
  · rw [if_pos hl] at h; simp at h
  · rw [if_neg hl] at h
    by_cases hb : badM c < cntM c
    · rw [if_pos hb] at h; simp at h
    · rw [if_neg hb] at h
      have hall : ∀ j, j < cntM c → okAt c j = true := by
        intro j hj
        cases hx : okAt c j
        · exfalso
          apply hb
          unfold badM
          have := List.findIdx_lt_length_of_exists (p := fun i => !okAt c i) (xs := List.range (cntM c)) ⟨j, by simpa using hj, by simp [hx]⟩
          simpa using this
        · rfl
      have := code_sok hall
      exact ⟨this.1, this.2, (held_zero h).2, by unfold cntM; omega⟩

def ruE (c : ByteArray) (zs : List Int) (m : Int) : Int := if loadE c = 0 then givenE zs m else loadE c
def ruP (c : ByteArray) (zs : List Int) (m : Int) : Int := if loadE c = 0 then stP zs m else loadP c
def ruL (c : ByteArray) (zs : List Int) (m : Int) : List Int := if loadE c = 0 then stL (codeM c (cntM c)) zs m else []
def ruR (c : ByteArray) (zs : List Int) (m : Int) : Int := if loadE c = 0 then stR (codeM c (cntM c)) zs m else 0

set_option maxHeartbeats 4000000 in
theorem run_any (c : ByteArray) (zs : List Int) (m : Int) (hc : c.size ≤ 1000000000000000) (a : Option Addr) (len cap : Nat) (w : World) (h : Ints w a len zs) (hr : len * 8 ≤ 140737488351232) :
    Calls Try.prog 20 #[.string c, .slice a len cap, .int .i64 m] w fun e w' => ∃ (a' : Option Addr) (n c' : Nat), e = .returned (.tuple #[.slice a' n c', .int .i64 (ruR c zs m), .int .i64 (ruE c zs m), .int .i64 (ruP c zs m)]) ∧ Ints w' a' n (ruL c zs m) ∧ (∀ b, a' = some b → w.heap.size ≤ b.block) ∧ Below w.heap.size w w' := by
  have HLD := hide (load_any c w hc)
  by_cases hl : loadE c = 0
  · have e1 : ruE c zs m = givenE zs m := by simp [ruE, hl]
    have e2 : ruP c zs m = stP zs m := by simp [ruP, hl]
    have e3 : ruL c zs m = stL (codeM c (cntM c)) zs m := by simp [ruL, hl]
    have e4 : ruR c zs m = stR (codeM c (cntM c)) zs m := by simp [ruR, hl]
    rw [e1, e2, e3, e4]
    clear e1 e2 e3 e4
    have hok := load_ok hl
    have hcl : (codeM c (cntM c)).length = cntM c := codeM_len _ _
    obtain ⟨ss, hss⟩ : ∃ ss, codeM c (cntM c) = ss := ⟨_, rfl⟩
    rw [hss] at hcl hok ⊢
    have HOK := hide hok
    have HCL := hide hcl
    have HSS := hide hss
    clear hok hcl hss
    have HI := hide h
    have HLE := hide hl
    clear h hl
    go_enter Try.func20, Try.ntmps20
    go_wp2_with fail
    refine (unhide HLD).mono ?_
    rintro e w1 ⟨vs, rfl, hown, _, hb1⟩
    have hown := hown (unhide HLE)
    rw [unhide HLE]
    obtain ⟨sa, scap, rfl, hsc, _⟩ := own_slice hown
    rw [unhide HSS] at hown
    rw [← unhide HCL] at hown ⊢
    have hl2 : ss.length ≤ 200 := by rw [unhide HCL]; exact (unhide HOK).2.2.2
    have HOWN := hide hown
    have HB1 := hide hb1
    have hI1 := hide ((unhide HI).below hb1)
    clear hown hb1 HLD hsc HSS HCL
    generalize hcp : loadP c = cp
    clear hcp
    go_wp2_with fail
    refine (settle_any ss _ _ _ _ _ _ zs m _ (unhide hI1) hr (unhide HOWN) (unhide HOK).1 hl2).mono ?_
    rintro e w2 ⟨a', n, c', rfl, hi2, hf2, hb2⟩
    have HI2 := hide hi2
    have HF2 := hide hf2
    have HB2 := hide hb2
    clear hi2 hf2 hb2
    generalize hge : givenE zs m = ge at *
    generalize hgp : stP zs m = gp at *
    generalize hgr : stR ss zs m = gr at *
    have HG := hide (And.intro hge (And.intro hgp hgr))
    clear hge hgp hgr
    go_wp2_with fail
    refine bodyPost_ret (v := .tuple #[.slice a' n c', .int .i64 gr, .int .i64 ge, .int .i64 gp]) (by simp [results, Try.results20, go_sem]) rfl ?_
    first
      | exact ⟨a', n, c', rfl, unhide HI2, fun b hb => Nat.le_trans (unhide HB1).size (unhide HF2 b hb), below_step (unhide HB1) (unhide HB2)⟩
      | exact ⟨a', n, c', by rw [(unhide HG).1, (unhide HG).2.1, (unhide HG).2.2], unhide HI2, fun b hb => Nat.le_trans (unhide HB1).size (unhide HF2 b hb), below_step (unhide HB1) (unhide HB2)⟩
  · have e1 : ruE c zs m = loadE c := by simp [ruE, hl]
    have e2 : ruP c zs m = loadP c := by simp [ruP, hl]
    have e3 : ruL c zs m = [] := by simp [ruL, hl]
    have e4 : ruR c zs m = 0 := by simp [ruR, hl]
    rw [e1, e2, e3, e4]
    clear e1 e2 e3 e4
    have hcb : (loadE c != 0) = true := by simpa using hl
    have HC := hide hl
    clear hl
    go_enter Try.func20, Try.ntmps20
    go_wp2_with fail
    refine (unhide HLD).mono ?_
    rintro e w1 ⟨vs, rfl, _, hvs, hb1⟩
    have hvs := hvs (unhide HC)
    subst hvs
    have HB1 := hide hb1
    clear hb1 HLD
    generalize hge : loadE c = ge at *
    generalize hgp : loadP c = gp at *
    have HG := hide (And.intro hge hgp)
    clear hge hgp
    go_wp2_with fail
    refine bodyPost_ret (v := .tuple #[.slice none 0 0, .int .i64 0, .int .i64 ge, .int .i64 gp]) (by simp [results, Try.results20, go_sem]) rfl ?_
    first
      | exact ⟨none, 0, 0, rfl, ⟨rfl, fun h => by omega⟩, fun b hb => by simp at hb, unhide HB1⟩
      | exact ⟨none, 0, 0, by rw [(unhide HG).1, (unhide HG).2], ⟨rfl, fun h => by omega⟩, fun b hb => by simp at hb, unhide HB1⟩
end Go.Proofs.Ytmdjdpofpkgffab
