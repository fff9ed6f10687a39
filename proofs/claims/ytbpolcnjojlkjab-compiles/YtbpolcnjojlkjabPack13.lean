/- CheckHeld, Load -/
import Derived.Test.YtbpolcnjojlkjabPack10
import Derived.Test.YtbpolcnjojlkjabPack12
import Derived.Test.YtbpolcnjojlkjabPack6

/- split's checkHeld. -/
namespace Go.Proofs.Ytbpolcnjojlkjab
open Go.ChangeShapes Go.WideShapes Go.ChangeAt Go.RowKit
open Split (St SOk joinM leadM growM onA onM heldGo hInit heldM InCode)
set_option linter.unusedVariables false
set_option linter.unusedSimpArgs false

def heldE (ss : List St) : Int := if heldM ss = -1 then 0 else 7
def heldP (ss : List St) : Int := if heldM ss = -1 then 0 else heldM ss

theorem join_bd {o x : Int} (hx : 0 ≤ x) (hx5 : x ≤ 5) : -2 ≤ joinM o x ∧ joinM o x ≤ 5 := by
  rcases Split.joinM_or o x with h | h <;> rw [h] <;> omega
theorem lead_bd {h : List Int} {p : Nat} {x : Int} (hp : p < h.length) (hx : 0 ≤ x) (hx5 : x ≤ 5) (hh : ∀ j, -2 ≤ h.getD j 0 ∧ h.getD j 0 ≤ 5) (j : Nat) : -2 ≤ (leadM h p x).getD j 0 ∧ (leadM h p x).getD j 0 ≤ 5 := by
  rw [Split.lead_get x hp]
  split
  · exact join_bd hx hx5
  · exact hh j
theorem on_bd {h : List Int} {n i : Nat} {s : St} {x : Int} (hl : h.length = n + 1) (hi : i < n) (hs : InCode n i s) (hx : 0 ≤ x) (hx5 : x ≤ 5) (hh : ∀ j, -2 ≤ h.getD j 0 ∧ h.getD j 0 ≤ 5) (j : Nat) : -2 ≤ (onM h i s x).getD j 0 ∧ (onM h i s x).getD j 0 ≤ 5 := by
  have hA : ∀ j, -2 ≤ (onA h i s x).getD j 0 ∧ (onA h i s x).getD j 0 ≤ 5 := by
    intro j
    unfold onA
    split
    · exact hh j
    · exact lead_bd (by omega) hx hx5 hh j
  unfold onM
  split
  · rename_i hk
    have := hs hk
    exact lead_bd (by rw [Split.onA_len]; omega) hx hx5 hA j
  · exact hA j
theorem init_bd (n j : Nat) : -2 ≤ (hInit n).getD j 0 ∧ (hInit n).getD j 0 ≤ 5 := by
  unfold hInit
  cases j with
  | zero => simp
  | succ j =>
    rw [List.getD_cons_succ, List.getD_eq_getElem?_getD, List.getElem?_replicate]
    split <;> simp

theorem grow_bd (k : Int) : -1 ≤ growM k ∧ growM k ≤ 1 := by
  unfold growM
  split
  · omega
  split <;> omega

set_option maxRecDepth 100000 in
set_option maxHeartbeats 4000000 in
theorem checkHeld_any (ss : List St) (base : Nat) (sa : Option Addr) (scap : Nat) (w : World) (hS : w.ownsRow base 63 12 (.slice sa ss.length scap) ss.length (flat ss)) (hok : ∀ s ∈ ss, SOk s) (hin : ∀ (i : Nat) (h : i < ss.length), InCode ss.length i ss[i]) (hl : ss.length ≤ 200) :
    Calls Try.prog 37 #[.slice sa ss.length scap] w fun e w' => e = .returned (.tuple #[.int .i64 (heldE ss), .int .i64 (heldP ss)]) ∧ Below w.heap.size w w' := by
  obtain ⟨_, _, he, hcap, hsa⟩ := own_slice hS
  simp only [Value.slice.injEq, true_and] at he
  obtain ⟨rfl, rfl⟩ := he
  have HS := hide hS
  have HOK := hide hok
  have HIN := hide hin
  have HSA := hide hsa
  obtain ⟨n, hn⟩ : ∃ n, ss.length = n := ⟨_, rfl⟩
  have HN := hide hn
  rw [hn] at hl hcap ⊢
  clear hS hok hin hn hsa
  go_enter Try.func37, Try.ntmps37
  go_wp2_with fail
  refine (newHeights_any _ n _ (by omega) (by omega)).mono ?_
  rintro e w1 ⟨rfl, hH1, hb1⟩
  have H1 := hide hH1
  have B1 := hide hb1
  obtain ⟨H, hH⟩ : ∃ H, w.heap.size = H := ⟨_, rfl⟩
  rw [hH] at H1 B1 ⊢
  have HH := hide hH
  clear hH1 hb1 hH
  go_wp2_with fail
  go_loopw [5] (fun aa wr => ∃ (i : Nat) (h : List Int), i ≤ n ∧ aa = .int .i64 i ∧ h.length = n + 1 ∧ Hid (∀ j, -2 ≤ h.getD j 0 ∧ h.getD j 0 ≤ 5) ∧ Hid (Hts wr H h) ∧ Hid (heldM ss = heldGo ss (n - i) i h) ∧ Hid (Below H w wr)) (fun aa _ => n - (intOf aa).toNat)
  case atStart =>
    refine ⟨0, hInit n, by omega, rfl, by simp [hInit], init_bd n, H1, ?_, B1⟩
    show heldM ss = _
    unfold heldM
    rw [unhide HN]
    rfl
  case round =>
    obtain ⟨i, h, hi, rfl, hhl, hbd, hH, hgo, hb⟩ := hrel
    obtain ⟨g, gcap, hg, hgc, hr, ho⟩ := (unhide hH).view (by omega)
    rw [hhl] at hgc hr ho
    have cH := cell_of_row wr H 0 _ _ _ hr
    simp at cH
    have hHlt := (unhide hH).lt
    clear H1 B1 hr
    have cx : ∀ j, j < n + 1 → wr.cell? ⟨g, j, none⟩ = some (.int .i64 (h.getD j 0)) := by
      intro j hj
      rw [ho.cellAt j (by omega), List.getElem?_map, List.getElem?_eq_getElem (by omega)]
      simp [List.getD_eq_getElem?_getD, List.getElem?_eq_getElem (show j < h.length by omega)]
    have CX := hide cx
    clear cx ho
    by_cases hlt : i < n
    · have ci := unhide CX i (by omega)
      have hb2 := unhide hbd i
      have hsl : i < ss.length := by rw [unhide HN]; exact hlt
      obtain ⟨f, hf⟩ : ∃ f, n - i = f + 1 := ⟨n - i - 1, by omega⟩
      have hf2 : n - (i + 1) = f := by omega
      have HF := hide hf2
      have hgo' : heldM ss = (if h.getD i 0 = -1 then heldGo ss f (i + 1) h
        else if h.getD i 0 = -2 ∨ h.getD i 0 + growM ss[i].kind < 0 ∨ 5 < h.getD i 0 + growM ss[i].kind then (i : Int)
        else heldGo ss f (i + 1) (onM h i ss[i] (h.getD i 0 + growM ss[i].kind))) := by
        have := unhide hgo
        rw [hf] at this
        rw [this]
        simp only [heldGo, List.getElem?_eq_getElem hsl]
      have HGO := hide hgo'
      obtain ⟨x, hx⟩ : ∃ x, h.getD i 0 = x := ⟨_, rfl⟩
      rw [hx] at HGO ci hb2
      have HX := hide hx
      clear hgo' hgo hf hf2 hx
      by_cases hx1 : x = -1
      · subst hx1
        have hgo2 : Hid (heldM ss = heldGo ss f (i + 1) h) := by
          have := unhide HGO
          rw [if_pos rfl] at this
          exact this
        clear HGO
        go_wp2_with fail
        go_roundw
        case rel => exact ⟨i + 1, h, by omega, by go_num, hhl, hbd, hH, by rw [unhide HF]; exact hgo2, hb⟩
        case measure => simp [intOf]; omega
      · have q1 : (x == -1) = false := beq_eq_false_iff_ne.2 hx1
        have hso := unhide HOK _ (List.getElem_mem hsl)
        have hic := unhide HIN i hsl
        rw [unhide HN] at hic
        obtain ⟨⟨kind, bucket, amount, among, leave⟩, hse⟩ : ∃ s, ss[i] = s := ⟨_, rfl⟩
        rw [hse] at hso hic HGO
        obtain ⟨⟨b, hb8, hbe⟩, ha0, ha1, hah, ham, ⟨l, hl1, hle⟩⟩ := hso
        dsimp only at hbe ha0 ha1 hah ham hle
        subst hbe
        subst hle
        obtain ⟨m0, m1, m2, m3, m4, m5, m6, m7, hame⟩ : ∃ m0 m1 m2 m3 m4 m5 m6 m7, among = [m0, m1, m2, m3, m4, m5, m6, m7] := by
          match among, ham with
          | [m0, m1, m2, m3, m4, m5, m6, m7], _ => exact ⟨m0, m1, m2, m3, m4, m5, m6, m7, rfl⟩
        subst hame
        obtain ⟨gs, hgs⟩ := unhide HSA (by omega)
        subst hgs
        have hgsl : gs < H := by
          have := ((unhide HS).lt gs rfl).2
          have := unhide HH
          omega
        have hcells := step_cells (unhide HS) rfl hsl hse
        obtain ⟨d0, d1, d2, d3, d4, d5, d6, d7, d8, d9, d10, d11⟩ := hcells
        rw [← (unhide hb).cell (p := ⟨gs, _, none⟩) hgsl] at d0 d1 d2 d3 d4 d5 d6 d7 d8 d9 d10 d11
        have hgb := grow_bd kind
        obtain ⟨y, hy⟩ : ∃ y, growM kind = y := ⟨_, rfl⟩
        dsimp only at HGO
        rw [hy] at hgb HGO
        have HY := hide hy
        have HIC := hide hic
        clear hy ham hse hic hah
        have HG : Hid (∀ w', Calls Try.prog 52 #[.int .u8 kind] w' fun e w'' => e = .returned (.int .i64 y) ∧ w'' = w') := by
          intro w'
          have := growth_any kind w'
          rw [unhide HY] at this
          exact this
        have hwr : IntKind.i64.wrap (x + y) = x + y := wrap_small (by omega) (by omega)
        go_wp2_with fail
        go_quiet ((go_at_call 52; exact Calls.quiet_of_same (unhide HG _)))
        have hdr : ∀ a, (wr.drewN nq).cell? a = wr.cell? a := fun _ => rfl
        by_cases hbad : x = -2 ∨ x + y < 0 ∨ 5 < x + y
        · have hgo2 : heldM ss = i := by
            have := unhide HGO
            rw [if_neg hx1, if_pos hbad] at this
            exact this
          have e1 : heldE ss = 7 := by unfold heldE; rw [if_neg (by omega)]
          have e2 : heldP ss = i := by unfold heldP; rw [if_neg (by omega), hgo2]
          have HE := hide (And.intro e1 e2)
          clear e1 e2 hgo2 HGO
          by_cases hx2 : x = -2
          · subst hx2
            go_wp2_with fail
            go_ret2
            exact ⟨by rw [(unhide HE).1, (unhide HE).2]; rfl, by rw [unhide HH]; exact below_drewN (unhide hb) _⟩
          · have q2 : (x == -2) = false := beq_eq_false_iff_ne.2 hx2
            by_cases hneg : x + y < 0
            · go_wp2_with fail
              go_ret2
              exact ⟨by rw [(unhide HE).1, (unhide HE).2]; rfl, by rw [unhide HH]; exact below_drewN (unhide hb) _⟩
            · have hgt : 5 < x + y := by omega
              go_wp2_with fail
              go_ret2
              exact ⟨by rw [(unhide HE).1, (unhide HE).2]; rfl, by rw [unhide HH]; exact below_drewN (unhide hb) _⟩
        · have hgo2 : Hid (heldM ss = heldGo ss f (i + 1) (onM h i ⟨kind, (b : Nat), amount, [m0, m1, m2, m3, m4, m5, m6, m7], (l : Nat)⟩ (x + y))) := by
            have := unhide HGO
            rw [if_neg hx1, if_neg hbad] at this
            exact this
          have hx2 : x ≠ -2 := fun e => hbad (.inl e)
          have hy0 : 0 ≤ x + y := by omega
          have hy5 : x + y ≤ 5 := by omega
          have q2 : (x == -2) = false := beq_eq_false_iff_ne.2 hx2
          have HNB := hide (on_bd hhl hlt (unhide HIC) hy0 hy5 (unhide hbd))
          have HNL : Hid (i + 1 < h.length ∧ h.length ≤ 1000 ∧ ((kind = 74 ∨ kind = 73) → i + 1 + l < h.length)) := by
            refine ⟨by omega, by omega, fun hk => ?_⟩
            have := unhide HIC hk
            dsimp only [Int.toNat_natCast] at this
            omega
          clear HGO hbad
          have HH2 : Hid (Hts (wr.drewN nq) H h) := (unhide hH).below (below_drewN (Below.refl _ _) _) (Nat.le_refl _)
          go_wp2_with fail
          refine (leadOn_any H h i kind (b : Nat) amount m0 m1 m2 m3 m4 m5 m6 m7 l (x + y) _ (unhide HH2) (unhide HNL).2.1 (unhide HNL).1 (unhide HNL).2.2).mono ?_
          rintro e w3 ⟨rfl, h3, b3⟩
          have H3 := hide h3
          have B3 := hide ((below_drewN (unhide hb) _).trans b3)
          clear h3 b3
          go_wp2_with fail
          go_roundw
          case rel => exact ⟨i + 1, _, by omega, by go_num, (Split.on_len _ _ _ _).trans hhl, HNB, H3, by rw [unhide HF]; exact hgo2, B3⟩
          case measure => simp [intOf]; omega
    · have hin : i = n := by omega
      subst hin
      have ci := unhide CX i (by omega)
      have hgo2 : heldM ss = if h.getD i 0 = 0 then -1 else (i : Int) := by
        have := unhide hgo
        rw [Nat.sub_self] at this
        exact this
      obtain ⟨x, hx⟩ : ∃ x, h.getD i 0 = x := ⟨_, rfl⟩
      rw [hx] at ci hgo2
      clear hx hgo
      by_cases hx0 : x = 0
      · subst hx0
        rw [if_pos rfl] at hgo2
        have e1 : heldE ss = 0 := by unfold heldE; rw [if_pos hgo2]
        have e2 : heldP ss = 0 := by unfold heldP; rw [if_pos hgo2]
        have HE := hide (And.intro e1 e2)
        clear e1 e2 hgo2
        go_wp2_with fail
        go_ret2
        exact ⟨by rw [(unhide HE).1, (unhide HE).2]; rfl, by rw [unhide HH]; exact unhide hb⟩
      · rw [if_neg hx0] at hgo2
        have e1 : heldE ss = 7 := by unfold heldE; rw [if_neg (by omega)]
        have e2 : heldP ss = i := by unfold heldP; rw [if_neg (by omega), hgo2]
        have HE := hide (And.intro e1 e2)
        have q0 : (x != 0) = true := by simpa using hx0
        clear e1 e2 hgo2
        go_wp2_with fail
        go_ret2
        exact ⟨by rw [(unhide HE).1, (unhide HE).2]; rfl, by rw [unhide HH]; exact unhide hb⟩
end Go.Proofs.Ytbpolcnjojlkjab

/- split's load. -/
namespace Go.Proofs.Ytbpolcnjojlkjab
open Go.ChangeShapes Go.WideShapes Go.ChangeAt Go.RowKit
open Split (byt St none8 SOk InCode heldM byt_bd byt_255)
set_option linter.unusedVariables false
set_option linter.unusedSimpArgs false

/-- How many instructions code has, the bytes at its end counted as one. -/
def cntM (c : ByteArray) : Nat := (c.size + 4) / 5
def okAt (c : ByteArray) (i : Nat) : Bool := decOk c i ((cntM c : Int) - 1 - i)
/-- The first that is none. -/
def badM (c : ByteArray) : Nat := (List.range (cntM c)).findIdx (fun i => !okAt c i)
def codeM (c : ByteArray) (k : Nat) : List St := (List.range k).map (decM c)
def loadE (c : ByteArray) : Int := if 600 < c.size then 1 else if badM c < cntM c then 6 else heldE (codeM c (cntM c))
def loadP (c : ByteArray) : Int := if 600 < c.size then 0 else if badM c < cntM c then badM c else heldP (codeM c (cntM c))

theorem codeM_len (c : ByteArray) (k : Nat) : (codeM c k).length = k := by simp [codeM]
theorem codeM_next (c : ByteArray) (k : Nat) : codeM c (k + 1) = codeM c k ++ [decM c k] := by simp [codeM, List.range_succ]
theorem codeM_get (c : ByteArray) (k i : Nat) (h : i < (codeM c k).length) : (codeM c k)[i] = decM c i := by simp [codeM]

theorem bad_at {c : ByteArray} {i : Nat} (hi : i < cntM c) (h : ∀ j, j < i → okAt c j = true) (hx : okAt c i = false) : badM c = i := by
  unfold badM
  rw [List.findIdx_eq (by simpa using hi)]
  refine ⟨by simp [hx], fun j hj => ?_⟩
  simp [h j hj]
theorem bad_not {c : ByteArray} (h : ∀ j, j < cntM c → okAt c j = true) : ¬ badM c < cntM c := by
  intro hb
  have := List.findIdx_getElem (p := fun i => !okAt c i) (xs := List.range (cntM c)) (w := by simpa [badM] using hb)
  simp at this
  rw [h _ (by simpa [badM] using hb)] at this
  simp at this

theorem held_zero {ss : List St} (h : heldE ss = 0) : heldP ss = 0 ∧ heldM ss = -1 := by
  unfold heldE at h
  unfold heldP
  by_cases hm : heldM ss = -1
  · rw [if_pos hm]; exact ⟨rfl, hm⟩
  · rw [if_neg hm] at h; simp at h

theorem bits_len (a : Int) : (bitsM a).length = 8 := by simp [bitsM]

/-- An instruction that holds is a step as it should be. -/
theorem dec_ok {k a b n left : Int} (h : decB k a b left = true) (ha : 0 ≤ a) (ha' : a ≤ 255) (hb : 0 ≤ b) (hb' : b ≤ 255) (hn : 0 ≤ n) (hn' : n ≤ 65535) : SOk (decS k a b n) ∧ (((decS k a b n).kind = 74 ∨ (decS k a b n).kind = 73) → (decS k a b n).leave ≤ left) := by
  have z8 : ∃ b : Nat, b < 8 ∧ (0 : Int) = b := ⟨0, by omega, rfl⟩
  have zl : ∃ l : Nat, l ≤ 1000 ∧ (0 : Int) = l := ⟨0, by omega, rfl⟩
  unfold decB at h
  unfold decS
  by_cases h80 : k = 80
  · rw [if_pos h80] at h ⊢
    simp at h
    exact ⟨⟨⟨a.toNat, by omega, by dsimp only; omega⟩, by simp, by simp, by simp, rfl, zl⟩, by simp⟩
  rw [if_neg h80] at h ⊢
  by_cases h67 : k = 67
  · rw [if_pos h67] at h ⊢
    simp at h
    exact ⟨⟨⟨a.toNat, by omega, by dsimp only; omega⟩, hn, by dsimp only; omega, by simp, rfl, zl⟩, by simp⟩
  rw [if_neg h67] at h ⊢
  by_cases h82 : k = 82
  · rw [if_pos h82] at h ⊢
    exact ⟨⟨z8, by simp, by simp, by simp, bits_len a, zl⟩, by simp⟩
  rw [if_neg h82] at h ⊢
  by_cases h72 : k = 72
  · rw [if_pos h72] at h ⊢
    simp at h
    exact ⟨⟨z8, ha, by dsimp only; omega, fun _ => by dsimp only; omega, rfl, zl⟩, by simp⟩
  rw [if_neg h72] at h ⊢
  by_cases h69 : k = 69
  · rw [if_pos h69] at h ⊢
    exact ⟨⟨z8, by simp, by simp, by simp, rfl, zl⟩, by simp⟩
  rw [if_neg h69] at h ⊢
  by_cases h74 : k = 74
  · rw [if_pos h74] at h ⊢
    simp at h
    exact ⟨⟨z8, by simp, by simp, by simp, rfl, ⟨a.toNat, by omega, by dsimp only; omega⟩⟩, fun _ => h⟩
  rw [if_neg h74] at h ⊢
  by_cases h73 : k = 73
  · rw [if_pos h73] at h ⊢
    simp at h
    exact ⟨⟨⟨a.toNat, by omega, by dsimp only; omega⟩, hn, by dsimp only; omega, by simp, rfl, ⟨b.toNat, by omega, by dsimp only; omega⟩⟩, fun _ => h.2⟩
  rw [if_neg h73] at h
  simp at h

theorem dec_at {c : ByteArray} {i : Nat} {left : Int} (h : decOk c i left = true) : SOk (decM c i) ∧ (((decM c i).kind = 74 ∨ (decM c i).kind = 73) → (decM c i).leave ≤ left) := by
  unfold decOk at h
  simp only [Bool.and_eq_true, decide_eq_true_eq] at h
  obtain ⟨hs, hb⟩ := h
  have a1 := byt_bd c (i * 5 + 1)
  have a2 := byt_255 (t := c) (i := i * 5 + 1) (by omega)
  have b1 := byt_bd c (i * 5 + 2)
  have b2 := byt_255 (t := c) (i := i * 5 + 2) (by omega)
  have c1 := byt_bd c (i * 5 + 3)
  have c2 := byt_255 (t := c) (i := i * 5 + 3) (by omega)
  have d1 := byt_bd c (i * 5 + 4)
  have d2 := byt_255 (t := c) (i := i * 5 + 4) (by omega)
  exact dec_ok hb a1.1 a2 b1.1 b2 (by unfold nOf; omega) (by unfold nOf; omega)

/-- Code of which all instructions hold. -/
theorem code_sok {c : ByteArray} (h : ∀ j, j < cntM c → okAt c j = true) : (∀ s ∈ codeM c (cntM c), SOk s) ∧ ∀ (i : Nat) (hi : i < (codeM c (cntM c)).length), InCode (codeM c (cntM c)).length i (codeM c (cntM c))[i] := by
  refine ⟨fun s hs => ?_, fun i hi => ?_⟩
  · simp only [codeM, List.mem_map, List.mem_range] at hs
    obtain ⟨i, hi, rfl⟩ := hs
    exact (dec_at (h i hi)).1
  · rw [codeM_get, codeM_len]
    rw [codeM_len] at hi
    intro hk
    have := (dec_at (h i hi)).2 hk
    omega

theorem stC_arr (s : St) : (stC s).toArray = #[.int .u8 s.kind, .int .i64 s.bucket, .int .i64 s.amount, .bool (s.among.getD 0 false), .bool (s.among.getD 1 false), .bool (s.among.getD 2 false), .bool (s.among.getD 3 false), .bool (s.among.getD 4 false), .bool (s.among.getD 5 false), .bool (s.among.getD 6 false), .bool (s.among.getD 7 false), .int .i64 s.leave] := rfl

def LoadPost (c : ByteArray) (w : World) (e : Ending) (w' : World) : Prop :=
  ∃ vs, e = .returned (.tuple #[vs, .int .i64 (loadE c), .int .i64 (loadP c)]) ∧ (loadE c = 0 → w'.ownsRow w.heap.size 63 12 vs (cntM c) (flat (codeM c (cntM c)))) ∧ (loadE c ≠ 0 → vs = .slice none 0 0) ∧ Below w.heap.size w w'

set_option maxRecDepth 100000 in
set_option maxHeartbeats 4000000 in
theorem load_any (c : ByteArray) (w : World) (hs : c.size ≤ 1000000000000000) : Calls Try.prog 26 #[.string c] w (LoadPost c w) := by
  obtain ⟨i0, hi, hz0, hz1, hz2⟩ := info_parts infoStep
  by_cases hlong : 600 < c.size
  · have e1 : loadE c = 1 := by unfold loadE; rw [if_pos hlong]
    have e2 : loadP c = 0 := by unfold loadP; rw [if_pos hlong]
    have HE := hide (And.intro e1 e2)
    clear e1 e2
    go_enter Try.func26, Try.ntmps26
    go_wp2_with fail
    go_ret3
    unfold LoadPost
    rw [(unhide HE).1, (unhide HE).2]
    exact ⟨.slice none 0 0, rfl, by simp, fun _ => rfl, Below.refl _ _⟩
  · obtain ⟨n, hn⟩ : ∃ n, cntM c = n := ⟨_, rfl⟩
    have hn2 : ((c.size : Int) + 5 - 1).tdiv 5 = n := by
      rw [Int.tdiv_eq_ediv_of_nonneg (by omega)]
      unfold cntM at hn
      omega
    have hn200 : n ≤ 200 := by unfold cntM at hn; omega
    have HN := hide hn
    have hsz : c.size ≤ 600 := by omega
    clear hn
    go_enter Try.func26, Try.ntmps26
    go_wp2_with fail
    go_loopw [6, 7] (fun vv ii wr => ∃ k : Nat, k ≤ n ∧ ii = .int .i64 k ∧ Hid (wr.ownsRow w.heap.size 63 12 vv k (flat (codeM c k))) ∧ Hid (∀ j, j < k → okAt c j = true) ∧ Hid (Below w.heap.size w wr)) (fun _ ii _ => n - (intOf ii).toNat)
    case atStart => exact ⟨0, by omega, rfl, World.ownsRow_nil _ _ _ _, fun j hj => by omega, Below.refl _ _⟩
    case round =>
      obtain ⟨k, hk, rfl, ho, hall, hb⟩ := hrel
      obtain ⟨va, vcap, rfl, hvc, _⟩ := own_slice (unhide ho)
      have hlk : (codeM c k).length = k := codeM_len c k
      by_cases hlt : k < n
      · have hoke : okAt c k = decOk c k ((n : Int) - 1 - k) := by unfold okAt; rw [unhide HN]
        cases hd : decOk c k ((n : Int) - 1 - k)
        · have hbad : badM c = k := bad_at (by rw [unhide HN]; exact hlt) (unhide hall) (hoke.trans hd)
          have e1 : loadE c = 6 := by
            unfold loadE
            rw [if_neg (by omega), if_pos (by rw [hbad, unhide HN]; exact hlt)]
          have e2 : loadP c = k := by
            unfold loadP
            rw [if_neg (by omega), if_pos (by rw [hbad, unhide HN]; exact hlt), hbad]
          have HE := hide (And.intro e1 e2)
          have HD := hide hd
          clear e1 e2 hbad hoke hd
          go_wp2_with fail
          refine (decode_any c k ((n : Int) - 1 - k) _ hsz (by omega) (by omega) (by omega)).mono ?_
          rintro e w2 ⟨s, rfl, _, hb2⟩
          rw [unhide HD]
          have B2 := hide (below_step (unhide hb) hb2)
          clear hb2
          rw [stC_arr]
          go_wp2_with fail
          go_ret3
          unfold LoadPost
          rw [(unhide HE).1, (unhide HE).2]
          exact ⟨.slice none 0 0, rfl, by simp, fun _ => rfl, below_step (unhide B2) ((Below.refl _ _).alloc (Nat.le_refl _) _)⟩
        · have HD := hide hd
          have HOK := hide (hoke.trans hd)
          clear hoke hd
          go_wp2_with fail
          refine (decode_any c k ((n : Int) - 1 - k) _ hsz (by omega) (by omega) (by omega)).mono ?_
          rintro e w2 ⟨s, rfl, hse, hb2⟩
          have hse := hse (unhide HD)
          rw [unhide HD]
          have B2 := hide (below_step (unhide hb) hb2)
          have O2 : Hid (w2.ownsRow w.heap.size 63 12 (.slice va k vcap) k (flat (codeM c k))) := by
            refine ⟨(unhide ho).1, ?_⟩
            rcases (unhide ho).2 with ⟨q, q'⟩ | ⟨g', cap', cur, q, q1, q2, q3⟩
            · exact .inl ⟨q, q'⟩
            · exact .inr ⟨g', cap', cur, q, q1, by rw [hb2.block g' (cell_lt q2)]; exact q2, q3⟩
          have HSE := hide hse
          clear hb2 hse ho
          rw [stC_arr]
          have hBs : w.heap.size ≤ w2.heap.size := (unhide B2).size
          go_wp2_with (at_builtin; refine wpList_append_own _ rfl (.tmp 38) (.tmp 40) 39 rfl w.heap.size 63 i0 _ 12 40 Try.underlying39 hi hz0 hz1 hz2 rfl (by decide) _ k (flat (codeM c k)) rfl (by exact World.ownsRow.alloc (World.ownsRow.alloc (unhide O2) _) _) ⟨w2.heap.size + 1, 0, none⟩ 1 1 (stC s) rfl rfl (news_cells (alloc_at (by simp) rfl)) (stC_one _) (by unfold maxLen; omega) (by omega) (by simp; omega) ?_; intro v' w3 hown hgrow _)
          obtain ⟨a2, cap2, rfl, hle2, _⟩ := own_slice hown
          go_roundw
          case rel =>
            refine ⟨k + 1, by omega, by go_num, ?_, ?_, ?_⟩
            · rw [codeM_next, flat_snoc, ← unhide HSE]
              exact hown
            · intro j hj
              by_cases hjk : j < k
              · exact unhide hall j hjk
              · have : j = k := by omega
                rw [this]
                exact unhide HOK
            · exact (((unhide B2).alloc hBs _).alloc (by simp; omega) _).trans (below_of_grown hgrow (by simp; omega) (fun q hq => by have := (unhide O2).lt q hq; omega))
          case measure => simp [intOf]; omega
      · have hkn : k = n := by omega
        subst hkn
        have hnb : ¬ badM c < cntM c := bad_not (by rw [unhide HN]; exact unhide hall)
        have hco := code_sok (c := c) (by rw [unhide HN]; exact unhide hall)
        rw [unhide HN] at hco hnb
        have e1 : loadE c = heldE (codeM c k) := by
          unfold loadE
          rw [if_neg (by omega), if_neg (by rw [unhide HN]; exact hnb), unhide HN]
        have e2 : loadP c = heldP (codeM c k) := by
          unfold loadP
          rw [if_neg (by omega), if_neg (by rw [unhide HN]; exact hnb), unhide HN]
        have HE := hide (And.intro e1 e2)
        have HCO := hide hco
        have HOW := hide (unhide ho)
        rw [← hlk] at HOW
        clear e1 e2 hco hnb
        go_wp2_with fail
        have hch := checkHeld_any (codeM c k) w.heap.size va vcap wr (by rw [hlk]; rw [hlk] at HOW; exact unhide HOW) (unhide HCO).1 (unhide HCO).2 (by rw [hlk]; exact hn200)
        rw [hlk] at hch
        refine hch.mono ?_
        rintro e w2 ⟨rfl, hb2⟩
        have B2 := hide (below_step (unhide hb) hb2)
        have O2 : Hid (w2.ownsRow w.heap.size 63 12 (.slice va k vcap) k (flat (codeM c k))) := by
          refine ⟨(unhide ho).1, ?_⟩
          rcases (unhide ho).2 with ⟨q, q'⟩ | ⟨g', cap', cur, q, q1, q2, q3⟩
          · exact .inl ⟨q, q'⟩
          · exact .inr ⟨g', cap', cur, q, q1, by rw [hb2.block g' (cell_lt q2)]; exact q2, q3⟩
        clear hb2 hch HOW ho
        have hz := @held_zero (codeM c k)
        obtain ⟨he, hhe⟩ : ∃ x, heldE (codeM c k) = x := ⟨_, rfl⟩
        obtain ⟨hp, hhp⟩ : ∃ x, heldP (codeM c k) = x := ⟨_, rfl⟩
        have hE := unhide HE
        rw [hhe, hhp] at hE ⊢
        rw [hhe, hhp] at hz
        have HE2 := hide hE
        have HZ := hide hz
        clear hhe hhp hE HE HCO hz
        by_cases h0 : he = 0
        · subst h0
          go_wp2_with fail
          go_ret3
          unfold LoadPost
          rw [(unhide HE2).1, (unhide HE2).2, (unhide HZ (by first | rfl | trivial)).1, unhide HN]
          exact ⟨.slice va k vcap, rfl, fun _ => unhide O2, fun h => absurd rfl h, unhide B2⟩
        · have q0 : (he != 0) = true := by simpa using h0
          have H0 := hide h0
          clear h0
          go_wp2_with fail
          go_ret3
          unfold LoadPost
          rw [(unhide HE2).1, (unhide HE2).2]
          exact ⟨.slice none 0 0, rfl, fun h => absurd h (unhide H0), fun _ => rfl, unhide B2⟩
end Go.Proofs.Ytbpolcnjojlkjab
