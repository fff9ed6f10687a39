/- RefHeld -/
import Derived.Test.YtbpolcnjojlkjabPack8
import Derived.Test.YtbpolcnjojlkjabPack13

/- splitref's held and Verify, of code that is admitted. -/
namespace Go.Proofs.Ytbpolcnjojlkjab
open Go.ChangeShapes Go.WideShapes Go.ChangeAt Go.RowKit
open Split (byt byt_lt byt_bd byt_255 St none8 joinM leadM growM onA onM heldGo heldM hInit InCode SOk)
set_option linter.unusedVariables false
set_option linter.unusedSimpArgs false

/-- Code of n whole instructions that all hold, and whose heights fit. -/
structure Adm (c : ByteArray) (n : Nat) : Prop where
  size : c.size = n * 5
  n120 : n ≤ 120
  ok : ∀ i, i < n → decOk c i ((n : Int) - 1 - i) = true
  held : heldM (codeM c n) = -1

theorem Adm.cnt {c : ByteArray} {n : Nat} (h : Adm c n) : cntM c = n := by
  have := h.size
  unfold cntM
  omega
theorem Adm.sok {c : ByteArray} {n : Nat} (h : Adm c n) : (∀ s ∈ codeM c n, SOk s) ∧ ∀ (i : Nat) (hi : i < (codeM c n).length), InCode (codeM c n).length i (codeM c n)[i] := by
  have := code_sok (c := c) (by
    intro j hj
    unfold okAt
    rw [h.cnt] at hj ⊢
    exact h.ok j hj)
  rw [h.cnt] at this
  exact this

theorem lead_twice {h : List Int} {p : Nat} {x : Int} (hp : p < h.length) (hx : 0 ≤ x) : leadM (leadM h p x) p x = leadM h p x := by
  have hk := Split.lead_get (h := h) x hp p
  rw [if_pos rfl] at hk
  have hj : joinM (joinM (h.getD p 0) x) x = joinM (h.getD p 0) x := by
    rcases Split.joinM_or (h.getD p 0) x with e | e
    · rw [e]; unfold joinM; rw [if_pos (.inr rfl)]
    · rw [e]; unfold joinM; rw [if_neg (by omega)]
  show (leadM h p x).set p (joinM ((leadM h p x).getD p 0) x) = _
  rw [hk, hj]
  unfold leadM
  rw [List.set_set]

/-- Both ways of an instruction. -/
theorem both_ways {h : List Int} {n i : Nat} {k a b m x : Int} (hl : h.length = n + 1) (hi : i < n) (ha : 0 ≤ a) (hb : 0 ≤ b) (hx : 0 ≤ x) (hin : InCode n i (decS k a b m)) (hA : k = 74 → i + 1 + a.toNat ≤ n) :
    leadM (leadM h (wayA k a i).toNat x) (wayB k a b i).toNat x = onM h i (decS k a b m) x := by
  have e1 : ((i : Int) + 1 + a).toNat = i + 1 + a.toNat := by omega
  have e2 : ((i : Int) + 1 + b).toNat = i + 1 + b.toNat := by omega
  have e3 : ((i : Int) + 1).toNat = i + 1 := by omega
  unfold wayA wayB onM onA decS
  by_cases h80 : k = 80
  · subst h80; simp [e3]; exact lead_twice (by omega) hx
  by_cases h67 : k = 67
  · subst h67; simp [e3]; exact lead_twice (by omega) hx
  by_cases h82 : k = 82
  · subst h82; simp [e3]; exact lead_twice (by omega) hx
  by_cases h72 : k = 72
  · subst h72; simp [e3]; exact lead_twice (by omega) hx
  by_cases h69 : k = 69
  · subst h69; simp [e3]; exact lead_twice (by omega) hx
  by_cases h74 : k = 74
  · subst h74; simp [e1]; exact lead_twice (by have := hA rfl; omega) hx
  by_cases h73 : k = 73
  · subst h73; simp [e2, e3]
  · simp [h80, h67, h82, h72, h69, h74, h73, e3]; exact lead_twice (by omega) hx

theorem grow_dec (k a b m : Int) : growM (decS k a b m).kind = if k = 72 then 1 else if k = 69 then -1 else 0 := by
  unfold decS
  by_cases h72 : k = 72
  · subst h72; simp [growM]
  by_cases h69 : k = 69
  · subst h69; simp [growM]
  rw [if_neg h72, if_neg h69]
  split
  · rfl
  split
  · rfl
  split
  · rfl
  split
  · rfl
  split
  · rfl
  · rfl

/-- One step of the look, where it comes out well. -/
theorem go_well {ss : List St} {f i : Nat} {h : List Int} {s : St} (hs : ss[i]? = some s) (hg : heldGo ss (f + 1) i h = -1) :
    (h.getD i 0 = -1 ∧ heldGo ss f (i + 1) h = -1) ∨ (h.getD i 0 ≠ -1 ∧ h.getD i 0 ≠ -2 ∧ 0 ≤ h.getD i 0 + growM s.kind ∧ h.getD i 0 + growM s.kind ≤ 5 ∧ heldGo ss f (i + 1) (onM h i s (h.getD i 0 + growM s.kind)) = -1) := by
  simp only [heldGo, hs] at hg
  by_cases h1 : h.getD i 0 = -1
  · rw [if_pos h1] at hg
    exact .inl ⟨h1, hg⟩
  · rw [if_neg h1] at hg
    by_cases h2 : h.getD i 0 = -2 ∨ h.getD i 0 + growM s.kind < 0 ∨ 5 < h.getD i 0 + growM s.kind
    · rw [if_pos h2] at hg
      omega
    · rw [if_neg h2] at hg
      exact .inr ⟨h1, fun e => h2 (.inl e), by omega, by omega, hg⟩

theorem own_step {w w' : World} {base tag k n : Nat} {v : Value} {L : List Value} (h : w.ownsRow base tag k v n L) (hb : Below w.heap.size w w') : w'.ownsRow base tag k v n L := by
  refine ⟨h.1, ?_⟩
  rcases h.2 with ⟨q, q'⟩ | ⟨g', cap', cur, q, q1, q2, q3⟩
  · exact .inl ⟨q, q'⟩
  · exact .inr ⟨g', cap', cur, q, q1, by rw [hb.block g' (cell_lt q2)]; exact q2, q3⟩
theorem own_int {w : World} {base G n cap : Nat} {h : List Int} (ho : w.ownsRow base 3 1 (.slice (some ⟨G, 0, none⟩) n cap) n (h.map (Value.int .i64))) (j : Nat) (hj : j < n) : w.cell? ⟨G, j, none⟩ = some (.int .i64 (h.getD j 0)) := by
  have hl : h.length = n := by simpa using ho.1
  rw [ho.cellAt j (by omega), List.getElem?_map, List.getElem?_eq_getElem (by omega)]
  simp [List.getD_eq_getElem?_getD, List.getElem?_eq_getElem (show j < h.length by omega)]
theorem own_lead {w : World} {base G n cap : Nat} {h : List Int} (ho : w.ownsRow base 3 1 (.slice (some ⟨G, 0, none⟩) n cap) n (h.map (Value.int .i64))) (p : Nat) (x v : Int) (hv : joinM (h.getD p 0) x = v) : (w.setCell ⟨G, p, none⟩ (.int .i64 v)).ownsRow base 3 1 (.slice (some ⟨G, 0, none⟩) n cap) n ((leadM h p x).map (Value.int .i64)) := by
  have := (ho.stored p (.int .i64 v)).1
  rw [← List.map_set, ← hv] at this
  rw [← hv]
  exact this

def fillH (n k : Nat) : List Int := (List.range (n + 1)).map fun j => if 1 ≤ j ∧ j < k then -1 else 0
theorem fillH_len (n k : Nat) : (fillH n k).length = n + 1 := by simp [fillH]
theorem fillH_one (n : Nat) : (fillH n 1).map (Value.int .i64) = List.replicate (n + 1) (.int .i64 0) := by
  apply List.ext_getElem?
  intro j
  simp only [fillH, List.map_map, List.getElem?_map, List.getElem?_replicate]
  by_cases h : j < n + 1
  · rw [List.getElem?_range h, if_pos h]
    simp only [Option.map_some, Function.comp]
    rw [if_neg (by omega)]
  · rw [List.getElem?_eq_none (by simp; omega), if_neg h]; rfl
theorem fillH_all (n : Nat) : fillH n (n + 1) = hInit n := by
  apply List.ext_getElem (by simp [fillH, hInit])
  intro j h1 h2
  simp only [fillH, List.getElem_map, List.getElem_range, hInit]
  cases j with
  | zero => simp
  | succ j =>
    rw [fillH_len] at h1
    rw [if_pos (by omega), List.getElem_cons_succ, List.getElem_replicate]
theorem fillH_set (n k : Nat) (h1 : 1 ≤ k) (hk : k ≤ n) : (fillH n k).set k (-1) = fillH n (k + 1) := by
  apply List.ext_getElem (by simp [fillH])
  intro j a b
  rw [List.getElem_set]
  simp only [fillH, List.getElem_map, List.getElem_range]
  by_cases e : k = j
  · subst e; rw [if_pos rfl, if_pos (by omega)]
  · rw [if_neg e]
    by_cases h2 : 1 ≤ j ∧ j < k
    · rw [if_pos h2, if_pos (by omega)]
    · rw [if_neg h2, if_neg (by omega)]

set_option maxRecDepth 100000 in
set_option maxHeartbeats 8000000 in
theorem held_adm (c : ByteArray) (n : Nat) (w : World) (hA : Adm c n) : Calls Try.prog 22 #[.string c] w fun e w' => e = .returned (.int .i64 (-1)) ∧ Below w.heap.size w w' := by
  obtain ⟨i0, hi, hz0, hz1, hz2⟩ := info_parts infoInt
  have hn := hA.n120
  have hs := hA.size
  have hdiv : (c.size : Int).tdiv 5 = n := by
    rw [Int.tdiv_eq_ediv_of_nonneg (by omega)]
    omega
  have HA := hide hA
  have HS := hide hs
  have hc600 : c.size ≤ 600 := by omega
  clear hA hs
  go_enter Try.func22, Try.ntmps22
  go_wp2_with (at_make; refine wpList_make_full _ rfl _ _ 22 rfl w.heap.size 3 i0 (.int .i64 0) 1 Try.underlying22 hi hz0 hz1 .i64 .i64 _ _ (n + 1) rfl rfl rfl rfl (by rw [hz2]; omega) (by unfold maxLen; omega) (Nat.le_refl _) ?_; intro w1 hown hgrow)
  have hw1 : Hid (w1.ownsRow w.heap.size 3 1 (.slice (some ⟨w.heap.size, 0, none⟩) (n + 1) (n + 1)) (n + 1) ((fillH n 1).map (Value.int .i64))) := by
    rw [fillH_one]
    simpa [toList_madeCells_one, Value.cells, Hid] using hown
  have hb1 : Hid (Below w.heap.size w w1) := (Below.refl _ _).grown hgrow (Nat.le_refl _) (by simp)
  clear hown hgrow
  obtain ⟨G, hG⟩ : ∃ G, w.heap.size = G := ⟨_, rfl⟩
  rw [hG] at hw1 hb1 ⊢
  have HG := hide hG
  clear hG
  go_loopw [5] (fun ii wr => ∃ k : Nat, 1 ≤ k ∧ k ≤ n + 1 ∧ ii = .int .i64 k ∧ Hid (wr.ownsRow G 3 1 (.slice (some ⟨G, 0, none⟩) (n + 1) (n + 1)) (n + 1) ((fillH n k).map (Value.int .i64))) ∧ Hid (Below G w wr)) (fun ii _ => n + 1 - (intOf ii).toNat)
  case atStart => exact ⟨1, by omega, by omega, rfl, hw1, hb1⟩
  case round =>
    obtain ⟨k, hk1, hk, rfl, ho, hb⟩ := hrel
    by_cases hlt : k ≤ n
    · have hold : ∃ u, wr.cell? ⟨G, k, none⟩ = some u := by
        rw [(unhide ho).cellAt k (by omega)]
        exact ⟨_, List.getElem?_eq_getElem (by simp [fillH_len]; omega)⟩
      obtain ⟨u, hold⟩ := hold
      have hfr := (unhide ho).frozenAt k
      have R2 : Hid ((wr.setCell ⟨G, k, none⟩ (.int .i64 (-1))).ownsRow G 3 1 (.slice (some ⟨G, 0, none⟩) (n + 1) (n + 1)) (n + 1) ((fillH n (k + 1)).map (Value.int .i64))) := by
        have := ((unhide ho).stored k (.int .i64 (-1))).1
        rw [← List.map_set, fillH_set n k hk1 hlt] at this
        exact this
      have R3 : Hid (Below G w (wr.setCell ⟨G, k, none⟩ (.int .i64 (-1)))) := (unhide hb).setCell (p := ⟨G, k, none⟩) (Nat.le_refl _) _
      go_wp2
      go_roundw
      case rel => exact ⟨k + 1, by omega, by omega, by go_num, R2, R3⟩
      case measure => simp [intOf]; omega
    · have hkn : k = n + 1 := by omega
      subst hkn
      rw [fillH_all] at ho
      clear hw1 hb1 hlt
      go_wp2_with fail
      generalize Value.int IntKind.i64 ((n + 1 : Nat) : Int) = v1
      generalize Value.bool (decide ((n : Int) + 1 ≤ n)) = v2
      have hM := (unhide HA).held
      have hcl : (codeM c n).length = n := codeM_len c n
      obtain ⟨ss, hss⟩ : ∃ ss, codeM c n = ss := ⟨_, rfl⟩
      have hget : ∀ i, i < n → ss[i]? = some (decM c i) := fun i hi => by
        rw [← hss, List.getElem?_eq_getElem (by rw [hcl]; exact hi), codeM_get]
      have hic : ∀ i, i < n → InCode n i (decM c i) := fun i hi => by
        have := (unhide HA).sok.2 i (by rw [hcl]; exact hi)
        rw [codeM_get, codeM_len] at this
        exact this
      unfold heldM at hM
      rw [hcl, hss] at hM
      have HM := hide hM
      have HGET := hide hget
      have HIC := hide hic
      have HO := ho
      have HB := hb
      clear hM hget hic hss hcl ho hb
      go_loopw [6, 7, 8, 9, 10] (fun ii _ _ _ _ wr => ∃ (i : Nat) (h : List Int), i ≤ n ∧ ii = .int .i64 i ∧ h.length = n + 1 ∧ Hid (∀ j, -2 ≤ h.getD j 0 ∧ h.getD j 0 ≤ 5) ∧ Hid (wr.ownsRow G 3 1 (.slice (some ⟨G, 0, none⟩) (n + 1) (n + 1)) (n + 1) (h.map (Value.int .i64))) ∧ Hid (heldGo ss (n - i) i h = -1) ∧ Hid (Below G w wr)) (fun ii _ _ _ _ _ => n - (intOf ii).toNat)
      case atStart => exact ⟨0, hInit n, by omega, rfl, by simp [hInit], init_bd n, HO, HM, HB⟩
      case round =>
        obtain ⟨i, h, hin, rfl, hhl, hbd, ho, hgo, hb⟩ := hrel
        clear HO HB
        have hGlt : G < wr.heap.size := ((unhide ho).lt G rfl).2
        have cx : ∀ j, j < n + 1 → wr.cell? ⟨G, j, none⟩ = some (.int .i64 (h.getD j 0)) := by
          intro j hj
          rw [(unhide ho).cellAt j (by omega), List.getElem?_map, List.getElem?_eq_getElem (by omega)]
          simp [List.getD_eq_getElem?_getD, List.getElem?_eq_getElem (show j < h.length by omega)]
        have CX := hide cx
        clear cx
        by_cases hlti : i < n
        · have ci := unhide CX i (by omega)
          have hb2 := unhide hbd i
          obtain ⟨f, hf⟩ : ∃ f, n - i = f + 1 := ⟨n - i - 1, by omega⟩
          have hf2 : n - (i + 1) = f := by omega
          have HF := hide hf2
          have hw := go_well (unhide HGET i hlti) (by rw [← hf]; exact unhide hgo)
          have HWELL := hide hw
          obtain ⟨x, hx⟩ : ∃ x, h.getD i 0 = x := ⟨_, rfl⟩
          rw [hx] at HWELL ci hb2
          have HX := hide hx
          clear hw hf hf2 hx hgo
          by_cases hx1 : x = -1
          · subst hx1
            have hgo2 : Hid (heldGo ss f (i + 1) h = -1) := by
              rcases unhide HWELL with q | q
              · exact q.2
              · exact absurd rfl q.1
            clear HWELL
            go_wp2_with fail
            go_roundw
            case rel => exact ⟨i + 1, h, by omega, by go_num, hhl, hbd, ho, by rw [unhide HF]; exact hgo2, hb⟩
            case measure => simp [intOf]; omega
          · have hwell2 : x ≠ -2 ∧ 0 ≤ x + growM (decM c i).kind ∧ x + growM (decM c i).kind ≤ 5 ∧ heldGo ss f (i + 1) (onM h i (decM c i) (x + growM (decM c i).kind)) = -1 := by
              rcases unhide HWELL with q | q
              · exact absurd q.1 hx1
              · exact q.2
            obtain ⟨hx2, hy0, hy5, hgo2⟩ := hwell2
            have hx0 : 0 ≤ x := by omega
            have q2 : (x == -2) = false := beq_eq_false_iff_ne.2 hx2
            have hsz : i * 5 + 5 ≤ c.size := by have := unhide HS; omega
            have hat := at_any c i
            have hat := fun w' => hat w' hc600 hsz
            have hok := (unhide HA).ok i hlti
            have hgk := grow_dec (kOf c i) (aOf c i) (bOf c i) (nOf c i)
            have hinc := unhide HIC i hlti
            have a1 := byt_bd c (i * 5 + 1)
            have a2 := byt_255 (t := c) (i := i * 5 + 1) (by omega)
            have b1 := byt_bd c (i * 5 + 2)
            have b2 := byt_255 (t := c) (i := i * 5 + 2) (by omega)
            have hdec : decM c i = decS (kOf c i) (aOf c i) (bOf c i) (nOf c i) := rfl
            rw [hdec] at hy0 hy5 hgo2 hinc
            rw [hgk] at hy0 hy5 hgo2
            have hA74 : kOf c i = 74 → i + 1 + (aOf c i).toNat ≤ n := by
              intro hk
              unfold InCode at hinc
              have := hinc (by rw [hk]; simp [decS])
              rw [hk] at this
              simpa [decS] using this
            have hB73 : kOf c i = 73 → i + 1 + (bOf c i).toNat ≤ n := by
              intro hk
              unfold InCode at hinc
              have := hinc (by rw [hk]; simp [decS])
              rw [hk] at this
              simpa [decS] using this
            change 0 ≤ aOf c i ∧ _ at a1
            change aOf c i ≤ 255 at a2
            change 0 ≤ bOf c i ∧ _ at b1
            change bOf c i ≤ 255 at b2
            generalize kOf c i = k at *
            generalize aOf c i = a at *
            generalize bOf c i = b at *
            generalize nOf c i = m at *
            have hwA : 0 ≤ wayA k a i ∧ wayA k a i ≤ n := by
              unfold wayA
              split
              · rename_i hk; have := hA74 hk; omega
              · omega
            have hwB : 0 ≤ wayB k a b i ∧ wayB k a b i ≤ n := by
              unfold wayB
              split
              · rename_i hk; have := hA74 hk; omega
              split
              · rename_i hk; have := hB73 hk; omega
              · omega
            obtain ⟨y, hy⟩ : ∃ y, x + (if k = 72 then 1 else if k = 69 then -1 else 0) = y := ⟨_, rfl⟩
            rw [hy] at hy0 hy5 hgo2
            have hbw := both_ways (h := h) (n := n) (i := i) (k := k) (a := a) (b := b) (m := m) (x := y) hhl hlti a1.1 b1.1 hy0 hinc hA74
            rw [← hbw] at hgo2
            have hways := fun w' => ways_any k a b m i w' (by omega) a1.1 a2 b1.1 b2
            obtain ⟨pa, hpa⟩ : ∃ p : Nat, (wayA k a i).toNat = p := ⟨_, rfl⟩
            obtain ⟨pb, hpb⟩ : ∃ p : Nat, (wayB k a b i).toNat = p := ⟨_, rfl⟩
            have hpa' : wayA k a i = pa := by omega
            have hpb' : wayB k a b i = pb := by omega
            rw [hpa', hpb'] at hways
            rw [hpa, hpb] at hgo2
            have hpan : pa < n + 1 := by omega
            have hpbn : pb < n + 1 := by omega
            have HAT := hide hat
            have HWAY := hide hways
            have HGO2 := hide hgo2
            have HY := hide hy
            clear hat hways hgo2 hbw hA74 hB73 hinc hgk hdec hok hpa hpb hpa' hpb' hwA hwB HWELL hy
            by_cases h72 : k = 72
            · subst h72
              have hye : y = x + 1 := by have := unhide HY; simp at this; omega
              subst hye
              go_wp2_with fail
              refine (unhide HAT _).mono ?_
              rintro e w2 ⟨rfl, hb2⟩
              have O2 := hide (own_step (unhide ho) hb2)
              have B2 := hide ((unhide hb).trans (hb2.mono (Nat.le_of_lt hGlt)))
              have hG2 : G < w2.heap.size := ((unhide O2).lt G rfl).2
              have ci2 := own_int (unhide O2) i (by omega)
              rw [unhide HX] at ci2
              clear hb2 ci
              go_wp2_with fail
              refine (unhide HWAY _).mono ?_
              rintro e w3 ⟨rfl, hb3⟩
              have hbx : Below w2.heap.size w2 (w2.alloc (.cells #[.int .u8 72, .int .i64 a, .int .i64 b, .int .i64 m] 46)) := (Below.refl _ _).alloc (Nat.le_refl _) _
              have O3 := hide (own_step (own_step (unhide O2) hbx) hb3)
              have B3 := hide ((unhide B2).trans ((below_step hbx hb3).mono (Nat.le_of_lt hG2)))
              have hG3 : G < w3.heap.size := ((unhide O3).lt G rfl).2
              have cpa := own_int (unhide O3) pa hpan
              have cpb := own_int (unhide O3) pb hpbn
              have fpa := (unhide O3).frozenAt pa
              have fpb := (unhide O3).frozenAt pb
              have hlg := Split.lead_get (h := h) (p := pa) (x + 1) (by omega) pb
              obtain ⟨za, hza⟩ : ∃ z, h.getD pa 0 = z := ⟨_, rfl⟩
              obtain ⟨zb, hzb⟩ : ∃ z, h.getD pb 0 = z := ⟨_, rfl⟩
              obtain ⟨va, hva⟩ : ∃ z, joinM za (x + 1) = z := ⟨_, rfl⟩
              rw [hza] at cpa
              rw [hzb] at cpb
              rw [hza, hzb, hva] at hlg
              have HJ1 : Hid (∀ w', Calls Try.prog 32 #[.int .i64 za, .int .i64 (x + 1)] w' fun e w'' => e = .returned (.int .i64 va) ∧ w'' = w') := by
                intro w'
                have := join_any za (x + 1) w'
                rw [hva] at this
                exact this
              have O4 := hide (own_lead (unhide O3) pa (x + 1) va (by rw [hza]; exact hva))
              clear hbx hb3 ci2 hza hzb hva O2 B2
              by_cases hpp : pa = pb
              · subst hpp
                rw [if_pos rfl] at hlg
                obtain ⟨vb, hvb⟩ : ∃ z, joinM va (x + 1) = z := ⟨_, rfl⟩
                have HJ2 : Hid (∀ w', Calls Try.prog 32 #[.int .i64 va, .int .i64 (x + 1)] w' fun e w'' => e = .returned (.int .i64 vb) ∧ w'' = w') := by
                  intro w'
                  have := join_any va (x + 1) w'
                  rw [hvb] at this
                  exact this
                have O5 := hide (own_lead (unhide O4) pa (x + 1) vb (by rw [hlg]; exact hvb))
                clear hlg hvb O4 cpb fpb
                go_wp2_with fail
                refine (unhide HJ1 _).mono ?_
                rintro e w4 ⟨rfl, hw4⟩
                have hw4 := hw4.symm
                subst hw4
                go_wp2_with fail
                refine (unhide HJ2 _).mono ?_
                rintro e w5 ⟨rfl, hw5⟩
                rw [hw5]
                clear hw5
                go_wp2_with fail
                go_roundw
                case rel => exact ⟨i + 1, _, by omega, by go_num, by rw [Split.lead_len, Split.lead_len]; exact hhl, lead_bd (by rw [Split.lead_len]; omega) hy0 hy5 (lead_bd (by omega) hy0 hy5 (unhide hbd)), O5, by rw [unhide HF]; exact HGO2, (((unhide B3).setCell (p := ⟨G, pa, none⟩) (Nat.le_refl _) _).setCell (p := ⟨G, pa, none⟩) (Nat.le_refl _) _)⟩
                case measure => simp [intOf]; omega
              · rw [if_neg hpp] at hlg
                obtain ⟨vb, hvb⟩ : ∃ z, joinM zb (x + 1) = z := ⟨_, rfl⟩
                have HJ2 : Hid (∀ w', Calls Try.prog 32 #[.int .i64 zb, .int .i64 (x + 1)] w' fun e w'' => e = .returned (.int .i64 vb) ∧ w'' = w') := by
                  intro w'
                  have := join_any zb (x + 1) w'
                  rw [hvb] at this
                  exact this
                have O5 := hide (own_lead (unhide O4) pb (x + 1) vb (by rw [hlg]; exact hvb))
                have hpp' : ¬ pb = pa := fun e => hpp e.symm
                clear hlg hvb O4
                go_wp2_with fail
                refine (unhide HJ1 _).mono ?_
                rintro e w4 ⟨rfl, hw4⟩
                have hw4 := hw4.symm
                subst hw4
                go_wp2_with fail
                refine (unhide HJ2 _).mono ?_
                rintro e w5 ⟨rfl, hw5⟩
                rw [hw5]
                clear hw5
                go_wp2_with fail
                go_roundw
                case rel => exact ⟨i + 1, _, by omega, by go_num, by rw [Split.lead_len, Split.lead_len]; exact hhl, lead_bd (by rw [Split.lead_len]; omega) hy0 hy5 (lead_bd (by omega) hy0 hy5 (unhide hbd)), O5, by rw [unhide HF]; exact HGO2, (((unhide B3).setCell (p := ⟨G, pa, none⟩) (Nat.le_refl _) _).setCell (p := ⟨G, pb, none⟩) (Nat.le_refl _) _)⟩
                case measure => simp [intOf]; omega
            by_cases h69 : k = 69
            · subst h69
              have hye : y = x - 1 := by have := unhide HY; simp at this; omega
              subst hye
              go_wp2_with fail
              refine (unhide HAT _).mono ?_
              rintro e w2 ⟨rfl, hb2⟩
              have O2 := hide (own_step (unhide ho) hb2)
              have B2 := hide ((unhide hb).trans (hb2.mono (Nat.le_of_lt hGlt)))
              have hG2 : G < w2.heap.size := ((unhide O2).lt G rfl).2
              have ci2 := own_int (unhide O2) i (by omega)
              rw [unhide HX] at ci2
              clear hb2 ci
              go_wp2_with fail
              refine (unhide HWAY _).mono ?_
              rintro e w3 ⟨rfl, hb3⟩
              have hbx : Below w2.heap.size w2 (w2.alloc (.cells #[.int .u8 69, .int .i64 a, .int .i64 b, .int .i64 m] 46)) := (Below.refl _ _).alloc (Nat.le_refl _) _
              have O3 := hide (own_step (own_step (unhide O2) hbx) hb3)
              have B3 := hide ((unhide B2).trans ((below_step hbx hb3).mono (Nat.le_of_lt hG2)))
              have hG3 : G < w3.heap.size := ((unhide O3).lt G rfl).2
              have cpa := own_int (unhide O3) pa hpan
              have cpb := own_int (unhide O3) pb hpbn
              have fpa := (unhide O3).frozenAt pa
              have fpb := (unhide O3).frozenAt pb
              have hlg := Split.lead_get (h := h) (p := pa) (x - 1) (by omega) pb
              obtain ⟨za, hza⟩ : ∃ z, h.getD pa 0 = z := ⟨_, rfl⟩
              obtain ⟨zb, hzb⟩ : ∃ z, h.getD pb 0 = z := ⟨_, rfl⟩
              obtain ⟨va, hva⟩ : ∃ z, joinM za (x - 1) = z := ⟨_, rfl⟩
              rw [hza] at cpa
              rw [hzb] at cpb
              rw [hza, hzb, hva] at hlg
              have HJ1 : Hid (∀ w', Calls Try.prog 32 #[.int .i64 za, .int .i64 (x - 1)] w' fun e w'' => e = .returned (.int .i64 va) ∧ w'' = w') := by
                intro w'
                have := join_any za (x - 1) w'
                rw [hva] at this
                exact this
              have O4 := hide (own_lead (unhide O3) pa (x - 1) va (by rw [hza]; exact hva))
              clear hbx hb3 ci2 hza hzb hva O2 B2
              by_cases hpp : pa = pb
              · subst hpp
                rw [if_pos rfl] at hlg
                obtain ⟨vb, hvb⟩ : ∃ z, joinM va (x - 1) = z := ⟨_, rfl⟩
                have HJ2 : Hid (∀ w', Calls Try.prog 32 #[.int .i64 va, .int .i64 (x - 1)] w' fun e w'' => e = .returned (.int .i64 vb) ∧ w'' = w') := by
                  intro w'
                  have := join_any va (x - 1) w'
                  rw [hvb] at this
                  exact this
                have O5 := hide (own_lead (unhide O4) pa (x - 1) vb (by rw [hlg]; exact hvb))
                clear hlg hvb O4 cpb fpb
                go_wp2_with fail
                refine (unhide HJ1 _).mono ?_
                rintro e w4 ⟨rfl, hw4⟩
                have hw4 := hw4.symm
                subst hw4
                go_wp2_with fail
                refine (unhide HJ2 _).mono ?_
                rintro e w5 ⟨rfl, hw5⟩
                rw [hw5]
                clear hw5
                go_wp2_with fail
                go_roundw
                case rel => exact ⟨i + 1, _, by omega, by go_num, by rw [Split.lead_len, Split.lead_len]; exact hhl, lead_bd (by rw [Split.lead_len]; omega) hy0 hy5 (lead_bd (by omega) hy0 hy5 (unhide hbd)), O5, by rw [unhide HF]; exact HGO2, (((unhide B3).setCell (p := ⟨G, pa, none⟩) (Nat.le_refl _) _).setCell (p := ⟨G, pa, none⟩) (Nat.le_refl _) _)⟩
                case measure => simp [intOf]; omega
              · rw [if_neg hpp] at hlg
                obtain ⟨vb, hvb⟩ : ∃ z, joinM zb (x - 1) = z := ⟨_, rfl⟩
                have HJ2 : Hid (∀ w', Calls Try.prog 32 #[.int .i64 zb, .int .i64 (x - 1)] w' fun e w'' => e = .returned (.int .i64 vb) ∧ w'' = w') := by
                  intro w'
                  have := join_any zb (x - 1) w'
                  rw [hvb] at this
                  exact this
                have O5 := hide (own_lead (unhide O4) pb (x - 1) vb (by rw [hlg]; exact hvb))
                have hpp' : ¬ pb = pa := fun e => hpp e.symm
                clear hlg hvb O4
                go_wp2_with fail
                refine (unhide HJ1 _).mono ?_
                rintro e w4 ⟨rfl, hw4⟩
                have hw4 := hw4.symm
                subst hw4
                go_wp2_with fail
                refine (unhide HJ2 _).mono ?_
                rintro e w5 ⟨rfl, hw5⟩
                rw [hw5]
                clear hw5
                go_wp2_with fail
                go_roundw
                case rel => exact ⟨i + 1, _, by omega, by go_num, by rw [Split.lead_len, Split.lead_len]; exact hhl, lead_bd (by rw [Split.lead_len]; omega) hy0 hy5 (lead_bd (by omega) hy0 hy5 (unhide hbd)), O5, by rw [unhide HF]; exact HGO2, (((unhide B3).setCell (p := ⟨G, pa, none⟩) (Nat.le_refl _) _).setCell (p := ⟨G, pb, none⟩) (Nat.le_refl _) _)⟩
                case measure => simp [intOf]; omega
            · have hye : y = x := by have := unhide HY; rw [if_neg h72, if_neg h69] at this; omega
              subst hye
              have n72 : (k == 72) = false := beq_eq_false_iff_ne.2 h72
              have n69 : (k == 69) = false := beq_eq_false_iff_ne.2 h69
              clear h72 h69
              go_wp2_with fail
              refine (unhide HAT _).mono ?_
              rintro e w2 ⟨rfl, hb2⟩
              have O2 := hide (own_step (unhide ho) hb2)
              have B2 := hide ((unhide hb).trans (hb2.mono (Nat.le_of_lt hGlt)))
              have hG2 : G < w2.heap.size := ((unhide O2).lt G rfl).2
              have ci2 := own_int (unhide O2) i (by omega)
              rw [unhide HX] at ci2
              clear hb2 ci
              go_wp2_with fail
              refine (unhide HWAY _).mono ?_
              rintro e w3 ⟨rfl, hb3⟩
              have hbx : Below w2.heap.size w2 (w2.alloc (.cells #[.int .u8 k, .int .i64 a, .int .i64 b, .int .i64 m] 46)) := (Below.refl _ _).alloc (Nat.le_refl _) _
              have O3 := hide (own_step (own_step (unhide O2) hbx) hb3)
              have B3 := hide ((unhide B2).trans ((below_step hbx hb3).mono (Nat.le_of_lt hG2)))
              have hG3 : G < w3.heap.size := ((unhide O3).lt G rfl).2
              have cpa := own_int (unhide O3) pa hpan
              have cpb := own_int (unhide O3) pb hpbn
              have fpa := (unhide O3).frozenAt pa
              have fpb := (unhide O3).frozenAt pb
              have hlg := Split.lead_get (h := h) (p := pa) y (by omega) pb
              obtain ⟨za, hza⟩ : ∃ z, h.getD pa 0 = z := ⟨_, rfl⟩
              obtain ⟨zb, hzb⟩ : ∃ z, h.getD pb 0 = z := ⟨_, rfl⟩
              obtain ⟨va, hva⟩ : ∃ z, joinM za y = z := ⟨_, rfl⟩
              rw [hza] at cpa
              rw [hzb] at cpb
              rw [hza, hzb, hva] at hlg
              have HJ1 : Hid (∀ w', Calls Try.prog 32 #[.int .i64 za, .int .i64 y] w' fun e w'' => e = .returned (.int .i64 va) ∧ w'' = w') := by
                intro w'
                have := join_any za y w'
                rw [hva] at this
                exact this
              have O4 := hide (own_lead (unhide O3) pa y va (by rw [hza]; exact hva))
              clear hbx hb3 ci2 hza hzb hva O2 B2
              by_cases hpp : pa = pb
              · subst hpp
                rw [if_pos rfl] at hlg
                obtain ⟨vb, hvb⟩ : ∃ z, joinM va y = z := ⟨_, rfl⟩
                have HJ2 : Hid (∀ w', Calls Try.prog 32 #[.int .i64 va, .int .i64 y] w' fun e w'' => e = .returned (.int .i64 vb) ∧ w'' = w') := by
                  intro w'
                  have := join_any va y w'
                  rw [hvb] at this
                  exact this
                have O5 := hide (own_lead (unhide O4) pa y vb (by rw [hlg]; exact hvb))
                clear hlg hvb O4 cpb fpb
                go_wp2_with fail
                refine (unhide HJ1 _).mono ?_
                rintro e w4 ⟨rfl, hw4⟩
                have hw4 := hw4.symm
                subst hw4
                go_wp2_with fail
                refine (unhide HJ2 _).mono ?_
                rintro e w5 ⟨rfl, hw5⟩
                rw [hw5]
                clear hw5
                go_wp2_with fail
                go_roundw
                case rel => exact ⟨i + 1, _, by omega, by go_num, by rw [Split.lead_len, Split.lead_len]; exact hhl, lead_bd (by rw [Split.lead_len]; omega) hy0 hy5 (lead_bd (by omega) hy0 hy5 (unhide hbd)), O5, by rw [unhide HF]; exact HGO2, (((unhide B3).setCell (p := ⟨G, pa, none⟩) (Nat.le_refl _) _).setCell (p := ⟨G, pa, none⟩) (Nat.le_refl _) _)⟩
                case measure => simp [intOf]; omega
              · rw [if_neg hpp] at hlg
                obtain ⟨vb, hvb⟩ : ∃ z, joinM zb y = z := ⟨_, rfl⟩
                have HJ2 : Hid (∀ w', Calls Try.prog 32 #[.int .i64 zb, .int .i64 y] w' fun e w'' => e = .returned (.int .i64 vb) ∧ w'' = w') := by
                  intro w'
                  have := join_any zb y w'
                  rw [hvb] at this
                  exact this
                have O5 := hide (own_lead (unhide O4) pb y vb (by rw [hlg]; exact hvb))
                have hpp' : ¬ pb = pa := fun e => hpp e.symm
                clear hlg hvb O4
                go_wp2_with fail
                refine (unhide HJ1 _).mono ?_
                rintro e w4 ⟨rfl, hw4⟩
                have hw4 := hw4.symm
                subst hw4
                go_wp2_with fail
                refine (unhide HJ2 _).mono ?_
                rintro e w5 ⟨rfl, hw5⟩
                rw [hw5]
                clear hw5
                go_wp2_with fail
                go_roundw
                case rel => exact ⟨i + 1, _, by omega, by go_num, by rw [Split.lead_len, Split.lead_len]; exact hhl, lead_bd (by rw [Split.lead_len]; omega) hy0 hy5 (lead_bd (by omega) hy0 hy5 (unhide hbd)), O5, by rw [unhide HF]; exact HGO2, (((unhide B3).setCell (p := ⟨G, pa, none⟩) (Nat.le_refl _) _).setCell (p := ⟨G, pb, none⟩) (Nat.le_refl _) _)⟩
                case measure => simp [intOf]; omega
        · have hien : i = n := by omega
          subst hien
          have ci := unhide CX i (by omega)
          have hx0 : h.getD i 0 = 0 := by
            have := unhide hgo
            rw [Nat.sub_self] at this
            unfold heldGo at this
            by_cases hz : h.getD i 0 = 0
            · exact hz
            · rw [if_neg hz] at this; omega
          rw [hx0] at ci
          go_wp2_with fail
          go_ret
          exact ⟨rfl, by rw [unhide HG]; exact unhide hb⟩
end Go.Proofs.Ytbpolcnjojlkjab
