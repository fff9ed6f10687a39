/- split's checkHeld. -/
import Derived.Test.YtbpolcnjojlkjabHeldW
import Derived.Test.YtbpolcnjojlkjabThru
namespace Go.Proofs.Ytbpolcnjojlkjab
open Go.ChangeShapes Go.WideShapes Go.ChangeAt Go.RowKit
open Split (St SOk joinM leadM growM onA onM heldGo hInit heldM InCode)
set_option linter.unusedVariables false
set_option linter.unusedSimpArgs false

def heldE (ss : List St) : Int := if heldM ss = -1 then 0 else 7
def heldP (ss : List St) : Int := if heldM ss = -1 then 0 else heldM ss

theorem join_bd {o x : Int} (hx : 0 ≤ x) (hx5 : x ≤ 5) : -2 ≤ joinM o x ∧ joinM o x ≤ 5 := by
  rcases Split.joinM_or o x with h | h <;> rw [h] <;> omega
theorem lead_bd {h : List Int} {p : Nat} {x : Int} (hp : p < h.length) (hx : 0 ≤ x) (hx5 : x ≤ 5) (hh : ∀ j, -2 ≤ h.getD j 0 ∧ h.getD j 0 ≤ 5) (j : Nat) : -2 ≤ (leadM h p x).getD j 0 ∧ (leadM h p x).getD j 0 ≤ 5 := by
  rw [Split.lead_get x hp]
  split
  · exact join_bd hx hx5
  · exact hh j
theorem on_bd {h : List Int} {n i : Nat} {s : St} {x : Int} (hl : h.length = n + 1) (hi : i < n) (hs : InCode n i s) (hx : 0 ≤ x) (hx5 : x ≤ 5) (hh : ∀ j, -2 ≤ h.getD j 0 ∧ h.getD j 0 ≤ 5) (j : Nat) : -2 ≤ (onM h i s x).getD j 0 ∧ (onM h i s x).getD j 0 ≤ 5 := by
  have hA : ∀ j, -2 ≤ (onA h i s x).getD j 0 ∧ (onA h i s x).getD j 0 ≤ 5 := by
    intro j
    unfold onA
    split
    · exact hh j
    · exact lead_bd (by omega) hx hx5 hh j
  unfold onM
  split
  · rename_i hk
    have := hs hk
    exact lead_bd (by rw [Split.onA_len]; omega) hx hx5 hA j
  · exact hA j
theorem init_bd (n j : Nat) : -2 ≤ (hInit n).getD j 0 ∧ (hInit n).getD j 0 ≤ 5 := by
  unfold hInit
  cases j with
  | zero => simp
  | succ j =>
    rw [List.getD_cons_succ, List.getD_eq_getElem?_getD, List.getElem?_replicate]
    split <;> simp

theorem grow_bd (k : Int) : -1 ≤ growM k ∧ growM k ≤ 1 := by
  unfold growM
  split
  · omega
  split <;> omega

set_option maxRecDepth 100000 in
set_option maxHeartbeats 4000000 in
theorem checkHeld_any (ss : List St) (base : Nat) (sa : Option Addr) (scap : Nat) (w : World) (hS : w.ownsRow base 63 12 (.slice sa ss.length scap) ss.length (flat ss)) (hok : ∀ s ∈ ss, SOk s) (hin : ∀ (i : Nat) (h : i < ss.length), InCode ss.length i ss[i]) (hl : ss.length ≤ 200) :
    Calls Try.prog 37 #[.slice sa ss.length scap] w fun e w' => e = .returned (.tuple #[.int .i64 (heldE ss), .int .i64 (heldP ss)]) ∧ Below w.heap.size w w' := by
  obtain ⟨_, _, he, hcap, hsa⟩ := own_slice hS
  simp only [Value.slice.injEq, true_and] at he
  obtain ⟨rfl, rfl⟩ := he
  have HS := hide hS
  have HOK := hide hok
  have HIN := hide hin
  have HSA := hide hsa
  obtain ⟨n, hn⟩ : ∃ n, ss.length = n := ⟨_, rfl⟩
  have HN := hide hn
  rw [hn] at hl hcap ⊢
  clear hS hok hin hn hsa
  go_enter Try.func37, Try.ntmps37
  go_wp2_with fail
  refine (newHeights_any _ n _ (by omega) (by omega)).mono ?_
  rintro e w1 ⟨rfl, hH1, hb1⟩
  have H1 := hide hH1
  have B1 := hide hb1
  obtain ⟨H, hH⟩ : ∃ H, w.heap.size = H := ⟨_, rfl⟩
  rw [hH] at H1 B1 ⊢
  have HH := hide hH
  clear hH1 hb1 hH
  go_wp2_with fail
  go_loopw [5] (fun aa wr => ∃ (i : Nat) (h : List Int), i ≤ n ∧ aa = .int .i64 i ∧ h.length = n + 1 ∧ Hid (∀ j, -2 ≤ h.getD j 0 ∧ h.getD j 0 ≤ 5) ∧ Hid (Hts wr H h) ∧ Hid (heldM ss = heldGo ss (n - i) i h) ∧ Hid (Below H w wr)) (fun aa _ => n - (intOf aa).toNat)
  case atStart =>
    refine ⟨0, hInit n, by omega, rfl, by simp [hInit], init_bd n, H1, ?_, B1⟩
    show heldM ss = _
    unfold heldM
    rw [unhide HN]
    rfl
  case round =>
    obtain ⟨i, h, hi, rfl, hhl, hbd, hH, hgo, hb⟩ := hrel
    obtain ⟨g, gcap, hg, hgc, hr, ho⟩ := (unhide hH).view (by omega)
    rw [hhl] at hgc hr ho
    have cH := cell_of_row wr H 0 _ _ _ hr
    simp at cH
    have hHlt := (unhide hH).lt
    clear H1 B1 hr
    have cx : ∀ j, j < n + 1 → wr.cell? ⟨g, j, none⟩ = some (.int .i64 (h.getD j 0)) := by
      intro j hj
      rw [ho.cellAt j (by omega), List.getElem?_map, List.getElem?_eq_getElem (by omega)]
      simp [List.getD_eq_getElem?_getD, List.getElem?_eq_getElem (show j < h.length by omega)]
    have CX := hide cx
    clear cx ho
    by_cases hlt : i < n
    · have ci := unhide CX i (by omega)
      have hb2 := unhide hbd i
      have hsl : i < ss.length := by rw [unhide HN]; exact hlt
      obtain ⟨f, hf⟩ : ∃ f, n - i = f + 1 := ⟨n - i - 1, by omega⟩
      have hf2 : n - (i + 1) = f := by omega
      have HF := hide hf2
      have hgo' : heldM ss = (if h.getD i 0 = -1 then heldGo ss f (i + 1) h
        else if h.getD i 0 = -2 ∨ h.getD i 0 + growM ss[i].kind < 0 ∨ 5 < h.getD i 0 + growM ss[i].kind then (i : Int)
        else heldGo ss f (i + 1) (onM h i ss[i] (h.getD i 0 + growM ss[i].kind))) := by
        have := unhide hgo
        rw [hf] at this
        rw [this]
        simp only [heldGo, List.getElem?_eq_getElem hsl]
      have HGO := hide hgo'
      obtain ⟨x, hx⟩ : ∃ x, h.getD i 0 = x := ⟨_, rfl⟩
      rw [hx] at HGO ci hb2
      have HX := hide hx
      clear hgo' hgo hf hf2 hx
      by_cases hx1 : x = -1
      · subst hx1
        have hgo2 : Hid (heldM ss = heldGo ss f (i + 1) h) := by
          have := unhide HGO
          rw [if_pos rfl] at this
          exact this
        clear HGO
        go_wp2_with fail
        go_roundw
        case rel => exact ⟨i + 1, h, by omega, by go_num, hhl, hbd, hH, by rw [unhide HF]; exact hgo2, hb⟩
        case measure => simp [intOf]; omega
      · have q1 : (x == -1) = false := beq_eq_false_iff_ne.2 hx1
        have hso := unhide HOK _ (List.getElem_mem hsl)
        have hic := unhide HIN i hsl
        rw [unhide HN] at hic
        obtain ⟨⟨kind, bucket, amount, among, leave⟩, hse⟩ : ∃ s, ss[i] = s := ⟨_, rfl⟩
        rw [hse] at hso hic HGO
        obtain ⟨⟨b, hb8, hbe⟩, ha0, ha1, hah, ham, ⟨l, hl1, hle⟩⟩ := hso
        dsimp only at hbe ha0 ha1 hah ham hle
        subst hbe
        subst hle
        obtain ⟨m0, m1, m2, m3, m4, m5, m6, m7, hame⟩ : ∃ m0 m1 m2 m3 m4 m5 m6 m7, among = [m0, m1, m2, m3, m4, m5, m6, m7] := by
          match among, ham with
          | [m0, m1, m2, m3, m4, m5, m6, m7], _ => exact ⟨m0, m1, m2, m3, m4, m5, m6, m7, rfl⟩
        subst hame
        obtain ⟨gs, hgs⟩ := unhide HSA (by omega)
        subst hgs
        have hgsl : gs < H := by
          have := ((unhide HS).lt gs rfl).2
          have := unhide HH
          omega
        have hcells := step_cells (unhide HS) rfl hsl hse
        obtain ⟨d0, d1, d2, d3, d4, d5, d6, d7, d8, d9, d10, d11⟩ := hcells
        rw [← (unhide hb).cell (p := ⟨gs, _, none⟩) hgsl] at d0 d1 d2 d3 d4 d5 d6 d7 d8 d9 d10 d11
        have hgb := grow_bd kind
        obtain ⟨y, hy⟩ : ∃ y, growM kind = y := ⟨_, rfl⟩
        dsimp only at HGO
        rw [hy] at hgb HGO
        have HY := hide hy
        have HIC := hide hic
        clear hy ham hse hic hah
        have HG : Hid (∀ w', Calls Try.prog 52 #[.int .u8 kind] w' fun e w'' => e = .returned (.int .i64 y) ∧ w'' = w') := by
          intro w'
          have := growth_any kind w'
          rw [unhide HY] at this
          exact this
        have hwr : IntKind.i64.wrap (x + y) = x + y := wrap_small (by omega) (by omega)
        go_wp2_with fail
        go_quiet ((go_at_call 52; exact Calls.quiet_of_same (unhide HG _)))
        have hdr : ∀ a, (wr.drewN nq).cell? a = wr.cell? a := fun _ => rfl
        by_cases hbad : x = -2 ∨ x + y < 0 ∨ 5 < x + y
        · have hgo2 : heldM ss = i := by
            have := unhide HGO
            rw [if_neg hx1, if_pos hbad] at this
            exact this
          have e1 : heldE ss = 7 := by unfold heldE; rw [if_neg (by omega)]
          have e2 : heldP ss = i := by unfold heldP; rw [if_neg (by omega), hgo2]
          have HE := hide (And.intro e1 e2)
          clear e1 e2 hgo2 HGO
          by_cases hx2 : x = -2
          · subst hx2
            go_wp2_with fail
            go_ret2
            exact ⟨by rw [(unhide HE).1, (unhide HE).2]; rfl, by rw [unhide HH]; exact below_drewN (unhide hb) _⟩
          · have q2 : (x == -2) = false := beq_eq_false_iff_ne.2 hx2
            by_cases hneg : x + y < 0
            · go_wp2_with fail
              go_ret2
              exact ⟨by rw [(unhide HE).1, (unhide HE).2]; rfl, by rw [unhide HH]; exact below_drewN (unhide hb) _⟩
            · have hgt : 5 < x + y := by omega
              go_wp2_with fail
              go_ret2
              exact ⟨by rw [(unhide HE).1, (unhide HE).2]; rfl, by rw [unhide HH]; exact below_drewN (unhide hb) _⟩
        · have hgo2 : Hid (heldM ss = heldGo ss f (i + 1) (onM h i ⟨kind, (b : Nat), amount, [m0, m1, m2, m3, m4, m5, m6, m7], (l : Nat)⟩ (x + y))) := by
            have := unhide HGO
            rw [if_neg hx1, if_neg hbad] at this
            exact this
          have hx2 : x ≠ -2 := fun e => hbad (.inl e)
          have hy0 : 0 ≤ x + y := by omega
          have hy5 : x + y ≤ 5 := by omega
          have q2 : (x == -2) = false := beq_eq_false_iff_ne.2 hx2
          have HNB := hide (on_bd hhl hlt (unhide HIC) hy0 hy5 (unhide hbd))
          have HNL : Hid (i + 1 < h.length ∧ h.length ≤ 1000 ∧ ((kind = 74 ∨ kind = 73) → i + 1 + l < h.length)) := by
            refine ⟨by omega, by omega, fun hk => ?_⟩
            have := unhide HIC hk
            dsimp only [Int.toNat_natCast] at this
            omega
          clear HGO hbad
          have HH2 : Hid (Hts (wr.drewN nq) H h) := (unhide hH).below (below_drewN (Below.refl _ _) _) (Nat.le_refl _)
          go_wp2_with fail
          refine (leadOn_any H h i kind (b : Nat) amount m0 m1 m2 m3 m4 m5 m6 m7 l (x + y) _ (unhide HH2) (unhide HNL).2.1 (unhide HNL).1 (unhide HNL).2.2).mono ?_
          rintro e w3 ⟨rfl, h3, b3⟩
          have H3 := hide h3
          have B3 := hide ((below_drewN (unhide hb) _).trans b3)
          clear h3 b3
          go_wp2_with fail
          go_roundw
          case rel => exact ⟨i + 1, _, by omega, by go_num, (Split.on_len _ _ _ _).trans hhl, HNB, H3, by rw [unhide HF]; exact hgo2, B3⟩
          case measure => simp [intOf]; omega
    · have hin : i = n := by omega
      subst hin
      have ci := unhide CX i (by omega)
      have hgo2 : heldM ss = if h.getD i 0 = 0 then -1 else (i : Int) := by
        have := unhide hgo
        rw [Nat.sub_self] at this
        exact this
      obtain ⟨x, hx⟩ : ∃ x, h.getD i 0 = x := ⟨_, rfl⟩
      rw [hx] at ci hgo2
      clear hx hgo
      by_cases hx0 : x = 0
      · subst hx0
        rw [if_pos rfl] at hgo2
        have e1 : heldE ss = 0 := by unfold heldE; rw [if_pos hgo2]
        have e2 : heldP ss = 0 := by unfold heldP; rw [if_pos hgo2]
        have HE := hide (And.intro e1 e2)
        clear e1 e2 hgo2
        go_wp2_with fail
        go_ret2
        exact ⟨by rw [(unhide HE).1, (unhide HE).2]; rfl, by rw [unhide HH]; exact unhide hb⟩
      · rw [if_neg hx0] at hgo2
        have e1 : heldE ss = 7 := by unfold heldE; rw [if_neg (by omega)]
        have e2 : heldP ss = i := by unfold heldP; rw [if_neg (by omega), hgo2]
        have HE := hide (And.intro e1 e2)
        have q0 : (x != 0) = true := by simpa using hx0
        clear e1 e2 hgo2
        go_wp2_with fail
        go_ret2
        exact ⟨by rw [(unhide HE).1, (unhide HE).2]; rfl, by rw [unhide HH]; exact unhide hb⟩
end Go.Proofs.Ytbpolcnjojlkjab
