/- HeldWalk: HeldW, CheckHeld -/
import Derived.Test.YtmdjdpofpkgffabPurseW
import Derived.Test.YtmdjdpofpkgffabHeights

/- split's heights in memory: growth, lead, newHeights, leadOn. -/
namespace Go.Proofs.Ytmdjdpofpkgffab
open Go.ChangeShapes Go.WideShapes Go.ChangeAt Go.RowKit
open Split (St joinM leadM growM onA onM heldGo hInit heldM)
set_option linter.unusedVariables false
set_option linter.unusedSimpArgs false

theorem growth_any (k : Int) (w : World) : Calls Try.prog 92 #[.int .u8 k] w fun e w' => e = .returned (.int .i64 (growM k)) ∧ w' = w := by
  by_cases h72 : k = 72
  · subst h72
    go_enter Try.func92, Try.ntmps92
    go_wp2
    go_ret
    exact ⟨rfl, rfl⟩
  · by_cases h69 : k = 69
    · subst h69
      go_enter Try.func92, Try.ntmps92
      go_wp2
      go_ret
      exact ⟨rfl, rfl⟩
    · have e : growM k = 0 := by unfold growM; rw [if_neg h72, if_neg h69]
      rw [e]
      have q1 : (k == 72) = false := beq_eq_false_iff_ne.2 h72
      have q2 : (k == 69) = false := beq_eq_false_iff_ne.2 h69
      clear e h72 h69
      go_enter Try.func92, Try.ntmps92
      go_wp2
      go_ret
      exact ⟨rfl, rfl⟩

/-- The heights that lie in block H. -/
def Hts (w : World) (H : Nat) (h : List Int) : Prop := ∃ vh, w.heap[H]? = some (.cells #[vh] 137 (0, 0)) ∧ w.ownsRow (H + 1) 3 1 vh h.length (h.map (Value.int .i64))

theorem Hts.lt {w : World} {H : Nat} {h : List Int} (hh : Hts w H h) : H < w.heap.size := by
  obtain ⟨vh, hr, _⟩ := hh
  exact cell_lt hr

theorem Hts.view {w : World} {H : Nat} {h : List Int} (hh : Hts w H h) (hn : 0 < h.length) : ∃ g cap, H < g ∧ h.length ≤ cap ∧ w.heap[H]? = some (.cells #[.slice (some ⟨g, 0, none⟩) h.length cap] 137 (0, 0)) ∧ w.ownsRow (H + 1) 3 1 (.slice (some ⟨g, 0, none⟩) h.length cap) h.length (h.map (Value.int .i64)) := by
  obtain ⟨vh, hr, ho⟩ := hh
  obtain ⟨a, cap, rfl, hc, ha⟩ := own_slice ho
  obtain ⟨g, rfl⟩ := ha hn
  exact ⟨g, cap, (ho.lt g rfl).1, hc, hr, ho⟩

theorem Hts.set {w : World} {H : Nat} {h : List Int} {g cap : Nat} (hg : H < g) (hr : w.heap[H]? = some (.cells #[.slice (some ⟨g, 0, none⟩) h.length cap] 137 (0, 0))) (ho : w.ownsRow (H + 1) 3 1 (.slice (some ⟨g, 0, none⟩) h.length cap) h.length (h.map (Value.int .i64))) (p : Nat) (x : Int) : Hts (w.setCell ⟨g, p, none⟩ (.int .i64 x)) H (h.set p x) := by
  refine ⟨.slice (some ⟨g, 0, none⟩) h.length cap, ?_, ?_⟩
  · rw [Below.heap_setCell _ _ _ _ (by show H ≠ g; omega)]
    exact hr
  · have := (ho.stored p (.int .i64 x)).1
    rw [← List.map_set] at this
    rw [List.length_set]
    exact this

theorem Hts.below {w w' : World} {H B : Nat} {h : List Int} (hh : Hts w H h) (hb : Below B w w') (hB : w.heap.size ≤ B) : Hts w' H h := by
  obtain ⟨vh, hr, ho⟩ := hh
  refine ⟨vh, (hb.block H (by have := cell_lt hr; omega)).trans hr, ho.1, ?_⟩
  rcases ho.2 with ⟨q, q'⟩ | ⟨g', cap', cur, q, q1, q2, q3⟩
  · exact .inl ⟨q, q'⟩
  · exact .inr ⟨g', cap', cur, q, q1, by rw [hb.block g' (by have := cell_lt q2; omega)]; exact q2, q3⟩

/-- Blocks of steps are as they were. -/
def Steps (w w' : World) : Prop := ∀ (b : Nat) (o : Array Value), w.heap[b]? = some (.cells o 110 (0, 0)) → w'.heap[b]? = some (.cells o 110 (0, 0))

theorem steps_set {w : World} {base g n cap p : Nat} {L : List Value} {v : Value} (ho : w.ownsRow base 3 1 (.slice (some ⟨g, 0, none⟩) n cap) n L) : Steps w (w.setCell ⟨g, p, none⟩ v) := by
  intro b o hb
  by_cases hbg : b = g
  · exfalso
    rcases ho.2 with ⟨q, _⟩ | ⟨g', cap', cur, q, q1, q2, q3⟩
    · simp at q
    · simp only [Value.slice.injEq, Option.some.injEq, Addr.mk.injEq, and_true, true_and] at q
      obtain ⟨rfl, rfl⟩ := q
      rw [hbg, q2] at hb
      simp at hb
  · rw [Below.heap_setCell _ _ _ _ (by exact hbg)]
    exact hb

set_option maxHeartbeats 1000000 in
theorem lead_any (H : Nat) (h : List Int) (p : Nat) (x : Int) (w : World) (hh : Hts w H h) (hp : p < h.length) (hl : h.length ≤ 1000) :
    Calls Try.prog 107 #[.pointer (some ⟨H, 0, none⟩), .int .i64 p, .int .i64 x] w fun e w' => e = .returned (.tuple #[]) ∧ Hts w' H (leadM h p x) ∧ Below H w w' ∧ Steps w w' := by
  obtain ⟨g, cap, hg, hcap, hr, ho⟩ := hh.view (by omega)
  have cH := cell_of_row w H 0 _ _ _ hr
  simp at cH
  have cx : w.cell? ⟨g, p, none⟩ = some (.int .i64 (h.getD p 0)) := by
    rw [ho.cellAt p (by omega), List.getElem?_map, List.getElem?_eq_getElem hp]
    simp [List.getD_eq_getElem?_getD, List.getElem?_eq_getElem hp]
  have fx := ho.frozenAt p
  have HR := hide hr
  have HO := hide ho
  have HH := hide hh
  obtain ⟨n, hn⟩ : ∃ n, h.length = n := ⟨_, rfl⟩
  have hset : ∀ v, Hid (Hts (w.setCell ⟨g, p, none⟩ (.int .i64 v)) H (h.set p v)) := fun v => Hts.set hg hr ho p v
  have HSET := hide hset
  have hle : leadM h p x = h.set p (joinM (h.getD p 0) x) := rfl
  have hsame : h.set p (h.getD p 0) = h := by
    apply List.ext_getElem?
    intro j
    rw [List.getElem?_set]
    by_cases hj : p = j
    · subst hj
      rw [if_pos rfl, if_pos hp, List.getD_eq_getElem?_getD, List.getElem?_eq_getElem hp]
      rfl
    · rw [if_neg hj]
  rw [hle]
  obtain ⟨o, hoe⟩ : ∃ o, h.getD p 0 = o := ⟨_, rfl⟩
  rw [hoe] at cx hsame ⊢
  have HSAME := hide hsame
  rw [hn] at cH hp hcap hl
  have HN := hide hn
  have hb : ∀ v, Hid (Below H w (w.setCell ⟨g, p, none⟩ v)) := fun v => (Below.refl _ _).setCell (p := ⟨g, p, none⟩) (Nat.le_of_lt hg) _
  have HB := hide hb
  have hst : ∀ v, Hid (Steps w (w.setCell ⟨g, p, none⟩ v)) := fun v => steps_set ho
  have HST := hide hst
  clear hr ho hh hset hle hsame hoe hn hb hst
  by_cases h1 : o = -1
  · subst h1
    have e : joinM (-1) x = x := by unfold joinM; rw [if_pos (.inl rfl)]
    rw [e]
    clear e
    go_enter Try.func107, Try.ntmps107
    go_wp2
    go_end0
    exact ⟨rfl, unhide HSET x, unhide HB _, unhide HST _⟩
  · have q1 : (o == -1) = false := beq_eq_false_iff_ne.2 h1
    by_cases h2 : o = x
    · subst h2
      have e : joinM o o = o := by unfold joinM; rw [if_pos (.inr rfl)]
      rw [e, unhide HSAME]
      have q2 : (o != o) = false := by simp
      clear e h1
      go_enter Try.func107, Try.ntmps107
      go_wp2
      go_end0
      exact ⟨rfl, unhide HH, Below.refl _ _, fun _ _ h => h⟩
    · have e : joinM o x = -2 := by
        unfold joinM
        rw [if_neg (by rintro (h | h); exact h1 h; exact h2 h)]
      rw [e]
      have q2 : (o != x) = true := by simpa using h2
      clear e h1 h2
      go_enter Try.func107, Try.ntmps107
      go_wp2
      go_end0
      exact ⟨rfl, unhide HSET (-2), unhide HB _, unhide HST _⟩

set_option maxRecDepth 4000 in
set_option maxHeartbeats 1000000 in
theorem newHeights_any (z : Int) (n : Nat) (w : World) (hn : n ≤ 900) (hz : z = n + 1) :
    Calls Try.prog 91 #[.int .i64 z] w fun e w' => e = .returned (.pointer (some ⟨w.heap.size, 0, none⟩)) ∧ Hts w' w.heap.size (hInit n) ∧ Below w.heap.size w w' := by
  obtain ⟨i0, hi, hz0, hz1, hz2⟩ := info_parts infoInt
  have HZ := hide hz
  clear hz
  go_enter Try.func91, Try.ntmps91
  go_wp2_with fail
  go_loopw [4] (fun ii wr => ∃ k : Nat, k ≤ n + 1 ∧ ii = .int .i64 k ∧ Hid (Hts wr w.heap.size (List.replicate k (-1))) ∧ Hid (Below w.heap.size w wr)) (fun ii _ => n + 1 - (intOf ii).toNat)
  case atStart =>
    refine ⟨0, by omega, rfl, ⟨.slice none 0 0, heap_alloc_new _ _, World.ownsRow_nil _ _ _ _⟩, ?_⟩
    exact (Below.refl _ _).alloc (Nat.le_refl _) _
  case round =>
    obtain ⟨k, hk, rfl, hH, hb⟩ := hrel
    have hHlt := (unhide hH).lt
    by_cases hlt0 : k < n + 1
    · have hlt : (k : Int) < z := by have := unhide HZ; omega
      obtain ⟨vh, hr, ho⟩ := unhide hH
      rw [List.length_replicate] at ho
      obtain ⟨ha, hcap, rfl, hhc, _⟩ := own_slice ho
      have cH := cell_of_row wr w.heap.size 0 _ _ _ hr
      have fH := frozen_of_row wr w.heap.size 0 _ _ hr
      simp at cH
      have HR := hide hr
      have HO := hide ho
      clear hr ho
      go_wp2_with (at_builtin; refine wpList_append_own _ rfl (.tmp 16) (.tmp 17) 22 rfl (w.heap.size + 1) 3 i0 (.int .i64 0) 1 8 Try.underlying22 hi hz0 hz1 hz2 rfl (by decide) _ k ((List.replicate k (-1)).map (Value.int .i64)) rfl (by exact World.ownsRow.alloc (unhide HO) _) ⟨wr.heap.size, 0, none⟩ 1 1 [.int .i64 (-1)] rfl rfl (by intro j u hj; match j, hj with | 0, hj => simp at hj; subst hj; simp [Addr.add]) (by intro u hu; simp at hu; subst hu; rfl) (by unfold maxLen; omega) (by omega) (by simp; omega) ?_; intro v' w1 hown hgrow _; have hr1 := (hgrow.block w.heap.size (by simp; omega) (own_base (unhide HO) (Nat.lt_succ_self _))).trans ((Go.heap_alloc_old _ _ hHlt).trans (unhide HR)); have cH1 := cell_of_row w1 w.heap.size 0 _ _ _ hr1; have fH1 := frozen_of_row w1 w.heap.size 0 _ _ hr1; obtain ⟨a2, cap2, rfl, hle2, _⟩ := own_slice hown)
      go_roundw
      case rel =>
        refine ⟨k + 1, by omega, by go_num, ⟨.slice a2 (k + 1) cap2, ?_, ?_⟩, ?_⟩
        · rw [heap_setCell_same w1 _ 0 _ _ _ hr1]
          rfl
        · have := World.ownsRow.kept hown (grown_set (grown_refl _ _) 0 (.slice a2 (k + 1) cap2)) (own_ne hown (Nat.lt_succ_self _))
          rw [List.length_replicate, List.replicate_succ', List.map_append]
          exact this
        · exact (((unhide hb).alloc (by omega) _).trans (below_of_grown hgrow (by simp; omega) (fun k hk => by have := (unhide HO).lt k hk; omega))).setCell (p := ⟨w.heap.size, 0, none⟩) (Nat.le_refl _) _
      case measure => simp [intOf]; omega
    · have hke : k = n + 1 := by omega
      subst hke
      have hlt : ¬ ((n + 1 : Nat) : Int) < z := by have := unhide HZ; omega
      go_wp2_with fail
      refine (lead_any w.heap.size (List.replicate (n + 1) (-1)) 0 0 _ (unhide hH) (by simp) (by simp; omega)).mono ?_
      rintro e w2 ⟨rfl, hH2, hb2, _⟩
      have H2 := hide hH2
      have B2 := hide ((unhide hb).trans hb2)
      clear hH2 hb2
      go_wp2_with fail
      go_ret
      exact ⟨rfl, unhide H2, unhide B2⟩

theorem lead_at (H : Nat) (h : List Int) (p : Nat) (z x : Int) (w : World) (hz : z = p) (hh : Hts w H h) (hp : p < h.length) (hl : h.length ≤ 1000) :
    Calls Try.prog 107 #[.pointer (some ⟨H, 0, none⟩), .int .i64 z, .int .i64 x] w fun e w' => e = .returned (.tuple #[]) ∧ Hts w' H (leadM h p x) ∧ Below H w w' ∧ Steps w w' := by
  subst hz
  exact lead_any H h p x w hh hp hl

theorem on_74 {b am : Int} {m : List Bool} {l : Nat} (h : List Int) (i : Nat) (x : Int) : onM h i ⟨74, b, am, m, (l : Nat)⟩ x = leadM h (i + 1 + l) x := by simp [onM, onA]
theorem on_73 {b am : Int} {m : List Bool} {l : Nat} (h : List Int) (i : Nat) (x : Int) : onM h i ⟨73, b, am, m, (l : Nat)⟩ x = leadM (leadM h (i + 1) x) (i + 1 + l) x := by simp [onM, onA]
theorem on_else {k b am l : Int} {m : List Bool} (h4 : k ≠ 74) (h3 : k ≠ 73) (h : List Int) (i : Nat) (x : Int) : onM h i ⟨k, b, am, m, l⟩ x = leadM h (i + 1) x := by simp [onM, onA, h4, h3]

set_option maxHeartbeats 2000000 in
theorem leadOn_any (H : Nat) (h : List Int) (i : Nat) (k b am : Int) (m0 m1 m2 m3 m4 m5 m6 m7 : Bool) (l : Nat) (x : Int) (w : World) (hh : Hts w H h) (hl : h.length ≤ 1000) (hi : i + 1 < h.length) (hin : (k = 74 ∨ k = 73) → i + 1 + l < h.length) :
    Calls Try.prog 93 #[.pointer (some ⟨H, 0, none⟩), .int .i64 i, .agg #[.int .u8 k, .int .i64 b, .int .i64 am, .bool m0, .bool m1, .bool m2, .bool m3, .bool m4, .bool m5, .bool m6, .bool m7, .int .i64 (l : Nat)], .int .i64 x] w fun e w' => e = .returned (.tuple #[]) ∧ Hts w' H (onM h i ⟨k, b, am, [m0, m1, m2, m3, m4, m5, m6, m7], (l : Nat)⟩ x) ∧ Below H w w' := by
  obtain ⟨W, hW⟩ : ∃ W, w.alloc (.cells #[.int .u8 k, .int .i64 b, .int .i64 am, .bool m0, .bool m1, .bool m2, .bool m3, .bool m4, .bool m5, .bool m6, .bool m7, .int .i64 (l : Nat)] 110) = W := ⟨_, rfl⟩
  have hHlt := hh.lt
  have hBW : Below H w W := by rw [← hW]; exact (Below.refl _ _).alloc (by omega) _
  have hrow : W.heap[w.heap.size]? = some (.cells #[.int .u8 k, .int .i64 b, .int .i64 am, .bool m0, .bool m1, .bool m2, .bool m3, .bool m4, .bool m5, .bool m6, .bool m7, .int .i64 (l : Nat)] 110 (0, 0)) := by rw [← hW]; exact heap_alloc_new _ _
  have hHW : Hts W H h := by rw [← hW]; exact hh.below ((Below.refl _ _).alloc (Nat.le_refl _) _) (Nat.le_refl _)
  have hlW : w.heap.size < W.heap.size := cell_lt hrow
  have c0 := cell_of_row W w.heap.size 0 _ _ _ hrow
  have c11 := cell_of_row W w.heap.size 11 _ _ _ hrow
  simp at c0 c11
  have HW := hide hW
  have HBW := hide hBW
  have HHW := hide hHW
  clear hW hBW hHW hh
  by_cases h4 : k = 74
  · subst h4
    have hll := hin (.inl rfl)
    have HL := hide (And.intro hll (And.intro hi hl))
    rw [on_74]
    have hil : (i : Int) + 1 + l ≤ 1000 := by omega
    clear hin hll hi hl hrow
    go_enter Try.func93, Try.ntmps93
    go_wp2_with fail
    rw [unhide HW]
    go_wp2_with fail
    refine (lead_at H h (i + 1 + l) _ x _ (by omega) (unhide HHW) (unhide HL).1 (unhide HL).2.2).mono ?_
    rintro e w2 ⟨rfl, h2, b2, s2⟩
    have H2 := hide h2
    have B2 := hide ((unhide HBW).trans b2)
    clear h2 b2 s2
    go_wp2_with fail
    go_end0
    exact ⟨rfl, unhide H2, unhide B2⟩
  have n4 : (k == 74) = false := beq_eq_false_iff_ne.2 h4
  have n4' : (k != 74) = true := by simpa using h4
  by_cases h3 : k = 73
  · subst h3
    have hll := hin (.inr rfl)
    have HL := hide (And.intro hll (And.intro hi hl))
    rw [on_73]
    have hil : (i : Int) + 1 + l ≤ 1000 := by omega
    have HROW := hide hrow
    clear hin hll hi hl hrow n4 n4' h4
    go_enter Try.func93, Try.ntmps93
    go_wp2_with fail
    rw [unhide HW]
    go_wp2_with fail
    refine (lead_at H h (i + 1) _ x _ (by omega) (unhide HHW) (unhide HL).2.1 (unhide HL).2.2).mono ?_
    rintro e w2 ⟨rfl, h2, b2, s2⟩
    have hrow2 := s2 _ _ (unhide HROW)
    have hlW2 : w.heap.size < w2.heap.size := cell_lt hrow2
    have H2 := hide h2
    have B2 := hide ((unhide HBW).trans b2)
    clear h2 b2 s2 c0 c11
    have c0 := cell_of_row w2 w.heap.size 0 _ _ _ hrow2
    have c11 := cell_of_row w2 w.heap.size 11 _ _ _ hrow2
    simp at c0 c11
    clear hrow2
    have HL2 : Hid (i + 1 + l < (leadM h (i + 1) x).length ∧ (leadM h (i + 1) x).length ≤ 1000) := by
      rw [Split.lead_len]
      exact ⟨(unhide HL).1, (unhide HL).2.2⟩
    go_wp2_with fail
    refine (lead_at H (leadM h (i + 1) x) (i + 1 + l) _ x _ (by omega) (unhide H2) (unhide HL2).1 (unhide HL2).2).mono ?_
    rintro e w3 ⟨rfl, h3, b3, s3⟩
    have H3 := hide h3
    have B3 := hide ((unhide B2).trans b3)
    clear h3 b3 s3
    go_wp2_with fail
    go_end0
    exact ⟨rfl, unhide H3, unhide B3⟩
  · have n3 : (k == 73) = false := beq_eq_false_iff_ne.2 h3
    rw [on_else h4 h3]
    have HL := hide (And.intro hi hl)
    have hil : (i : Int) + 1 ≤ 1000 := by omega
    have HROW := hide hrow
    clear hin hi hl hrow h4 h3
    go_enter Try.func93, Try.ntmps93
    go_wp2_with fail
    rw [unhide HW]
    go_wp2_with fail
    refine (lead_at H h (i + 1) _ x _ (by omega) (unhide HHW) (unhide HL).1 (unhide HL).2).mono ?_
    rintro e w2 ⟨rfl, h2, b2, s2⟩
    have hrow2 := s2 _ _ (unhide HROW)
    have hlW2 : w.heap.size < w2.heap.size := cell_lt hrow2
    have H2 := hide h2
    have B2 := hide ((unhide HBW).trans b2)
    clear h2 b2 s2 c0 c11
    have c0 := cell_of_row w2 w.heap.size 0 _ _ _ hrow2
    simp at c0
    clear hrow2
    go_wp2_with fail
    go_end0
    exact ⟨rfl, unhide H2, unhide B2⟩
end Go.Proofs.Ytmdjdpofpkgffab

/- split's checkHeld. -/
namespace Go.Proofs.Ytmdjdpofpkgffab
open Go.ChangeShapes Go.WideShapes Go.ChangeAt Go.RowKit
open Split (St SOk joinM leadM growM onA onM heldGo hInit heldM InCode)
set_option linter.unusedVariables false
set_option linter.unusedSimpArgs false

def heldE (ss : List St) : Int := if heldM ss = -1 then 0 else 7
def heldP (ss : List St) : Int := if heldM ss = -1 then 0 else heldM ss

theorem join_bd {o x : Int} (hx : 0 ≤ x) (hx5 : x ≤ 5) : -2 ≤ joinM o x ∧ joinM o x ≤ 5 := by
  rcases Split.joinM_or o x with h | h <;> rw [h] <;> omega
theorem lead_bd {h : List Int} {p : Nat} {x : Int} (hp : p < h.length) (hx : 0 ≤ x) (hx5 : x ≤ 5) (hh : ∀ j, -2 ≤ h.getD j 0 ∧ h.getD j 0 ≤ 5) (j : Nat) : -2 ≤ (leadM h p x).getD j 0 ∧ (leadM h p x).getD j 0 ≤ 5 := by
  rw [Split.lead_get x hp]
  split
  · exact join_bd hx hx5
  · exact hh j
theorem on_bd {h : List Int} {n i : Nat} {s : St} {x : Int} (hl : h.length = n + 1) (hi : i < n) (hs : InCode n i s) (hx : 0 ≤ x) (hx5 : x ≤ 5) (hh : ∀ j, -2 ≤ h.getD j 0 ∧ h.getD j 0 ≤ 5) (j : Nat) : -2 ≤ (onM h i s x).getD j 0 ∧ (onM h i s x).getD j 0 ≤ 5 := by
  have hA : ∀ j, -2 ≤ (onA h i s x).getD j 0 ∧ (onA h i s x).getD j 0 ≤ 5 := by
    intro j
    unfold onA
    split
    · exact hh j
    · exact lead_bd (by omega) hx hx5 hh j
  unfold onM
  split
  · rename_i hk
    have := hs hk
    exact lead_bd (by rw [Split.onA_len]; omega) hx hx5 hA j
  · exact hA j
theorem init_bd (n j : Nat) : -2 ≤ (hInit n).getD j 0 ∧ (hInit n).getD j 0 ≤ 5 := by
  unfold hInit
  cases j with
  | zero => simp
  | succ j =>
    rw [List.getD_cons_succ, List.getD_eq_getElem?_getD, List.getElem?_replicate]
    split <;> simp

theorem grow_bd (k : Int) : -1 ≤ growM k ∧ growM k ≤ 1 := by
  unfold growM
  split
  · omega
  split <;> omega

set_option maxRecDepth 100000 in
set_option maxHeartbeats 4000000 in
theorem checkHeld_any (ss : List St) (base : Nat) (sa : Option Addr) (scap : Nat) (w : World) (hS : w.ownsRow base 110 12 (.slice sa ss.length scap) ss.length (flat ss)) (hok : ∀ s ∈ ss, SOk s) (hin : ∀ (i : Nat) (h : i < ss.length), InCode ss.length i ss[i]) (hl : ss.length ≤ 200) :
    Calls Try.prog 71 #[.slice sa ss.length scap] w fun e w' => e = .returned (.tuple #[.int .i64 (heldE ss), .int .i64 (heldP ss)]) ∧ Below w.heap.size w w' := by
  obtain ⟨_, _, he, hcap, hsa⟩ := own_slice hS
  simp only [Value.slice.injEq, true_and] at he
  obtain ⟨rfl, rfl⟩ := he
  have HS := hide hS
  have HOK := hide hok
  have HIN := hide hin
  have HSA := hide hsa
  obtain ⟨n, hn⟩ : ∃ n, ss.length = n := ⟨_, rfl⟩
  have HN := hide hn
  rw [hn] at hl hcap ⊢
  clear hS hok hin hn hsa
  go_enter Try.func71, Try.ntmps71
  go_wp2_with fail
  refine (newHeights_any _ n _ (by omega) (by omega)).mono ?_
  rintro e w1 ⟨rfl, hH1, hb1⟩
  have H1 := hide hH1
  have B1 := hide hb1
  obtain ⟨H, hH⟩ : ∃ H, w.heap.size = H := ⟨_, rfl⟩
  rw [hH] at H1 B1 ⊢
  have HH := hide hH
  clear hH1 hb1 hH
  go_wp2_with fail
  go_loopw [5] (fun aa wr => ∃ (i : Nat) (h : List Int), i ≤ n ∧ aa = .int .i64 i ∧ h.length = n + 1 ∧ Hid (∀ j, -2 ≤ h.getD j 0 ∧ h.getD j 0 ≤ 5) ∧ Hid (Hts wr H h) ∧ Hid (heldM ss = heldGo ss (n - i) i h) ∧ Hid (Below H w wr)) (fun aa _ => n - (intOf aa).toNat)
  case atStart =>
    refine ⟨0, hInit n, by omega, rfl, by simp [hInit], init_bd n, H1, ?_, B1⟩
    show heldM ss = _
    unfold heldM
    rw [unhide HN]
    rfl
  case round =>
    obtain ⟨i, h, hi, rfl, hhl, hbd, hH, hgo, hb⟩ := hrel
    obtain ⟨g, gcap, hg, hgc, hr, ho⟩ := (unhide hH).view (by omega)
    rw [hhl] at hgc hr ho
    have cH := cell_of_row wr H 0 _ _ _ hr
    simp at cH
    have hHlt := (unhide hH).lt
    clear H1 B1 hr
    have cx : ∀ j, j < n + 1 → wr.cell? ⟨g, j, none⟩ = some (.int .i64 (h.getD j 0)) := by
      intro j hj
      rw [ho.cellAt j (by omega), List.getElem?_map, List.getElem?_eq_getElem (by omega)]
      simp [List.getD_eq_getElem?_getD, List.getElem?_eq_getElem (show j < h.length by omega)]
    have CX := hide cx
    clear cx ho
    by_cases hlt : i < n
    · have ci := unhide CX i (by omega)
      have hb2 := unhide hbd i
      have hsl : i < ss.length := by rw [unhide HN]; exact hlt
      obtain ⟨f, hf⟩ : ∃ f, n - i = f + 1 := ⟨n - i - 1, by omega⟩
      have hf2 : n - (i + 1) = f := by omega
      have HF := hide hf2
      have hgo' : heldM ss = (if h.getD i 0 = -1 then heldGo ss f (i + 1) h
        else if h.getD i 0 = -2 ∨ h.getD i 0 + growM ss[i].kind < 0 ∨ 5 < h.getD i 0 + growM ss[i].kind then (i : Int)
        else heldGo ss f (i + 1) (onM h i ss[i] (h.getD i 0 + growM ss[i].kind))) := by
        have := unhide hgo
        rw [hf] at this
        rw [this]
        simp only [heldGo, List.getElem?_eq_getElem hsl]
      have HGO := hide hgo'
      obtain ⟨x, hx⟩ : ∃ x, h.getD i 0 = x := ⟨_, rfl⟩
      rw [hx] at HGO ci hb2
      have HX := hide hx
      clear hgo' hgo hf hf2 hx
      by_cases hx1 : x = -1
      · subst hx1
        have hgo2 : Hid (heldM ss = heldGo ss f (i + 1) h) := by
          have := unhide HGO
          rw [if_pos rfl] at this
          exact this
        clear HGO
        go_wp2_with fail
        go_roundw
        case rel => exact ⟨i + 1, h, by omega, by go_num, hhl, hbd, hH, by rw [unhide HF]; exact hgo2, hb⟩
        case measure => simp [intOf]; omega
      · have q1 : (x == -1) = false := beq_eq_false_iff_ne.2 hx1
        have hso := unhide HOK _ (List.getElem_mem hsl)
        have hic := unhide HIN i hsl
        rw [unhide HN] at hic
        obtain ⟨⟨kind, bucket, amount, among, leave⟩, hse⟩ : ∃ s, ss[i] = s := ⟨_, rfl⟩
        rw [hse] at hso hic HGO
        obtain ⟨⟨b, hb8, hbe⟩, ha0, ha1, hah, ham, ⟨l, hl1, hle⟩⟩ := hso
        dsimp only at hbe ha0 ha1 hah ham hle
        subst hbe
        subst hle
        obtain ⟨m0, m1, m2, m3, m4, m5, m6, m7, hame⟩ : ∃ m0 m1 m2 m3 m4 m5 m6 m7, among = [m0, m1, m2, m3, m4, m5, m6, m7] := by
          match among, ham with
          | [m0, m1, m2, m3, m4, m5, m6, m7], _ => exact ⟨m0, m1, m2, m3, m4, m5, m6, m7, rfl⟩
        subst hame
        obtain ⟨gs, hgs⟩ := unhide HSA (by omega)
        subst hgs
        have hgsl : gs < H := by
          have := ((unhide HS).lt gs rfl).2
          have := unhide HH
          omega
        have hcells := step_cells (unhide HS) rfl hsl hse
        obtain ⟨d0, d1, d2, d3, d4, d5, d6, d7, d8, d9, d10, d11⟩ := hcells
        rw [← (unhide hb).cell (p := ⟨gs, _, none⟩) hgsl] at d0 d1 d2 d3 d4 d5 d6 d7 d8 d9 d10 d11
        have hgb := grow_bd kind
        obtain ⟨y, hy⟩ : ∃ y, growM kind = y := ⟨_, rfl⟩
        dsimp only at HGO
        rw [hy] at hgb HGO
        have HY := hide hy
        have HIC := hide hic
        clear hy ham hse hic hah
        have HG : Hid (∀ w', Calls Try.prog 92 #[.int .u8 kind] w' fun e w'' => e = .returned (.int .i64 y) ∧ w'' = w') := by
          intro w'
          have := growth_any kind w'
          rw [unhide HY] at this
          exact this
        have hwr : IntKind.i64.wrap (x + y) = x + y := wrap_small (by omega) (by omega)
        go_wp2_with fail
        go_quiet ((go_at_call 92; exact Calls.quiet_of_same (unhide HG _)))
        have hdr : ∀ a, (wr.drewN nq).cell? a = wr.cell? a := fun _ => rfl
        by_cases hbad : x = -2 ∨ x + y < 0 ∨ 5 < x + y
        · have hgo2 : heldM ss = i := by
            have := unhide HGO
            rw [if_neg hx1, if_pos hbad] at this
            exact this
          have e1 : heldE ss = 7 := by unfold heldE; rw [if_neg (by omega)]
          have e2 : heldP ss = i := by unfold heldP; rw [if_neg (by omega), hgo2]
          have HE := hide (And.intro e1 e2)
          clear e1 e2 hgo2 HGO
          by_cases hx2 : x = -2
          · subst hx2
            go_wp2_with fail
            go_ret2
            exact ⟨by rw [(unhide HE).1, (unhide HE).2]; rfl, by rw [unhide HH]; exact below_drewN (unhide hb) _⟩
          · have q2 : (x == -2) = false := beq_eq_false_iff_ne.2 hx2
            by_cases hneg : x + y < 0
            · go_wp2_with fail
              go_ret2
              exact ⟨by rw [(unhide HE).1, (unhide HE).2]; rfl, by rw [unhide HH]; exact below_drewN (unhide hb) _⟩
            · have hgt : 5 < x + y := by omega
              go_wp2_with fail
              go_ret2
              exact ⟨by rw [(unhide HE).1, (unhide HE).2]; rfl, by rw [unhide HH]; exact below_drewN (unhide hb) _⟩
        · have hgo2 : Hid (heldM ss = heldGo ss f (i + 1) (onM h i ⟨kind, (b : Nat), amount, [m0, m1, m2, m3, m4, m5, m6, m7], (l : Nat)⟩ (x + y))) := by
            have := unhide HGO
            rw [if_neg hx1, if_neg hbad] at this
            exact this
          have hx2 : x ≠ -2 := fun e => hbad (.inl e)
          have hy0 : 0 ≤ x + y := by omega
          have hy5 : x + y ≤ 5 := by omega
          have q2 : (x == -2) = false := beq_eq_false_iff_ne.2 hx2
          have HNB := hide (on_bd hhl hlt (unhide HIC) hy0 hy5 (unhide hbd))
          have HNL : Hid (i + 1 < h.length ∧ h.length ≤ 1000 ∧ ((kind = 74 ∨ kind = 73) → i + 1 + l < h.length)) := by
            refine ⟨by omega, by omega, fun hk => ?_⟩
            have := unhide HIC hk
            dsimp only [Int.toNat_natCast] at this
            omega
          clear HGO hbad
          have HH2 : Hid (Hts (wr.drewN nq) H h) := (unhide hH).below (below_drewN (Below.refl _ _) _) (Nat.le_refl _)
          go_wp2_with fail
          refine (leadOn_any H h i kind (b : Nat) amount m0 m1 m2 m3 m4 m5 m6 m7 l (x + y) _ (unhide HH2) (unhide HNL).2.1 (unhide HNL).1 (unhide HNL).2.2).mono ?_
          rintro e w3 ⟨rfl, h3, b3⟩
          have H3 := hide h3
          have B3 := hide ((below_drewN (unhide hb) _).trans b3)
          clear h3 b3
          go_wp2_with fail
          go_roundw
          case rel => exact ⟨i + 1, _, by omega, by go_num, (Split.on_len _ _ _ _).trans hhl, HNB, H3, by rw [unhide HF]; exact hgo2, B3⟩
          case measure => simp [intOf]; omega
    · have hin : i = n := by omega
      subst hin
      have ci := unhide CX i (by omega)
      have hgo2 : heldM ss = if h.getD i 0 = 0 then -1 else (i : Int) := by
        have := unhide hgo
        rw [Nat.sub_self] at this
        exact this
      obtain ⟨x, hx⟩ : ∃ x, h.getD i 0 = x := ⟨_, rfl⟩
      rw [hx] at ci hgo2
      clear hx hgo
      by_cases hx0 : x = 0
      · subst hx0
        rw [if_pos rfl] at hgo2
        have e1 : heldE ss = 0 := by unfold heldE; rw [if_pos hgo2]
        have e2 : heldP ss = 0 := by unfold heldP; rw [if_pos hgo2]
        have HE := hide (And.intro e1 e2)
        clear e1 e2 hgo2
        go_wp2_with fail
        go_ret2
        exact ⟨by rw [(unhide HE).1, (unhide HE).2]; rfl, by rw [unhide HH]; exact unhide hb⟩
      · rw [if_neg hx0] at hgo2
        have e1 : heldE ss = 7 := by unfold heldE; rw [if_neg (by omega)]
        have e2 : heldP ss = i := by unfold heldP; rw [if_neg (by omega), hgo2]
        have HE := hide (And.intro e1 e2)
        have q0 : (x != 0) = true := by simpa using hx0
        clear e1 e2 hgo2
        go_wp2_with fail
        go_ret2
        exact ⟨by rw [(unhide HE).1, (unhide HE).2]; rfl, by rw [unhide HH]; exact unhide hb⟩
end Go.Proofs.Ytmdjdpofpkgffab
