/- HeldW -/
import Derived.Test.YtbpolcnjojlkjabPack9
import Derived.Test.YtbpolcnjojlkjabPack8

/- split's heights in memory: growth, lead, newHeights, leadOn. -/
namespace Go.Proofs.Ytbpolcnjojlkjab
open Go.ChangeShapes Go.WideShapes Go.ChangeAt Go.RowKit
open Split (St joinM leadM growM onA onM heldGo hInit heldM)
set_option linter.unusedVariables false
set_option linter.unusedSimpArgs false

theorem growth_any (k : Int) (w : World) : Calls Try.prog 52 #[.int .u8 k] w fun e w' => e = .returned (.int .i64 (growM k)) ∧ w' = w := by
  by_cases h72 : k = 72
  · subst h72
    go_enter Try.func52, Try.ntmps52
    go_wp2
    go_ret
    exact ⟨rfl, rfl⟩
  · by_cases h69 : k = 69
    · subst h69
      go_enter Try.func52, Try.ntmps52
      go_wp2
      go_ret
      exact ⟨rfl, rfl⟩
    · have e : growM k = 0 := by unfold growM; rw [if_neg h72, if_neg h69]
      rw [e]
      have q1 : (k == 72) = false := beq_eq_false_iff_ne.2 h72
      have q2 : (k == 69) = false := beq_eq_false_iff_ne.2 h69
      clear e h72 h69
      go_enter Try.func52, Try.ntmps52
      go_wp2
      go_ret
      exact ⟨rfl, rfl⟩

/-- The heights that lie in block H. -/
def Hts (w : World) (H : Nat) (h : List Int) : Prop := ∃ vh, w.heap[H]? = some (.cells #[vh] 89 (0, 0)) ∧ w.ownsRow (H + 1) 3 1 vh h.length (h.map (Value.int .i64))

theorem Hts.lt {w : World} {H : Nat} {h : List Int} (hh : Hts w H h) : H < w.heap.size := by
  obtain ⟨vh, hr, _⟩ := hh
  exact cell_lt hr

theorem Hts.view {w : World} {H : Nat} {h : List Int} (hh : Hts w H h) (hn : 0 < h.length) : ∃ g cap, H < g ∧ h.length ≤ cap ∧ w.heap[H]? = some (.cells #[.slice (some ⟨g, 0, none⟩) h.length cap] 89 (0, 0)) ∧ w.ownsRow (H + 1) 3 1 (.slice (some ⟨g, 0, none⟩) h.length cap) h.length (h.map (Value.int .i64)) := by
  obtain ⟨vh, hr, ho⟩ := hh
  obtain ⟨a, cap, rfl, hc, ha⟩ := own_slice ho
  obtain ⟨g, rfl⟩ := ha hn
  exact ⟨g, cap, (ho.lt g rfl).1, hc, hr, ho⟩

theorem Hts.set {w : World} {H : Nat} {h : List Int} {g cap : Nat} (hg : H < g) (hr : w.heap[H]? = some (.cells #[.slice (some ⟨g, 0, none⟩) h.length cap] 89 (0, 0))) (ho : w.ownsRow (H + 1) 3 1 (.slice (some ⟨g, 0, none⟩) h.length cap) h.length (h.map (Value.int .i64))) (p : Nat) (x : Int) : Hts (w.setCell ⟨g, p, none⟩ (.int .i64 x)) H (h.set p x) := by
  refine ⟨.slice (some ⟨g, 0, none⟩) h.length cap, ?_, ?_⟩
  · rw [Below.heap_setCell _ _ _ _ (by show H ≠ g; omega)]
    exact hr
  · have := (ho.stored p (.int .i64 x)).1
    rw [← List.map_set] at this
    rw [List.length_set]
    exact this

theorem Hts.below {w w' : World} {H B : Nat} {h : List Int} (hh : Hts w H h) (hb : Below B w w') (hB : w.heap.size ≤ B) : Hts w' H h := by
  obtain ⟨vh, hr, ho⟩ := hh
  refine ⟨vh, (hb.block H (by have := cell_lt hr; omega)).trans hr, ho.1, ?_⟩
  rcases ho.2 with ⟨q, q'⟩ | ⟨g', cap', cur, q, q1, q2, q3⟩
  · exact .inl ⟨q, q'⟩
  · exact .inr ⟨g', cap', cur, q, q1, by rw [hb.block g' (by have := cell_lt q2; omega)]; exact q2, q3⟩

/-- Blocks of steps are as they were. -/
def Steps (w w' : World) : Prop := ∀ (b : Nat) (o : Array Value), w.heap[b]? = some (.cells o 63 (0, 0)) → w'.heap[b]? = some (.cells o 63 (0, 0))

theorem steps_set {w : World} {base g n cap p : Nat} {L : List Value} {v : Value} (ho : w.ownsRow base 3 1 (.slice (some ⟨g, 0, none⟩) n cap) n L) : Steps w (w.setCell ⟨g, p, none⟩ v) := by
  intro b o hb
  by_cases hbg : b = g
  · exfalso
    rcases ho.2 with ⟨q, _⟩ | ⟨g', cap', cur, q, q1, q2, q3⟩
    · simp at q
    · simp only [Value.slice.injEq, Option.some.injEq, Addr.mk.injEq, and_true, true_and] at q
      obtain ⟨rfl, rfl⟩ := q
      rw [hbg, q2] at hb
      simp at hb
  · rw [Below.heap_setCell _ _ _ _ (by exact hbg)]
    exact hb

set_option maxHeartbeats 1000000 in
theorem lead_any (H : Nat) (h : List Int) (p : Nat) (x : Int) (w : World) (hh : Hts w H h) (hp : p < h.length) (hl : h.length ≤ 1000) :
    Calls Try.prog 69 #[.pointer (some ⟨H, 0, none⟩), .int .i64 p, .int .i64 x] w fun e w' => e = .returned (.tuple #[]) ∧ Hts w' H (leadM h p x) ∧ Below H w w' ∧ Steps w w' := by
  obtain ⟨g, cap, hg, hcap, hr, ho⟩ := hh.view (by omega)
  have cH := cell_of_row w H 0 _ _ _ hr
  simp at cH
  have cx : w.cell? ⟨g, p, none⟩ = some (.int .i64 (h.getD p 0)) := by
    rw [ho.cellAt p (by omega), List.getElem?_map, List.getElem?_eq_getElem hp]
    simp [List.getD_eq_getElem?_getD, List.getElem?_eq_getElem hp]
  have fx := ho.frozenAt p
  have HR := hide hr
  have HO := hide ho
  have HH := hide hh
  obtain ⟨n, hn⟩ : ∃ n, h.length = n := ⟨_, rfl⟩
  have hset : ∀ v, Hid (Hts (w.setCell ⟨g, p, none⟩ (.int .i64 v)) H (h.set p v)) := fun v => Hts.set hg hr ho p v
  have HSET := hide hset
  have hle : leadM h p x = h.set p (joinM (h.getD p 0) x) := rfl
  have hsame : h.set p (h.getD p 0) = h := by
    apply List.ext_getElem?
    intro j
    rw [List.getElem?_set]
    by_cases hj : p = j
    · subst hj
      rw [if_pos rfl, if_pos hp, List.getD_eq_getElem?_getD, List.getElem?_eq_getElem hp]
      rfl
    · rw [if_neg hj]
  rw [hle]
  obtain ⟨o, hoe⟩ : ∃ o, h.getD p 0 = o := ⟨_, rfl⟩
  rw [hoe] at cx hsame ⊢
  have HSAME := hide hsame
  rw [hn] at cH hp hcap hl
  have HN := hide hn
  have hb : ∀ v, Hid (Below H w (w.setCell ⟨g, p, none⟩ v)) := fun v => (Below.refl _ _).setCell (p := ⟨g, p, none⟩) (Nat.le_of_lt hg) _
  have HB := hide hb
  have hst : ∀ v, Hid (Steps w (w.setCell ⟨g, p, none⟩ v)) := fun v => steps_set ho
  have HST := hide hst
  clear hr ho hh hset hle hsame hoe hn hb hst
  by_cases h1 : o = -1
  · subst h1
    have e : joinM (-1) x = x := by unfold joinM; rw [if_pos (.inl rfl)]
    rw [e]
    clear e
    go_enter Try.func69, Try.ntmps69
    go_wp2
    go_end0
    exact ⟨rfl, unhide HSET x, unhide HB _, unhide HST _⟩
  · have q1 : (o == -1) = false := beq_eq_false_iff_ne.2 h1
    by_cases h2 : o = x
    · subst h2
      have e : joinM o o = o := by unfold joinM; rw [if_pos (.inr rfl)]
      rw [e, unhide HSAME]
      have q2 : (o != o) = false := by simp
      clear e h1
      go_enter Try.func69, Try.ntmps69
      go_wp2
      go_end0
      exact ⟨rfl, unhide HH, Below.refl _ _, fun _ _ h => h⟩
    · have e : joinM o x = -2 := by
        unfold joinM
        rw [if_neg (by rintro (h | h); exact h1 h; exact h2 h)]
      rw [e]
      have q2 : (o != x) = true := by simpa using h2
      clear e h1 h2
      go_enter Try.func69, Try.ntmps69
      go_wp2
      go_end0
      exact ⟨rfl, unhide HSET (-2), unhide HB _, unhide HST _⟩

set_option maxRecDepth 4000 in
set_option maxHeartbeats 1000000 in
theorem newHeights_any (z : Int) (n : Nat) (w : World) (hn : n ≤ 900) (hz : z = n + 1) :
    Calls Try.prog 51 #[.int .i64 z] w fun e w' => e = .returned (.pointer (some ⟨w.heap.size, 0, none⟩)) ∧ Hts w' w.heap.size (hInit n) ∧ Below w.heap.size w w' := by
  obtain ⟨i0, hi, hz0, hz1, hz2⟩ := info_parts infoInt
  have HZ := hide hz
  clear hz
  go_enter Try.func51, Try.ntmps51
  go_wp2_with fail
  go_loopw [4] (fun ii wr => ∃ k : Nat, k ≤ n + 1 ∧ ii = .int .i64 k ∧ Hid (Hts wr w.heap.size (List.replicate k (-1))) ∧ Hid (Below w.heap.size w wr)) (fun ii _ => n + 1 - (intOf ii).toNat)
  case atStart =>
    refine ⟨0, by omega, rfl, ⟨.slice none 0 0, heap_alloc_new _ _, World.ownsRow_nil _ _ _ _⟩, ?_⟩
    exact (Below.refl _ _).alloc (Nat.le_refl _) _
  case round =>
    obtain ⟨k, hk, rfl, hH, hb⟩ := hrel
    have hHlt := (unhide hH).lt
    by_cases hlt0 : k < n + 1
    · have hlt : (k : Int) < z := by have := unhide HZ; omega
      obtain ⟨vh, hr, ho⟩ := unhide hH
      rw [List.length_replicate] at ho
      obtain ⟨ha, hcap, rfl, hhc, _⟩ := own_slice ho
      have cH := cell_of_row wr w.heap.size 0 _ _ _ hr
      have fH := frozen_of_row wr w.heap.size 0 _ _ hr
      simp at cH
      have HR := hide hr
      have HO := hide ho
      clear hr ho
      go_wp2_with (at_builtin; refine wpList_append_own _ rfl (.tmp 16) (.tmp 17) 22 rfl (w.heap.size + 1) 3 i0 (.int .i64 0) 1 8 Try.underlying22 hi hz0 hz1 hz2 rfl (by decide) _ k ((List.replicate k (-1)).map (Value.int .i64)) rfl (by exact World.ownsRow.alloc (unhide HO) _) ⟨wr.heap.size, 0, none⟩ 1 1 [.int .i64 (-1)] rfl rfl (by intro j u hj; match j, hj with | 0, hj => simp at hj; subst hj; simp [Addr.add]) (by intro u hu; simp at hu; subst hu; rfl) (by unfold maxLen; omega) (by omega) (by simp; omega) ?_; intro v' w1 hown hgrow _; have hr1 := (hgrow.block w.heap.size (by simp; omega) (own_base (unhide HO) (Nat.lt_succ_self _))).trans ((Go.heap_alloc_old _ _ hHlt).trans (unhide HR)); have cH1 := cell_of_row w1 w.heap.size 0 _ _ _ hr1; have fH1 := frozen_of_row w1 w.heap.size 0 _ _ hr1; obtain ⟨a2, cap2, rfl, hle2, _⟩ := own_slice hown)
      go_roundw
      case rel =>
        refine ⟨k + 1, by omega, by go_num, ⟨.slice a2 (k + 1) cap2, ?_, ?_⟩, ?_⟩
        · rw [heap_setCell_same w1 _ 0 _ _ _ hr1]
          rfl
        · have := World.ownsRow.kept hown (grown_set (grown_refl _ _) 0 (.slice a2 (k + 1) cap2)) (own_ne hown (Nat.lt_succ_self _))
          rw [List.length_replicate, List.replicate_succ', List.map_append]
          exact this
        · exact (((unhide hb).alloc (by omega) _).trans (below_of_grown hgrow (by simp; omega) (fun k hk => by have := (unhide HO).lt k hk; omega))).setCell (p := ⟨w.heap.size, 0, none⟩) (Nat.le_refl _) _
      case measure => simp [intOf]; omega
    · have hke : k = n + 1 := by omega
      subst hke
      have hlt : ¬ ((n + 1 : Nat) : Int) < z := by have := unhide HZ; omega
      go_wp2_with fail
      refine (lead_any w.heap.size (List.replicate (n + 1) (-1)) 0 0 _ (unhide hH) (by simp) (by simp; omega)).mono ?_
      rintro e w2 ⟨rfl, hH2, hb2, _⟩
      have H2 := hide hH2
      have B2 := hide ((unhide hb).trans hb2)
      clear hH2 hb2
      go_wp2_with fail
      go_ret
      exact ⟨rfl, unhide H2, unhide B2⟩

theorem lead_at (H : Nat) (h : List Int) (p : Nat) (z x : Int) (w : World) (hz : z = p) (hh : Hts w H h) (hp : p < h.length) (hl : h.length ≤ 1000) :
    Calls Try.prog 69 #[.pointer (some ⟨H, 0, none⟩), .int .i64 z, .int .i64 x] w fun e w' => e = .returned (.tuple #[]) ∧ Hts w' H (leadM h p x) ∧ Below H w w' ∧ Steps w w' := by
  subst hz
  exact lead_any H h p x w hh hp hl

theorem on_74 {b am : Int} {m : List Bool} {l : Nat} (h : List Int) (i : Nat) (x : Int) : onM h i ⟨74, b, am, m, (l : Nat)⟩ x = leadM h (i + 1 + l) x := by simp [onM, onA]
theorem on_73 {b am : Int} {m : List Bool} {l : Nat} (h : List Int) (i : Nat) (x : Int) : onM h i ⟨73, b, am, m, (l : Nat)⟩ x = leadM (leadM h (i + 1) x) (i + 1 + l) x := by simp [onM, onA]
theorem on_else {k b am l : Int} {m : List Bool} (h4 : k ≠ 74) (h3 : k ≠ 73) (h : List Int) (i : Nat) (x : Int) : onM h i ⟨k, b, am, m, l⟩ x = leadM h (i + 1) x := by simp [onM, onA, h4, h3]

set_option maxHeartbeats 2000000 in
theorem leadOn_any (H : Nat) (h : List Int) (i : Nat) (k b am : Int) (m0 m1 m2 m3 m4 m5 m6 m7 : Bool) (l : Nat) (x : Int) (w : World) (hh : Hts w H h) (hl : h.length ≤ 1000) (hi : i + 1 < h.length) (hin : (k = 74 ∨ k = 73) → i + 1 + l < h.length) :
    Calls Try.prog 53 #[.pointer (some ⟨H, 0, none⟩), .int .i64 i, .agg #[.int .u8 k, .int .i64 b, .int .i64 am, .bool m0, .bool m1, .bool m2, .bool m3, .bool m4, .bool m5, .bool m6, .bool m7, .int .i64 (l : Nat)], .int .i64 x] w fun e w' => e = .returned (.tuple #[]) ∧ Hts w' H (onM h i ⟨k, b, am, [m0, m1, m2, m3, m4, m5, m6, m7], (l : Nat)⟩ x) ∧ Below H w w' := by
  obtain ⟨W, hW⟩ : ∃ W, w.alloc (.cells #[.int .u8 k, .int .i64 b, .int .i64 am, .bool m0, .bool m1, .bool m2, .bool m3, .bool m4, .bool m5, .bool m6, .bool m7, .int .i64 (l : Nat)] 63) = W := ⟨_, rfl⟩
  have hHlt := hh.lt
  have hBW : Below H w W := by rw [← hW]; exact (Below.refl _ _).alloc (by omega) _
  have hrow : W.heap[w.heap.size]? = some (.cells #[.int .u8 k, .int .i64 b, .int .i64 am, .bool m0, .bool m1, .bool m2, .bool m3, .bool m4, .bool m5, .bool m6, .bool m7, .int .i64 (l : Nat)] 63 (0, 0)) := by rw [← hW]; exact heap_alloc_new _ _
  have hHW : Hts W H h := by rw [← hW]; exact hh.below ((Below.refl _ _).alloc (Nat.le_refl _) _) (Nat.le_refl _)
  have hlW : w.heap.size < W.heap.size := cell_lt hrow
  have c0 := cell_of_row W w.heap.size 0 _ _ _ hrow
  have c11 := cell_of_row W w.heap.size 11 _ _ _ hrow
  simp at c0 c11
  have HW := hide hW
  have HBW := hide hBW
  have HHW := hide hHW
  clear hW hBW hHW hh
  by_cases h4 : k = 74
  · subst h4
    have hll := hin (.inl rfl)
    have HL := hide (And.intro hll (And.intro hi hl))
    rw [on_74]
    have hil : (i : Int) + 1 + l ≤ 1000 := by omega
    clear hin hll hi hl hrow
    go_enter Try.func53, Try.ntmps53
    go_wp2_with fail
    rw [unhide HW]
    go_wp2_with fail
    refine (lead_at H h (i + 1 + l) _ x _ (by omega) (unhide HHW) (unhide HL).1 (unhide HL).2.2).mono ?_
    rintro e w2 ⟨rfl, h2, b2, s2⟩
    have H2 := hide h2
    have B2 := hide ((unhide HBW).trans b2)
    clear h2 b2 s2
    go_wp2_with fail
    go_end0
    exact ⟨rfl, unhide H2, unhide B2⟩
  have n4 : (k == 74) = false := beq_eq_false_iff_ne.2 h4
  have n4' : (k != 74) = true := by simpa using h4
  by_cases h3 : k = 73
  · subst h3
    have hll := hin (.inr rfl)
    have HL := hide (And.intro hll (And.intro hi hl))
    rw [on_73]
    have hil : (i : Int) + 1 + l ≤ 1000 := by omega
    have HROW := hide hrow
    clear hin hll hi hl hrow n4 n4' h4
    go_enter Try.func53, Try.ntmps53
    go_wp2_with fail
    rw [unhide HW]
    go_wp2_with fail
    refine (lead_at H h (i + 1) _ x _ (by omega) (unhide HHW) (unhide HL).2.1 (unhide HL).2.2).mono ?_
    rintro e w2 ⟨rfl, h2, b2, s2⟩
    have hrow2 := s2 _ _ (unhide HROW)
    have hlW2 : w.heap.size < w2.heap.size := cell_lt hrow2
    have H2 := hide h2
    have B2 := hide ((unhide HBW).trans b2)
    clear h2 b2 s2 c0 c11
    have c0 := cell_of_row w2 w.heap.size 0 _ _ _ hrow2
    have c11 := cell_of_row w2 w.heap.size 11 _ _ _ hrow2
    simp at c0 c11
    clear hrow2
    have HL2 : Hid (i + 1 + l < (leadM h (i + 1) x).length ∧ (leadM h (i + 1) x).length ≤ 1000) := by
      rw [Split.lead_len]
      exact ⟨(unhide HL).1, (unhide HL).2.2⟩
    go_wp2_with fail
    refine (lead_at H (leadM h (i + 1) x) (i + 1 + l) _ x _ (by omega) (unhide H2) (unhide HL2).1 (unhide HL2).2).mono ?_
    rintro e w3 ⟨rfl, h3, b3, s3⟩
    have H3 := hide h3
    have B3 := hide ((unhide B2).trans b3)
    clear h3 b3 s3
    go_wp2_with fail
    go_end0
    exact ⟨rfl, unhide H3, unhide B3⟩
  · have n3 : (k == 73) = false := beq_eq_false_iff_ne.2 h3
    rw [on_else h4 h3]
    have HL := hide (And.intro hi hl)
    have hil : (i : Int) + 1 ≤ 1000 := by omega
    have HROW := hide hrow
    clear hin hi hl hrow h4 h3
    go_enter Try.func53, Try.ntmps53
    go_wp2_with fail
    rw [unhide HW]
    go_wp2_with fail
    refine (lead_at H h (i + 1) _ x _ (by omega) (unhide HHW) (unhide HL).1 (unhide HL).2).mono ?_
    rintro e w2 ⟨rfl, h2, b2, s2⟩
    have hrow2 := s2 _ _ (unhide HROW)
    have hlW2 : w.heap.size < w2.heap.size := cell_lt hrow2
    have H2 := hide h2
    have B2 := hide ((unhide HBW).trans b2)
    clear h2 b2 s2 c0 c11
    have c0 := cell_of_row w2 w.heap.size 0 _ _ _ hrow2
    simp at c0
    clear hrow2
    go_wp2_with fail
    go_end0
    exact ⟨rfl, unhide H2, unhide B2⟩
end Go.Proofs.Ytbpolcnjojlkjab
