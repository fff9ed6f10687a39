/- The empty policy. -/
import Derived.Test.YtmdjdpofpkgffabGround
namespace Go.Proofs.Ytmdjdpofpkgffab
open Go.ChangeShapes Go.WideShapes Go.ChangeAt Go.RowKit
set_option linter.unusedVariables false
set_option linter.unusedSimpArgs false

theorem scan_empty (d : Int) (w : World) : Calls Try.prog 39 #[.string ⟨#[]⟩, .int .i64 0, .int .i64 d] w fun e w' => e = .returned (.tuple #[.int .i64 0, .int .i64 (-1), .bool true]) ∧ w' = w := by
  go_enter Try.func39, Try.ntmps39
  go_wp2_with fail
  refine wp_loop_rounds 1 ?_
  rw [rounds_succ]
  go_wp2_with fail
  go_ret3
  exact ⟨rfl, rfl⟩

theorem rcheck_empty (w : World) : Calls Try.prog 12 #[.string ⟨#[]⟩] w fun e w' => e = .returned (.tuple #[.int .i64 0, .int .i64 0]) ∧ w' = w := by
  go_enter Try.func12, Try.ntmps12
  go_wp2_with (go_at_call 39; refine (scan_empty _ _).mono ?_; rintro e w' ⟨rfl, rfl⟩)
  go_ret2
  exact ⟨rfl, rfl⟩

theorem goThrough_nil (P : Nat) (a : Option Addr) (cap : Nat) (w : World) : Calls Try.prog 74 #[.pointer (some ⟨P, 0, none⟩), .slice a 0 cap] w fun e w' => e = .returned (.tuple #[]) ∧ w' = w := by
  go_enter Try.func74, Try.ntmps74
  go_wp2_with fail
  refine wp_loop_rounds 1 ?_
  rw [rounds_succ]
  go_wp2_with fail
  go_end0
  exact ⟨rfl, rfl⟩

theorem readAll_empty (R : Nat) (w : World) (h0 : w.cell? ⟨R, 0, none⟩ = some (.string ⟨#[]⟩)) (h1 : w.cell? ⟨R, 1, none⟩ = some (.int .i64 0)) (h2 : w.cell? ⟨R, 2, none⟩ = some (.bool false)) (h4 : w.cell? ⟨R, 4, none⟩ = some (.slice none 0 0)) :
    Calls Try.prog 62 #[.pointer (some ⟨R, 0, none⟩)] w fun e w' => e = .returned (.tuple #[]) ∧ ∃ n, w' = w.drewN n := by
  go_enter Try.func62, Try.ntmps62
  go_wp2_with fail
  refine wp_loop_rounds 1 ?_
  rw [rounds_succ]
  go_wp2_with fail
  go_quiet (fail)
  go_wp2_with fail
  go_end0
  exact ⟨rfl, _, rfl⟩

theorem parse_empty (w : World) : Calls Try.prog 37 #[.string ⟨#[]⟩] w fun e w' => e = .returned (.tuple #[.slice none 0 0, .int .i64 0, .int .i64 0]) ∧ Below w.heap.size w w' := by
  go_enter Try.func37, Try.ntmps37
  go_wp2_with (go_at_call 62; refine (readAll_empty _ _ (by go_simp) (by go_simp) (by go_simp) (by go_simp)).mono ?_; rintro e w' ⟨rfl, n, rfl⟩)
  go_ret3
  exact ⟨rfl, below_drewN ((Below.refl _ _).alloc (Nat.le_refl _) _) _⟩

/-- settle, where what is owed or paid may not be. -/
theorem settle_no (sa : Option Addr) (sl sc : Nat) (a : Option Addr) (len cap : Nat) (zs : List Int) (m : Int) (w : World) (h : Ints w a len zs) (hr : len * 8 ≤ 140737488351232) (hg : (givenE zs m == 0) = false) :
    Calls Try.prog 47 #[.slice sa sl sc, .slice a len cap, .int .i64 m] w fun e w' => e = .returned (.tuple #[.slice none 0 0, .int .i64 0, .int .i64 (givenE zs m), .int .i64 (givenP zs m)]) ∧ w' = w := by
  have hg' : (givenE zs m != 0) = true := by simpa using hg
  have hI := hide h
  clear h
  go_enter Try.func47, Try.ntmps47
  go_wp2_with fail
  refine (checkAmounts_any _ _ _ zs m _ (unhide hI) hr).mono ?_
  rintro e w2 ⟨rfl, hw⟩
  have hw := hw.symm
  subst hw
  generalize hge : givenE zs m = ge at *
  generalize hgp : givenP zs m = gp at *
  have HG := hide (And.intro hge hgp)
  clear hge hgp
  go_wp2_with fail
  exact bodyPost_ret (v := .tuple #[.slice none 0 0, .int .i64 0, .int .i64 ge, .int .i64 gp]) (by simp [results, Try.results47, go_sem]) rfl ⟨by rw [(unhide HG).1, (unhide HG).2], rfl⟩

set_option maxHeartbeats 1000000 in
/-- settle, where it goes through the steps. -/
theorem settle_yes (sa : Option Addr) (sl sc : Nat) (a : Option Addr) (cap : Nat) (zs : List Int) (m : Int) (w : World) (h : Ints w a 8 zs) (hg : givenE zs m = 0) (H : Int) (PL : List Int)
    (hgo : ∀ w3, Purse w3 w.heap.size m (.slice none 0 0) zs (List.replicate 8 0) → Below w.heap.size w w3 → Calls Try.prog 74 #[.pointer (some ⟨w.heap.size, 0, none⟩), .slice sa sl sc] w3 fun e w4 => e = .returned (.tuple #[]) ∧ (∃ vh ow, Purse w4 w.heap.size H vh ow PL) ∧ Below w.heap.size w3 w4) :
    Calls Try.prog 47 #[.slice sa sl sc, .slice a 8 cap, .int .i64 m] w fun e w' => ∃ g : Nat, e = .returned (.tuple #[.slice (some ⟨g, 0, none⟩) 8 8, .int .i64 H, .int .i64 0, .int .i64 0]) ∧ w.heap.size ≤ g ∧ Ints w' (some ⟨g, 0, none⟩) 8 PL ∧ Below w.heap.size w w' := by
  have HG := hide hg
  have hI := hide h
  have HGO := hide hgo
  clear hg h hgo
  go_enter Try.func47, Try.ntmps47
  go_wp2_with fail
  refine (checkAmounts_any _ _ _ zs m _ (unhide hI) (by omega)).mono ?_
  rintro e w2 ⟨rfl, hw⟩
  have hw := hw.symm
  subst hw
  rw [unhide HG]
  generalize hgp : givenP zs m = gp at *
  clear hgp
  go_wp2_with fail
  refine (newPurse_any _ _ zs m _ (unhide hI)).mono ?_
  rintro e w3 ⟨rfl, hp, hb3⟩
  have HP := hide hp
  have HB3 := hide hb3
  clear hp hb3
  go_wp2_with fail
  refine (unhide HGO w3 (unhide HP) (unhide HB3)).mono ?_
  rintro e w4 ⟨rfl, ⟨vh, ow, hp4⟩, hb4⟩
  have HP4 := hide hp4
  have HB4 := hide ((unhide HB3).trans hb4)
  clear hp4 hb4 HP HB3 HGO
  obtain ⟨f0, f1, f2, f3, f4, f5, f6, f7, rfl⟩ := list8 (unhide HP4).lp
  have c0 : w4.cell? ⟨w.heap.size, 10, none⟩ = some (.int .i64 f0) := (unhide HP4).paid_cell 0 (by omega)
  have c1 : w4.cell? ⟨w.heap.size, 11, none⟩ = some (.int .i64 f1) := (unhide HP4).paid_cell 1 (by omega)
  have c2 : w4.cell? ⟨w.heap.size, 12, none⟩ = some (.int .i64 f2) := (unhide HP4).paid_cell 2 (by omega)
  have c3 : w4.cell? ⟨w.heap.size, 13, none⟩ = some (.int .i64 f3) := (unhide HP4).paid_cell 3 (by omega)
  have c4 : w4.cell? ⟨w.heap.size, 14, none⟩ = some (.int .i64 f4) := (unhide HP4).paid_cell 4 (by omega)
  have c5 : w4.cell? ⟨w.heap.size, 15, none⟩ = some (.int .i64 f5) := (unhide HP4).paid_cell 5 (by omega)
  have c6 : w4.cell? ⟨w.heap.size, 16, none⟩ = some (.int .i64 f6) := (unhide HP4).paid_cell 6 (by omega)
  have c7 : w4.cell? ⟨w.heap.size, 17, none⟩ = some (.int .i64 f7) := (unhide HP4).paid_cell 7 (by omega)
  go_wp2_with fail
  refine (listOf_any f0 f1 f2 f3 f4 f5 f6 f7 _).mono ?_
  rintro e w5 ⟨g5, rfl, hg5, hl5, hi5, hb5⟩
  have HI := hide hi5
  have HB5 := hide hb5
  have HG5 := hide hg5
  clear hi5 hb5 hl5 hg5 c0 c1 c2 c3 c4 c5 c6 c7
  have hh := ((unhide HP4).below (unhide HB5) (unhide HP4).lt).hand_cell
  go_wp2_with fail
  go_quiet (fail)
  go_wp2_with fail
  exact bodyPost_ret (v := .tuple #[.slice (some ⟨g5, 0, none⟩) 8 8, .int .i64 H, .int .i64 0, .int .i64 0]) (by simp [results, Try.results47, go_sem]) rfl
    ⟨g5, rfl, Nat.le_trans (unhide HB4).size (unhide HG5), unhide HI, below_drewN (below_step (unhide HB4) (unhide HB5)) _⟩

/-- What Share answers of the empty policy. -/
theorem share_empty_no (a : Option Addr) (len cap : Nat) (zs : List Int) (m : Int) (w : World) (h : Ints w a len zs) (hr : len * 8 ≤ 140737488351232) (hg : (givenE zs m == 0) = false) :
    Calls Try.prog 21 #[.string ⟨#[]⟩, .slice a len cap, .int .i64 m] w fun e w' => e = .returned (.tuple #[.slice none 0 0, .int .i64 0, .int .i64 (givenE zs m), .int .i64 (givenP zs m)]) ∧ Below w.heap.size w w' := by
  have HGG := hide hg
  clear hg
  go_enter Try.func21, Try.ntmps21
  go_wp2_with fail
  refine (parse_empty _).mono ?_
  rintro e w1 ⟨rfl, hb1⟩
  have HB := hide hb1
  have hI := hide (h.below hb1)
  clear hb1 h
  go_wp2_with fail
  refine (settle_no _ _ _ _ _ _ zs m _ (unhide hI) hr (unhide HGG)).mono ?_
  rintro e w2 ⟨rfl, hw⟩
  have hw := hw.symm
  subst hw
  generalize hge : givenE zs m = ge at *
  generalize hgp : givenP zs m = gp at *
  have HG := hide (And.intro hge hgp)
  clear hge hgp
  go_wp2_with fail
  exact bodyPost_ret (v := .tuple #[.slice none 0 0, .int .i64 0, .int .i64 ge, .int .i64 gp]) (by simp [results, Try.results21, go_sem]) rfl ⟨by rw [(unhide HG).1, (unhide HG).2], unhide HB⟩

set_option maxHeartbeats 1000000 in
theorem share_empty_yes (a : Option Addr) (cap : Nat) (zs : List Int) (m : Int) (w : World) (h : Ints w a 8 zs) (hg : givenE zs m = 0) :
    Calls Try.prog 21 #[.string ⟨#[]⟩, .slice a 8 cap, .int .i64 m] w fun e w' => ∃ g : Nat, e = .returned (.tuple #[.slice (some ⟨g, 0, none⟩) 8 8, .int .i64 m, .int .i64 0, .int .i64 0]) ∧ w.heap.size ≤ g ∧ Ints w' (some ⟨g, 0, none⟩) 8 (List.replicate 8 0) ∧ Below w.heap.size w w' := by
  have HG := hide hg
  clear hg
  go_enter Try.func21, Try.ntmps21
  go_wp2_with fail
  refine (parse_empty _).mono ?_
  rintro e w1 ⟨rfl, hb1⟩
  have HB := hide hb1
  have hI := hide (h.below hb1)
  clear hb1 h
  go_wp2_with fail
  refine (settle_yes none 0 0 a cap zs m w1 (unhide hI) (unhide HG) m (List.replicate 8 0) (fun w3 hp hb => (goThrough_nil _ _ _ _).mono (fun e w4 hq => by obtain ⟨rfl, rfl⟩ := hq; exact ⟨rfl, ⟨_, _, hp⟩, Below.refl _ _⟩))).mono ?_
  rintro e w5 ⟨g, rfl, hg5, hi5, hb5⟩
  have HI := hide hi5
  have HB5 := hide hb5
  have HG5 := hide hg5
  clear hi5 hb5 hg5
  go_wp2_with fail
  exact bodyPost_ret (v := .tuple #[.slice (some ⟨g, 0, none⟩) 8 8, .int .i64 m, .int .i64 0, .int .i64 0]) (by simp [results, Try.results21, go_sem]) rfl
    ⟨g, rfl, Nat.le_trans (unhide HB).size (unhide HG5), unhide HI, below_step (unhide HB) (unhide HB5)⟩

/-- What a call of Share answers, in memory. -/
def ShareIs (t : ByteArray) (zs : List Int) (m : Int) (L : List Int) (R E P : Int) : Prop :=
  ∀ (a : Option Addr) (len cap : Nat) (w : World), Ints w a len zs → len * 8 ≤ 140737488351232 →
    Calls Try.prog 21 #[.string t, .slice a len cap, .int .i64 m] w fun e w' => ∃ (a' : Option Addr) (n c : Nat), e = .returned (.tuple #[.slice a' n c, .int .i64 R, .int .i64 E, .int .i64 P]) ∧ Ints w' a' n L ∧ (∀ b, a' = some b → w.heap.size ≤ b.block) ∧ Below w.heap.size w w'

theorem ints_setCell {w : World} {a : Option Addr} {n : Nat} {L : List Int} {q : Addr} {v : Value} (h : Ints w a n L) (hq : ∀ b, a = some b → b.block ≠ q.block) : Ints (w.setCell q v) a n L := by
  refine ⟨h.1, fun hp => ?_⟩
  obtain ⟨b, off, e, hc⟩ := h.2 hp
  refine ⟨b, off, e, fun i hi => ?_⟩
  have : (w.setCell q v).heap[b]? = w.heap[b]? := Below.heap_setCell _ _ _ _ (hq _ e)
  rw [World.cell?_of_block (a := ⟨b, off + i, none⟩) this]
  exact hc i hi

theorem share_empty (zs : List Int) (m : Int) : ShareIs ⟨#[]⟩ zs m (if givenE zs m = 0 then List.replicate 8 0 else []) (if givenE zs m = 0 then m else 0) (givenE zs m) (if givenE zs m = 0 then 0 else givenP zs m) := by
  intro a len cap w h hr
  by_cases hg : givenE zs m = 0
  · have hl : zs.length = 8 := by
      unfold givenE at hg
      split at hg
      · assumption
      · simp at hg
    have h8 : len = 8 := by rw [← h.1, hl]
    subst h8
    simp only [hg, if_true]
    refine (share_empty_yes a cap zs m w h hg).mono ?_
    rintro e w' ⟨g, rfl, hge, hi, hb⟩
    exact ⟨_, _, _, rfl, hi, fun b hb => by simp at hb; subst hb; exact hge, hb⟩
  · simp only [hg, if_false]
    refine (share_empty_no a len cap zs m w h hr (by simpa using hg)).mono ?_
    rintro e w' ⟨rfl, hb⟩
    exact ⟨_, _, _, rfl, ⟨rfl, fun h => by omega⟩, fun b hb => by simp at hb, hb⟩

end Go.Proofs.Ytmdjdpofpkgffab
