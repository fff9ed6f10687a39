/- BookUse: Owed, Install, Undo of the program's book. -/
import Derived.Test.YtmdjdpofpkgffabBookOps
import Derived.Test.YtmdjdpofpkgffabChecks
namespace Go.Proofs.Ytmdjdpofpkgffab
open Go.ChangeShapes Go.WideShapes Go.ChangeAt Go.RowKit
open Split
set_option linter.unusedVariables false
set_option linter.unusedSimpArgs false

/-- The eight cells of what is owed. -/
structure Eight (w : World) (P : Nat) (f0 f1 f2 f3 f4 f5 f6 f7 : Int) : Prop where
  c0 : w.cell? ⟨P, 0, none⟩ = some (.int .i64 f0)
  c1 : w.cell? ⟨P, 1, none⟩ = some (.int .i64 f1)
  c2 : w.cell? ⟨P, 2, none⟩ = some (.int .i64 f2)
  c3 : w.cell? ⟨P, 3, none⟩ = some (.int .i64 f3)
  c4 : w.cell? ⟨P, 4, none⟩ = some (.int .i64 f4)
  c5 : w.cell? ⟨P, 5, none⟩ = some (.int .i64 f5)
  c6 : w.cell? ⟨P, 6, none⟩ = some (.int .i64 f6)
  c7 : w.cell? ⟨P, 7, none⟩ = some (.int .i64 f7)
theorem SRow.eight {w : World} {P : Nat} {now : Pg} {ps : List Pg} {c : Int} (h : SRow w P now ps c) (h8 : now.owed.length = 8) :
    ∃ f0 f1 f2 f3 f4 f5 f6 f7, now.owed = [f0, f1, f2, f3, f4, f5, f6, f7] ∧ Eight w P f0 f1 f2 f3 f4 f5 f6 f7 := by
  obtain ⟨f0, f1, f2, f3, f4, f5, f6, f7, e⟩ := list8 h8
  refine ⟨f0, f1, f2, f3, f4, f5, f6, f7, e, ?_⟩
  have := fun i hi => h.owed i hi
  rw [e] at this
  exact ⟨this 0 (by omega), this 1 (by omega), this 2 (by omega), this 3 (by omega), this 4 (by omega), this 5 (by omega), this 6 (by omega), this 7 (by omega)⟩

set_option maxHeartbeats 1000000 in
theorem sowed_any (P : Nat) (b : Bk) (w : World) (h : SBk w P b) (hk : b.Ok) : Calls Try.prog 27 #[.pointer (some ⟨P, 0, none⟩)] w fun e w' => ∃ g : Nat, e = .returned (.slice (some ⟨g, 0, none⟩) 8 8) ∧ w.heap.size ≤ g ∧ g < w'.heap.size ∧ Ints w' (some ⟨g, 0, none⟩) 8 b.now.owed ∧ Below w.heap.size w w' := by
  obtain ⟨f0, f1, f2, f3, f4, f5, f6, f7, e, c0, c1, c2, c3, c4, c5, c6, c7⟩ := SRow.eight h hk.now.l8
  rw [e]
  clear e h
  go_enter Try.func27, Try.ntmps27
  go_wp2_with fail
  refine (listOf_any f0 f1 f2 f3 f4 f5 f6 f7 _).mono ?_
  rintro e w1 ⟨g, rfl, h1, h2, h3, h4⟩
  have H := hide (And.intro h1 (And.intro h2 (And.intro h3 h4)))
  clear h1 h2 h3 h4
  go_wp2_with fail
  go_ret
  exact ⟨g, rfl, unhide H⟩

set_option maxHeartbeats 1000000 in
theorem sinstall_any (P : Nat) (b : Bk) (t : ByteArray) (w : World) (h : SBk w P b) (ht : t.size ≤ 1000000000000000) : Calls Try.prog 57 #[.pointer (some ⟨P, 0, none⟩), .string t] w fun e w' => e = .returned (.tuple #[.int .i64 (checkE t), .int .i64 (if checkE t = 0 then 0 else checkP t)]) ∧ SBk w' P (insB b t) ∧ Fr (· = P) w w' := by
  have HP := hide (par_check t)
  have HS := hide h
  clear h
  by_cases hc : checkE t = 0
  · have e1 : insB b t = ⟨⟨b.now.owed, t⟩, (b.turn b.now).past⟩ := by simp [insB, hc, Bk.turn]
    rw [e1, hc, if_pos rfl]
    have HC := hide hc
    clear e1 hc
    go_enter Try.func57, Try.ntmps57
    go_wp2_with fail
    refine (scheck_any t _ ht).mono ?_
    rintro e w1 ⟨rfl, hb⟩
    rw [(unhide HP).1, (unhide HP).2, unhide HC]
    have HS1 := hide (SRow.below (unhide HS) hb (SRow.lt (unhide HS)))
    have HF1 : Hid (Fr (· = P) w w1) := Fr.of_below hb
    clear hb HS HP HC
    generalize checkP t = cp
    go_wp2_with fail
    refine (remember_any P b _ (unhide HS1)).mono ?_
    rintro e w2 ⟨rfl, hs2, hf2⟩
    have HS2 := hide hs2
    have HF2 := hide ((unhide HF1).trans hf2 fun i hi => .inl hi)
    have c8 := SRow.pol hs2
    have fr := SRow.frozen hs2
    clear hs2 hf2
    go_wp2_with fail
    go_ret2
    refine ⟨rfl, ?_, (unhide HF2).set (p := ⟨P, 8, none⟩) (.inl rfl) _⟩
    exact SRow.setPol (unhide HS2) t
  · have hcb : (checkE t != 0) = true := by simpa using hc
    have e1 : insB b t = b := by simp [insB, hc]
    rw [e1, if_neg hc]
    clear e1 hc
    go_enter Try.func57, Try.ntmps57
    go_wp2_with fail
    refine (scheck_any t _ ht).mono ?_
    rintro e w1 ⟨rfl, hb⟩
    rw [(unhide HP).1, (unhide HP).2]
    have HS1 := hide (SRow.below (unhide HS) hb (SRow.lt (unhide HS)))
    have HF1 : Hid (Fr (· = P) w w1) := Fr.of_below hb
    clear hb HS HP
    generalize hgp : checkP t = cp at *
    generalize hge : checkE t = ce at *
    have HG := hide (And.intro hge hgp)
    clear hge hgp
    go_wp2_with fail
    go_ret2
    exact ⟨by rw [(unhide HG).1, (unhide HG).2]; rfl, unhide HS1, unhide HF1⟩

set_option maxHeartbeats 1000000 in
theorem sundo_any (P : Nat) (b : Bk) (w : World) (h : SBk w P b) : Calls Try.prog 51 #[.pointer (some ⟨P, 0, none⟩)] w fun e w' => e = .returned (.int .i64 (undE b)) ∧ SBk w' P (undB b) ∧ Fr (· = P) w w' := by
  have hc := SRow.count h
  by_cases hn : b.past = []
  · have e1 : undE b = 10 := by simp [undE, hn]
    have e2 : undB b = b := by simp [undB, hn]
    rw [e1, e2]
    have HS := hide h
    rw [hn] at hc
    clear e1 e2 hn h
    go_enter Try.func51, Try.ntmps51
    go_wp2
    go_ret
    exact ⟨rfl, unhide HS, Fr.refl _ _⟩
  · obtain ⟨m, hm⟩ : ∃ m, b.past.length = m + 1 := ⟨b.past.length - 1, by have := List.length_pos_iff.2 hn; omega⟩
    have hq : ∃ q, b.past[m]? = some q := ⟨_, List.getElem?_eq_getElem (by omega)⟩
    obtain ⟨q, hq⟩ := hq
    have e1 : undE b = 0 := by simp [undE, hn]
    have e2 : undB b = ⟨q, b.past.take m⟩ := by
      have : b.past.getLast? = some q := by rw [List.getLast?_eq_getElem?, hm]; exact hq
      simp only [undB, this, List.dropLast_eq_take, hm, Nat.add_sub_cancel]
    rw [e1, e2]
    rw [hm] at hc
    have hm12 : m < 12 := by have := SRow.few h; omega
    have hne : ((m : Int) + 1 == 0) = false := by simp; omega
    have hfr : ∀ i, w.frozen? ⟨P, i, none⟩ = false := fun i => SRow.frozen h i
    obtain ⟨x0, x1, x2, x3, x4, x5, x6, x7, s, hpv, c0, c1, c2, c3, c4, c5, c6, c7, c8⟩ := SRow.nine h hq
    obtain ⟨y0, y1, y2, y3, y4, y5, y6, y7, y8, d0, d1, d2, d3, d4, d5, d6, d7, d8⟩ := SRow.any9 h 0 (by omega)
    simp only [Nat.zero_add] at d1 d2 d3 d4 d5 d6 d7 d8
    have HPV := hide hpv
    have HS := hide h
    have HM := hide hm
    have hcc : (((m + 1 : Nat)) : Int) = (m : Int) + 1 := by simp
    rw [hcc] at hc
    clear e1 e2 hn h hpv hm hq hcc
    go_enter Try.func51, Try.ntmps51
    go_wp2
    go_region
    all_goals go_wp2
    go_region
    all_goals go_wp2
    go_ret
    have ht : (b.past.take m).length = m := by simp [unhide HM]
    have h2 := ((SRow.setCount (unhide HS) (m : Int)).setNow q).less m
    rw [unhide HPV, set9] at h2
    have h3 := h2.push (by omega) ⟨[], ⟨#[]⟩⟩
    have hz : pgV ⟨[], ⟨#[]⟩⟩ = [.int .i64 0, .int .i64 0, .int .i64 0, .int .i64 0, .int .i64 0, .int .i64 0, .int .i64 0, .int .i64 0, .string ⟨#[]⟩] := rfl
    rw [ht, hz, set9] at h3
    have h4 := h3.less m
    have hta : (b.past.take m ++ [(⟨[], ⟨#[]⟩⟩ : Pg)]).take m = b.past.take m := List.take_left' ht
    rw [hta] at h4
    simp only [Nat.zero_add] at h4
    refine ⟨rfl, ?_, ?_⟩
    · show SRow _ P q (b.past.take m) ((b.past.take m).length : Nat)
      rw [ht]
      exact h4.drew.drew
    · have f1 := (Fr.sets (S := (· = P)) (.inl rfl) [.int .i64 0, .int .i64 0, .int .i64 0, .int .i64 0, .int .i64 0, .int .i64 0, .int .i64 0, .int .i64 0, .string ⟨#[]⟩] (9 + m * 9) _ (Fr.sets (S := (· = P)) (.inl rfl) [.int .i64 x0, .int .i64 x1, .int .i64 x2, .int .i64 x3, .int .i64 x4, .int .i64 x5, .int .i64 x6, .int .i64 x7, .string s] 0 _ ((Fr.refl (· = P) w).set (p := ⟨P, 117, none⟩) (.inl rfl) (.int .i64 (m : Int))))).drew.drew
      rw [set9, set9] at f1
      simp only [Nat.zero_add] at f1
      exact f1
end Go.Proofs.Ytmdjdpofpkgffab
