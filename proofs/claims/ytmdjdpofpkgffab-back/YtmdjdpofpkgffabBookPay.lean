/- BookPay: Charge and Pay of the program's book. -/
import Derived.Test.YtmdjdpofpkgffabBookUse
namespace Go.Proofs.Ytmdjdpofpkgffab
open Go.ChangeShapes Go.WideShapes Go.ChangeAt Go.RowKit
open Split
set_option linter.unusedVariables false
set_option linter.unusedSimpArgs false

theorem sbucket_any (s : ByteArray) (w : World) (hs : s.size ≤ 1000000000000000) : Calls Try.prog 79 #[.string s] w fun e w' => e = .returned (.bool (bukt s)) ∧ w' = w := by
  by_cases h1 : s.size = 1
  · have hlt : 0 < s.size := by omega
    have HB := hide (byt_lt hlt)
    by_cases h97 : 97 ≤ (s[0].toNat : Int)
    · by_cases h104 : (s[0].toNat : Int) ≤ 104
      · have e : bukt s = true := by simp only [bukt, h1, decide_true, Bool.true_and, unhide HB, buc_t]; omega
        rw [e]
        clear e
        go_enter Try.func79, Try.ntmps79
        go_wp2
        go_ret
        exact ⟨rfl, rfl⟩
      · have e : bukt s = false := by simp only [bukt, h1, decide_true, Bool.true_and, unhide HB, buc_f]; omega
        rw [e]
        clear e
        go_enter Try.func79, Try.ntmps79
        go_wp2
        go_ret
        exact ⟨rfl, rfl⟩
    · have e : bukt s = false := by simp only [bukt, h1, decide_true, Bool.true_and, unhide HB, buc_f]; omega
      rw [e]
      clear e
      go_enter Try.func79, Try.ntmps79
      go_wp2
      go_ret
      exact ⟨rfl, rfl⟩
  · have hne : ((s.size : Int) == 1) = false := by simp; omega
    have e : bukt s = false := by simp [bukt, h1]
    rw [e]
    clear e
    go_enter Try.func79, Try.ntmps79
    go_wp2
    go_ret
    exact ⟨rfl, rfl⟩

theorem bukt_parts {s : ByteArray} (h : bukt s = true) : s.size = 1 ∧ ∃ k : Nat, k < 8 ∧ bukN s = k ∧ (∀ hlt : 0 < s.size, (s[0].toNat : Int) = (k : Int) + 97) := by
  have hb : buc (byt s 0) = true ∧ s.size = 1 := by
    simp only [bukt, Bool.and_eq_true, decide_eq_true_eq] at h
    exact ⟨h.2, h.1⟩
  have h2 := buc_t.1 hb.1
  refine ⟨hb.2, bukN s, by unfold bukN; omega, rfl, fun hlt => ?_⟩
  rw [← byt_lt hlt]
  unfold bukN
  omega

set_option maxHeartbeats 1000000 in
theorem scharge_any (P : Nat) (b : Bk) (s : ByteArray) (z : Int) (w : World) (h : SBk w P b) (hk : b.Ok) (hs : s.size ≤ 1000000000000000) : Calls Try.prog 59 #[.pointer (some ⟨P, 0, none⟩), .string s, .int .i64 z] w fun e w' => e = .returned (.int .i64 (chgE b.now s z)) ∧ SBk w' P (chgB b s z) ∧ Fr (· = P) w w' := by
  have HS := hide h
  clear h
  have SB := hide (sbucket_any s · hs)
  by_cases hb : bukt s = true
  · obtain ⟨h1, k, hk8, hkN, hks⟩ := bukt_parts hb
    have hlt : 0 < s.size := by omega
    replace hks := hks hlt
    have hmod : ((k : Int)) % 256 = (k : Int) := by omega
    by_cases ha : amt z = true
    · obtain ⟨ha0, ha1⟩ := amt_t.1 ha
      have co := SRow.owed (unhide HS) k hk8
      have hkk := hk.now.am k
      have hl8 := hk.now.l8
      by_cases hf : 1000000000 < b.now.owed.getD k 0 + z
      · have e1 : chgE b.now s z = 9 := by simp only [chgE, hb, ha, hkN, if_true, if_pos hf]
        have e2 : chgB b s z = b := by simp [chgB, e1]
        rw [e1, e2]
        clear e1 e2 hkN
        obtain ⟨x, hx⟩ : ∃ x, b.now.owed.getD k 0 = x := ⟨_, rfl⟩
        rw [hx] at hf hkk co
        clear hx hl8 hk
        go_enter Try.func59, Try.ntmps59
        go_wp2_with fail
        refine (unhide SB _).mono ?_
        rintro e w1 ⟨rfl, hw⟩
        have hw := hw.symm
        subst hw
        rw [hb]
        go_wp2_with fail
        refine (isAmount_any z _).mono ?_
        rintro e w1 ⟨rfl, hw⟩
        have hw := hw.symm
        subst hw
        rw [ha]
        go_wp2_with fail
        go_ret
        exact ⟨rfl, unhide HS, Fr.refl _ _⟩
      · have e1 : chgE b.now s z = 0 := by simp only [chgE, hb, ha, hkN, if_true, if_neg hf]
        have e2 : chgB b s z = ⟨⟨b.now.owed.set k (b.now.owed.getD k 0 + z), b.now.pol⟩, (b.turn b.now).past⟩ := by simp only [chgB, e1, if_true, chgL, hkN, Bk.turn]
        rw [e1, e2]
        clear e1 e2 hkN
        obtain ⟨x, hx⟩ : ∃ x, b.now.owed.getD k 0 = x := ⟨_, rfl⟩
        rw [hx] at hf hkk co ⊢
        have HX := hide hx
        have HL8 := hide hl8
        have HK := hide hk
        clear hx hl8 hk
        go_enter Try.func59, Try.ntmps59
        go_wp2_with fail
        refine (unhide SB _).mono ?_
        rintro e w1 ⟨rfl, hw⟩
        have hw := hw.symm
        subst hw
        rw [hb]
        go_wp2_with fail
        refine (isAmount_any z _).mono ?_
        rintro e w1 ⟨rfl, hw⟩
        have hw := hw.symm
        subst hw
        rw [ha]
        go_wp2_with fail
        refine (remember_any P b _ (unhide HS)).mono ?_
        rintro e w2 ⟨rfl, hs2, hf2⟩
        have HS2 := hide hs2
        have HF2 := hide hf2
        have co2 : w2.cell? ⟨P, k, none⟩ = some (.int .i64 x) := by
          have := SRow.owed hs2 k hk8
          simp only [Bk.turn] at this
          rw [unhide HX] at this
          exact this
        have fr2 := SRow.frozen hs2
        clear hs2 hf2 co HS
        go_wp2_with fail
        go_region
        all_goals go_wp2_with fail
        go_ret
        refine ⟨rfl, ?_, ?_⟩
        · exact (SRow.setOwed (unhide HS2) k (by show k < b.now.owed.length; rw [unhide HL8]; exact hk8) (unhide HL8) (x + z)).drew
        · exact ((unhide HF2).set (p := ⟨P, k, none⟩) (.inl rfl) (.int .i64 (x + z))).drew
    · have e1 : chgE b.now s z = 5 := by simp only [chgE, hb, if_true, if_neg ha]
      have e2 : chgB b s z = b := by simp [chgB, e1]
      rw [e1, e2]
      clear e1 e2 hkN
      have ha' : amt z = false := by simpa using ha
      clear ha
      go_enter Try.func59, Try.ntmps59
      go_wp2_with fail
      refine (unhide SB _).mono ?_
      rintro e w1 ⟨rfl, hw⟩
      have hw := hw.symm
      subst hw
      rw [hb]
      go_wp2_with fail
      refine (isAmount_any z _).mono ?_
      rintro e w1 ⟨rfl, hw⟩
      have hw := hw.symm
      subst hw
      rw [ha']
      go_wp2_with fail
      go_ret
      exact ⟨rfl, unhide HS, Fr.refl _ _⟩
  · have e1 : chgE b.now s z = 8 := by simp only [chgE, if_neg hb]
    have e2 : chgB b s z = b := by simp [chgB, e1]
    rw [e1, e2]
    clear e1 e2
    have hb' : bukt s = false := by simpa using hb
    clear hb
    go_enter Try.func59, Try.ntmps59
    go_wp2_with fail
    refine (unhide SB _).mono ?_
    rintro e w1 ⟨rfl, hw⟩
    have hw := hw.symm
    subst hw
    rw [hb']
    go_wp2_with fail
    go_ret
    exact ⟨rfl, unhide HS, Fr.refl _ _⟩

set_option maxHeartbeats 2000000 in
theorem spay_any (P : Nat) (b : Bk) (m : Int) (w : World) (h : SBk w P b) (hk : b.Ok) : Calls Try.prog 29 #[.pointer (some ⟨P, 0, none⟩), .int .i64 m] w fun e w' => ∃ (a : Option Addr) (n c : Nat), e = .returned (.tuple #[.slice a n c, .int .i64 (payR b.now m), .int .i64 (payE b.now m)]) ∧ Ints w' a n (payL b.now m) ∧ (∀ p, a = some p → w.heap.size ≤ p.block) ∧ SBk w' P (payB b m) ∧ Fr (· = P) w w' := by
  have hpt : b.now.pol.size ≤ 1000000000000000 := by
    have hck := hk.now.ck
    unfold checkE at hck
    by_cases hl : 120 < b.now.pol.size
    · rw [if_pos hl] at hck; simp at hck
    · omega
  have SH := hide (share_any b.now.pol b.now.owed m hpt)
  have HPARTS := hide (fun hE => pay_parts hk.now (m := m) hE)
  have cpol := SRow.pol h
  obtain ⟨f0, f1, f2, f3, f4, f5, f6, f7, e8, c0, c1, c2, c3, c4, c5, c6, c7⟩ := SRow.eight h hk.now.l8
  have HS := hide h
  have HK := hide hk
  have HE8 := hide e8
  clear h hk e8
  by_cases hE : payE b.now m = 0
  · have e2 : payB b m = ⟨⟨lessZ b.now.owed (payL b.now m) 8, b.now.pol⟩, (b.turn b.now).past⟩ := by simp only [payB, hE, if_true, Bk.turn]
    rw [e2, hE]
    have HPT := hide (unhide HPARTS hE)
    have hE' : shE b.now.pol b.now.owed m = 0 := hE
    have SH1 : Hid (ShareIs b.now.pol b.now.owed m (payL b.now m) (payR b.now m) 0 (shP b.now.pol b.now.owed m)) := by
      have := unhide SH
      rw [hE'] at this
      exact this
    clear e2 hE hE' SH HPARTS
    generalize hL : payL b.now m = L at *
    generalize hR : payR b.now m = R at *
    generalize hSP : shP b.now.pol b.now.owed m = SP at *
    clear hL hR hSP
    go_enter Try.func29, Try.ntmps29
    go_wp2_with fail
    refine (listOf_any f0 f1 f2 f3 f4 f5 f6 f7 _).mono ?_
    rintro e w1 ⟨g1, rfl, h1, h2, h3, h4⟩
    rw [← unhide HE8] at h3
    have HI1 := hide h3
    have HB1 := hide h4
    have cpol1 : w1.cell? ⟨P, 8, none⟩ = some (.string b.now.pol) := (h4.cell (p := ⟨P, 8, none⟩) (SRow.lt (unhide HS))).trans cpol
    have HS1 := hide (SRow.below (unhide HS) h4 (SRow.lt (unhide HS)))
    have hz1 := h4.size
    clear h1 h2 h3 h4 c0 c1 c2 c3 c4 c5 c6 c7 cpol
    obtain ⟨pl, hpl⟩ : ∃ pl, b.now.pol = pl := ⟨_, rfl⟩
    rw [hpl] at SH1 cpol1
    have HPL := hide hpl
    clear hpl
    go_wp2_with fail
    refine (unhide SH1 _ _ _ w1 (unhide HI1) (by omega)).mono ?_
    rintro e w2 ⟨a2, n2, k2, rfl, h1, h2, h3⟩
    have hn2 : n2 = 8 := by rw [← h1.1]; exact (unhide HPT).1
    subst hn2
    have HI2 := hide h1
    have HA2 := hide h2
    have HB2 := hide (below_step (unhide HB1) h3)
    have HS2 := hide (SRow.below (unhide HS1) h3 (SRow.lt (unhide HS1)))
    clear h1 h2 h3 HS1 HB1 HI1 cpol1
    go_wp2_with fail
    refine (remember_any P b _ (unhide HS2)).mono ?_
    rintro e w3 ⟨rfl, hs3, hf3⟩
    obtain ⟨gb, goff, rfl, hcs⟩ := (unhide HI2).2 (by omega)
    have hgw : w.heap.size ≤ gb := Nat.le_trans hz1 (unhide HA2 _ rfl)
    have hgP : gb ≠ P := by have := SRow.lt (unhide HS); omega
    have hg2 : gb < w2.heap.size := by
      have := hcs 0 (by omega)
      by_cases hx : gb < w2.heap.size
      · exact hx
      · simp [World.cell?, hx] at this
    have HI3 : Hid (Ints w3 (some ⟨gb, goff, none⟩) 8 L) := hf3.ints (unhide HI2) (by rintro p hp; simp at hp; subst hp; exact hgP)
    have HS3 : Hid (SRow w3 P ⟨lessZ b.now.owed L 0, b.now.pol⟩ (b.turn b.now).past ((b.turn b.now).past.length : Nat)) := by
      rw [lessZ_zero (unhide HK).now.l8]
      exact hs3
    have HF3 : Hid (Fr (· = P) w w3) := (Fr.of_below (unhide HB2)).trans hf3 fun i hi => .inl hi
    clear hs3 hf3 hcs HI2 HS2 HB2
    clear SH1 HA2 HE8 hz1
    go_wp2_with fail
    go_loopw [12] (fun i wr => ∃ k : Nat, k ≤ 8 ∧ i = .int .i64 k ∧ Hid (SRow wr P ⟨lessZ b.now.owed L k, b.now.pol⟩ (b.turn b.now).past ((b.turn b.now).past.length : Nat)) ∧ Hid (Ints wr (some ⟨gb, goff, none⟩) 8 L) ∧ Hid (Fr (· = P) w wr)) (fun i _ => 8 - (intOf i).toNat)
    case atStart => exact ⟨0, by omega, rfl, HS3, HI3, HF3⟩
    case round =>
      obtain ⟨k, hk8, rfl, hs, hi, hf⟩ := hrel
      clear HS3 HI3 HF3
      by_cases hlt : k < 8
      · obtain ⟨gb', goff', heq, hcs⟩ := (unhide hi).2 (by omega)
        simp only [Option.some.injEq, Addr.mk.injEq, and_true] at heq
        obtain ⟨rfl, rfl⟩ := heq
        have cy := hcs k hlt
        have cx := SRow.owed (unhide hs) k hlt
        have fx := SRow.frozen (unhide hs) k
        have hx1 : (lessZ b.now.owed L k).getD k 0 = b.now.owed.getD k 0 := by rw [lessZ_at _ _ _ _ hlt, if_neg (Nat.lt_irrefl _)]
        have hb1 := (unhide HK).now.am k
        have hb2 := (unhide HPT).2.1 k
        have hset := lessZ_succ b.now.owed L k hlt
        rw [hx1] at cx
        obtain ⟨x, hx⟩ : ∃ x, b.now.owed.getD k 0 = x := ⟨_, rfl⟩
        obtain ⟨y, hy⟩ : ∃ y, L.getD k 0 = y := ⟨_, rfl⟩
        rw [hx] at cx hb1 hb2 hset
        rw [hy] at cy hb2 hset
        have HSET := hide hset
        clear hcs hx1 hx hy hset
        go_wp2
        go_region
        all_goals go_wp2
        go_roundw
        case rel =>
          refine ⟨k + 1, by omega, by go_num, ?_, ?_, ?_⟩
          · have h1 := SRow.setOwed (unhide hs) k (by show k < (lessZ b.now.owed L k).length; rw [lessZ_len]; exact hlt) (lessZ_len _ _ _) (x - y)
            have h2 : SRow (wr.setCell ⟨P, k, none⟩ (.int .i64 (x - y))) P ⟨(lessZ b.now.owed L k).set k (x - y), b.now.pol⟩ (b.turn b.now).past ((b.turn b.now).past.length : Nat) := h1
            rw [unhide HSET] at h2
            exact h2.drew
          · exact ((Fr.refl (· = P) wr).set (p := ⟨P, k, none⟩) (.inl rfl) (.int .i64 (x - y))).drew.ints (unhide hi) (by rintro p hp; simp at hp; subst hp; exact hgP)
          · exact ((unhide hf).set (p := ⟨P, k, none⟩) (.inl rfl) (.int .i64 (x - y))).drew
        case measure => simp [intOf]; omega
      · have hk' : k = 8 := by omega
        subst hk'
        go_wp2_with fail
        refine bodyPost_ret (v := .tuple #[.slice (some ⟨gb, goff, none⟩) 8 k2, .int .i64 R, .int .i64 0]) (by simp [results, Try.results29, go_sem]) rfl ?_
        exact ⟨_, 8, k2, rfl, unhide hi, fun p hp => by simp at hp; subst hp; exact hgw, unhide hs, unhide hf⟩
  · have e2 : payB b m = b := by simp only [payB, if_neg hE]
    have e3 : payL b.now m = [] := by
      have : ¬ shE b.now.pol b.now.owed m = 0 := hE
      simp only [payL, shL, if_neg this]
    have e4 : payR b.now m = 0 := by
      have : ¬ shE b.now.pol b.now.owed m = 0 := hE
      simp only [payR, shR, if_neg this]
    rw [e2, e3, e4]
    have hne : (payE b.now m != 0) = true := by simpa using hE
    have SH1 : Hid (ShareIs b.now.pol b.now.owed m [] 0 (payE b.now m) (shP b.now.pol b.now.owed m)) := by
      have := unhide SH
      rw [show shL b.now.pol b.now.owed m = [] from e3, show shR b.now.pol b.now.owed m = 0 from e4] at this
      exact this
    clear e2 e3 e4 hE SH HPARTS
    generalize hL : payE b.now m = E at *
    generalize hSP : shP b.now.pol b.now.owed m = SP at *
    clear hL hSP
    go_enter Try.func29, Try.ntmps29
    go_wp2_with fail
    refine (listOf_any f0 f1 f2 f3 f4 f5 f6 f7 _).mono ?_
    rintro e w1 ⟨g1, rfl, h1, h2, h3, h4⟩
    rw [← unhide HE8] at h3
    have HI1 := hide h3
    have HB1 := hide h4
    have cpol1 : w1.cell? ⟨P, 8, none⟩ = some (.string b.now.pol) := (h4.cell (p := ⟨P, 8, none⟩) (SRow.lt (unhide HS))).trans cpol
    have HS1 := hide (SRow.below (unhide HS) h4 (SRow.lt (unhide HS)))
    clear h1 h2 h3 h4 c0 c1 c2 c3 c4 c5 c6 c7 cpol
    obtain ⟨pl, hpl⟩ : ∃ pl, b.now.pol = pl := ⟨_, rfl⟩
    rw [hpl] at SH1 cpol1
    have HPL := hide hpl
    clear hpl
    go_wp2_with fail
    refine (unhide SH1 _ _ _ w1 (unhide HI1) (by omega)).mono ?_
    rintro e w2 ⟨a2, n2, k2, rfl, h1, h2, h3⟩
    have HB2 := hide (below_step (unhide HB1) h3)
    have HS2 := hide (SRow.below (unhide HS1) h3 (SRow.lt (unhide HS1)))
    clear h1 h2 h3 HS1 HB1 HI1 cpol1
    go_wp2_with fail
    refine bodyPost_ret (v := .tuple #[.slice none 0 0, .int .i64 0, .int .i64 E]) (by simp [results, Try.results29, go_sem]) rfl ?_
    exact ⟨none, 0, 0, rfl, ⟨rfl, fun h => by omega⟩, fun p hp => by simp at hp, unhide HS2, Fr.of_below (unhide HB2)⟩
end Go.Proofs.Ytmdjdpofpkgffab
