/- RefBPay: Pay of the document's book. -/
import Derived.Test.YtmdjdpofpkgffabRefActs
namespace Go.Proofs.Ytmdjdpofpkgffab
open Go.ChangeShapes Go.WideShapes Go.ChangeAt Go.RowKit
open Split
set_option linter.unusedVariables false
set_option linter.unusedSimpArgs false

set_option maxHeartbeats 2000000 in
theorem rbpay_any (D : Nat) (S : Nat → Prop) (b : Bk) (m : Int) (w : World) (h : RBk w D S b) (hk : b.Ok) : Calls Try.prog 32 #[.pointer (some ⟨D, 0, none⟩), .int .i64 m] w fun e w' => ∃ (a : Option Addr) (n c : Nat), e = .returned (.tuple #[.slice a n c, .int .i64 (payR b.now m), .int .i64 (payE b.now m)]) ∧ Ints w' a n (payL b.now m) ∧ RBk w' D (grow S w w') (payB b m) ∧ Fr S w w' := by
  have hpt : b.now.pol.size ≤ 1000000000000000 := by
    have hck := hk.now.ck
    unfold checkE at hck
    by_cases hl : 120 < b.now.pol.size
    · rw [if_pos hl] at hck; simp at hck
    · omega
  have SH := hide (rshare_any b.now.pol b.now.owed m hpt)
  have HPARTS := hide (fun hE => pay_parts hk.now (m := m) hE)
  have HR := hide h
  obtain ⟨a, c, ap, cpp, r1, r2, r3⟩ := h
  have k0 := r1.owed
  have k1 := r1.pol
  have HL := hide r2
  have HK := hide hk
  clear r1 r2 r3 hk
  by_cases hE : payE b.now m = 0
  · have e2 : payB b m = b.turn ⟨lessZ b.now.owed (payL b.now m) 8, b.now.pol⟩ := by simp only [payB, hE, if_true]
    rw [e2, hE]
    have HPT := hide (unhide HPARTS hE)
    have hE' : shE b.now.pol b.now.owed m = 0 := hE
    rw [hE', show shL b.now.pol b.now.owed m = payL b.now m from rfl, show shR b.now.pol b.now.owed m = payR b.now m from rfl] at SH
    clear e2 hE hE' HPARTS
    generalize hL : payL b.now m = L at *
    generalize hRr : payR b.now m = R at *
    generalize hSP : shP b.now.pol b.now.owed m = SP at *
    obtain ⟨pl, hpl⟩ : ∃ pl, b.now.pol = pl := ⟨_, rfl⟩
    rw [hpl] at SH k1
    have HPL := hide hpl
    clear hL hRr hSP hpl hpt
    go_enter Try.func32, Try.ntmps32
    go_wp2_with fail
    go_region_with (go_at_call 16; refine (unhide SH _ _ _ _ (unhide HL).drew.ints (by omega)).mono ?_; rintro e w1 ⟨a1, n1, c1, rfl, hi1, ha1, hb1⟩)
    all_goals
      replace hb1 : Below w.heap.size w w1 := ⟨hb1.os, hb1.tape, hb1.output, hb1.size, hb1.block⟩
      have HA1 : Hid (∀ p, a1 = some p → w.heap.size ≤ p.block) := ha1
      have hn1 : n1 = 8 := by rw [← hi1.1]; exact (unhide HPT).1
      subst hn1
      have HI1 := hide hi1
      have HB1 := hide hb1
      have HR1 := hide ((unhide HR).below hb1)
      have HL1 : Hid (L8 w1 (grow S w1 w1) a (lessZ b.now.owed L 0)) := by
        rw [lessZ_zero (unhide HK).now.l8]
        exact (unhide HL).keep (fun k hS cur fr hc => hb1.block k ((unhide HR).inb k hS)) fun _ h => .inl h
      have k0' : w1.cell? ⟨D, 0, none⟩ = some (.slice a 8 c) := by
        obtain ⟨_, _, _, _, r1, _, _⟩ := unhide HR
        exact (hb1.cell (p := ⟨D, 0, none⟩) r1.lt).trans k0
      clear hi1 ha1 hb1 k0 k1 SH HL
      have HB11 : Hid (Below w1.heap.size w1 w1) := Below.refl _ _
      go_wp2_with fail
      go_loopw [11, 12] (fun l i wr => ∃ (k : Nat) (al : Option Addr) (cl : Nat), k ≤ 8 ∧ i = .int .i64 k ∧ l = .slice al 8 cl ∧ Hid (L8 wr (grow S w1 wr) al (lessZ b.now.owed L k)) ∧ Hid (Ints wr a1 8 L) ∧ Hid (Below w1.heap.size w1 wr)) (fun l i _ => 8 - (intOf i).toNat)
      case atStart => exact ⟨0, a, c, by omega, rfl, rfl, HL1, HI1, HB11⟩
      case round =>
        obtain ⟨k, al, cl, hk8, rfl, rfl, hl, hi, hb⟩ := hrel
        clear k0' HL1 HB11
        by_cases hlt : k < 8
        · obtain ⟨gb, goff, rfl, hcs⟩ := (unhide hi).2 (by omega)
          have cy := hcs k hlt
          have hx1 : (lessZ b.now.owed L k).getD k 0 = b.now.owed.getD k 0 := by rw [lessZ_at _ _ _ _ hlt, if_neg (Nat.lt_irrefl _)]
          have hb1 := (unhide HK).now.am k
          have hb2 := (unhide HPT).2.1 k
          have CG := hide (fun w h => changed_any al cl (lessZ b.now.owed L k) k (-(L.getD k 0)) w h hlt (by rw [hx1]; omega))
          have hset := lessZ_succ b.now.owed L k hlt
          rw [hx1] at CG
          rw [Int.sub_eq_add_neg] at hset
          rw [hset] at CG
          obtain ⟨y, hy⟩ : ∃ y, L.getD k 0 = y := ⟨_, rfl⟩
          rw [hy] at cy hb2 CG
          have hy2 : y ≤ 1000000000 := by omega
          have hy0 := hb2.1
          clear hcs hx1 hy hset hb1 hb2
          go_wp2_with fail
          refine (unhide CG _ (unhide hl).ints).mono ?_
          rintro e w2 ⟨rfl, h2, b2, z2⟩
          have H2 : Hid (L8 w2 (grow S w1 w2) (some ⟨wr.heap.size, 0, none⟩) (lessZ b.now.owed L (k + 1))) := h2.keep (fun _ _ _ _ _ => rfl) (fun j hj => by subst hj; exact .inr ⟨(unhide hb).size, z2⟩)
          have I2 := hide ((unhide hi).below b2)
          have B2 := hide (below_step (unhide hb) b2)
          clear h2 b2 z2 CG
          go_wp2_with fail
          go_roundw
          case rel => exact ⟨k + 1, _, 8, by omega, by go_num, rfl, H2, I2, B2⟩
          case measure => simp [intOf]; omega
        · have hk' : k = 8 := by omega
          subst hk'
          have HRr := hide ((unhide HR1).grown (unhide hb))
          have k1' : wr.cell? ⟨D, 1, none⟩ = some (.string pl) := by
            obtain ⟨_, _, _, _, r1, _, _⟩ := unhide HRr
            have := r1.pol
            rw [unhide HPL] at this
            exact this
          go_wp2_with fail
          refine (turn_any D _ b ⟨lessZ b.now.owed L 8, pl⟩ al cl wr (unhide HRr) (unhide hl) (unhide HK).few).mono ?_
          rintro e w3 ⟨rfl, h3, f3⟩
          have H3 := hide h3
          have F3 := hide f3
          clear h3 f3 k1'
          go_wp2_with fail
          refine bodyPost_ret (v := .tuple #[.slice a1 8 c1, .int .i64 R, .int .i64 0]) (by simp [results, Try.results32, go_sem]) rfl ?_
          refine ⟨a1, 8, c1, rfl, ?_, ?_, ?_⟩
          · refine (unhide F3).ints (unhide hi) fun p hp => ?_
            have h1 := unhide HA1 p hp
            obtain ⟨gb, goff, e, hcs⟩ := (unhide HI1).2 (by omega)
            have hlt1 : gb < w1.heap.size := by
              have := hcs 0 (by omega)
              by_cases hx : gb < w1.heap.size
              · exact hx
              · simp [World.cell?, hx] at this
            rw [e] at hp
            simp only [Option.some.injEq] at hp
            subst hp
            rintro (h2 | h2)
            · have := (unhide HR).inb _ h2
              simp only at this h1
              omega
            · simp only at h2
              omega
          · rw [unhide HPL]
            exact turn_wide ((unhide H3).two (unhide hb).size (unhide F3).size) (unhide HB1).size (Nat.le_refl _)
          · exact (Fr.of_below (unhide HB1)).trans (grow_fr (unhide hb) (unhide F3)) fun i hi => .inl hi
  · have e2 : payB b m = b := by simp only [payB, if_neg hE]
    have e3 : payL b.now m = [] := by
      have : ¬ shE b.now.pol b.now.owed m = 0 := hE
      simp only [payL, shL, if_neg this]
    have e4 : payR b.now m = 0 := by
      have : ¬ shE b.now.pol b.now.owed m = 0 := hE
      simp only [payR, shR, if_neg this]
    rw [e2, e3, e4]
    have hne : (payE b.now m != 0) = true := by simpa using hE
    rw [show shE b.now.pol b.now.owed m = payE b.now m from rfl, show shL b.now.pol b.now.owed m = [] from e3, show shR b.now.pol b.now.owed m = 0 from e4] at SH
    clear e2 e3 e4 hE HPARTS
    generalize hL : payE b.now m = E at *
    generalize hSP : shP b.now.pol b.now.owed m = SP at *
    obtain ⟨pl, hpl⟩ : ∃ pl, b.now.pol = pl := ⟨_, rfl⟩
    rw [hpl] at SH k1
    clear hL hSP hpl hpt
    go_enter Try.func32, Try.ntmps32
    go_wp2_with fail
    go_region_with (go_at_call 16; refine (unhide SH _ _ _ _ (unhide HL).drew.ints (by omega)).mono ?_; rintro e w1 ⟨a1, n1, c1, rfl, hi1, _, hb1⟩)
    all_goals
      replace hb1 : Below w.heap.size w w1 := ⟨hb1.os, hb1.tape, hb1.output, hb1.size, hb1.block⟩
      have HB1 := hide hb1
      have HR1 := hide ((unhide HR).grown hb1)
      clear hi1 hb1 k0 k1 SH
      go_wp2_with fail
      refine bodyPost_ret (v := .tuple #[.slice none 0 0, .int .i64 0, .int .i64 E]) (by simp [results, Try.results32, go_sem]) rfl ?_
      exact ⟨none, 0, 0, rfl, ⟨rfl, fun h => by omega⟩, unhide HR1, Fr.of_below (unhide HB1)⟩
end Go.Proofs.Ytmdjdpofpkgffab
