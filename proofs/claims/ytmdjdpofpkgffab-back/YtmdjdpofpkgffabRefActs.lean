/- RefActs: Install, Charge, Pay of the document's book. -/
import Derived.Test.YtmdjdpofpkgffabRefUse
import Derived.Test.YtmdjdpofpkgffabBookPay
namespace Go.Proofs.Ytmdjdpofpkgffab
open Go.ChangeShapes Go.WideShapes Go.ChangeAt Go.RowKit
open Split
set_option linter.unusedVariables false
set_option linter.unusedSimpArgs false

theorem grow_in {w w' : World} {S : Nat → Prop} (h : ∀ k, S k → k < w.heap.size) (hs : w.heap.size ≤ w'.heap.size) : ∀ k, grow S w w' k → k < w'.heap.size := by
  rintro k (h1 | h1)
  · exact Nat.lt_of_lt_of_le (h k h1) hs
  · exact h1.2
theorem RBk.grown {w w' : World} {D : Nat} {S : Nat → Prop} {b : Bk} (h : RBk w D S b) (hb : Below w.heap.size w w') : RBk w' D (grow S w w') b :=
  (h.below hb).wide (fun _ h => .inl h) (grow_in h.inb hb.size)

set_option maxHeartbeats 1000000 in
theorem rinstall_any (D : Nat) (S : Nat → Prop) (b : Bk) (t : ByteArray) (w : World) (h : RBk w D S b) (hk : b.Ok) (ht : t.size ≤ 1000000000000000) : Calls Try.prog 58 #[.pointer (some ⟨D, 0, none⟩), .string t] w fun e w' => e = .returned (.tuple #[.int .i64 (checkE t), .int .i64 (if checkE t = 0 then 0 else checkP t)]) ∧ RBk w' D (grow S w w') (insB b t) ∧ Fr S w w' := by
  have CH := hide (rcheck_any t · ht)
  have HR := hide h
  clear h
  by_cases hc : checkE t = 0
  · have e1 : insB b t = b.turn ⟨b.now.owed, t⟩ := by simp [insB, hc]
    rw [e1, hc, if_pos rfl]
    have HC := hide hc
    clear e1 hc
    go_enter Try.func58, Try.ntmps58
    go_wp2_with fail
    refine (unhide CH _).mono ?_
    rintro e w1 ⟨rfl, n1, hw1⟩
    rw [unhide HC]
    generalize checkP t = cp
    have hb1 : Below w.heap.size w w1 := by rw [hw1]; exact below_drewN (Below.refl _ _) _
    have hz1 : w1.heap.size = w.heap.size := by rw [hw1]; rfl
    have HR1 := hide ((unhide HR).below hb1)
    have HB1 := hide hb1
    have HZ1 := hide hz1
    obtain ⟨a, c, ap, cpp, r1, r2, r3⟩ := unhide HR1
    have k0 := r1.owed
    have HL := hide r2
    clear hw1 hb1 hz1 r1 r2 r3 CH
    go_wp2_with fail
    refine (turn_any D S b ⟨b.now.owed, t⟩ a c w1 (unhide HR1) (unhide HL) hk.few).mono ?_
    rintro e w2 ⟨rfl, h2, f2⟩
    have H2 := hide h2
    have F2 := hide f2
    clear h2 f2
    go_wp2_with fail
    go_ret2
    refine ⟨rfl, ?_, (Fr.of_below (unhide HB1)).trans (unhide F2) fun i hi => .inl hi⟩
    exact turn_wide (unhide H2) (by rw [unhide HZ1]; exact Nat.le_refl _) (Nat.le_refl _)
  · have hcb : (checkE t != 0) = true := by simpa using hc
    have e1 : insB b t = b := by simp [insB, hc]
    rw [e1, if_neg hc]
    clear e1 hc
    go_enter Try.func58, Try.ntmps58
    go_wp2_with fail
    refine (unhide CH _).mono ?_
    rintro e w1 ⟨rfl, n1, hw1⟩
    have hb1 : Below w.heap.size w w1 := by rw [hw1]; exact below_drewN (Below.refl _ _) _
    have HR1 := hide ((unhide HR).grown hb1)
    have HB1 := hide hb1
    clear hw1 hb1 CH HR
    generalize hgp : checkP t = cp at *
    generalize hge : checkE t = ce at *
    have HG := hide (And.intro hge hgp)
    clear hge hgp
    go_wp2_with fail
    go_ret2
    exact ⟨by rw [(unhide HG).1, (unhide HG).2]; rfl, unhide HR1, Fr.of_below (unhide HB1)⟩

theorem RBk.two {w w1 w2 : World} {D : Nat} {S : Nat → Prop} {b : Bk} (h : RBk w2 D (grow (grow S w w1) w1 w2) b) (h1 : w.heap.size ≤ w1.heap.size) (h2 : w1.heap.size ≤ w2.heap.size) : RBk w2 D (grow S w w2) b := by
  refine h.wide (fun k hk => ?_) fun k hk => ?_
  · rcases hk with (h3 | h3) | h3
    · exact .inl h3
    · exact .inr ⟨h3.1, Nat.lt_of_lt_of_le h3.2 h2⟩
    · exact .inr ⟨Nat.le_trans h1 h3.1, h3.2⟩
  · rcases hk with h3 | h3
    · exact h.inb k (.inl (.inl h3))
    · exact h3.2
theorem grow_fr {w w1 w2 : World} {S : Nat → Prop} (h : Below w.heap.size w w1) (k : Fr (grow S w w1) w1 w2) : Fr S w w2 :=
  (Fr.of_below h).trans k fun i hi => by
    rcases hi with h3 | h3
    · exact .inl h3
    · exact .inr h3.1

theorem bukt_not {s : ByteArray} (h : bukt s = false) (h1 : s.size = 1) (hlt : 0 < s.size) : buc (s[0].toNat : Int) = false := by
  simp only [bukt, h1, decide_true, Bool.true_and] at h
  rw [← byt_lt hlt]
  exact h

set_option maxHeartbeats 1000000 in
theorem rcharge_any (D : Nat) (S : Nat → Prop) (b : Bk) (s : ByteArray) (z : Int) (w : World) (h : RBk w D S b) (hk : b.Ok) (hs : s.size ≤ 1000000000000000) : Calls Try.prog 60 #[.pointer (some ⟨D, 0, none⟩), .string s, .int .i64 z] w fun e w' => e = .returned (.int .i64 (chgE b.now s z)) ∧ RBk w' D (grow S w w') (chgB b s z) ∧ Fr S w w' := by
  have HR := hide h
  have HG := hide (h.grown (Below.refl _ _))
  obtain ⟨a, c, ap, cpp, r1, r2, r3⟩ := h
  have k0 := r1.owed
  have k1 := r1.pol
  have HL := hide r2
  clear r1 r3
  by_cases hb : bukt s = true
  · obtain ⟨h1, k, hk8, hkN, hks⟩ := bukt_parts hb
    have hlt : 0 < s.size := by omega
    replace hks := hks hlt
    have hmod : ((k : Int)) % 256 = (k : Int) := by omega
    have hbc : buc ((k : Int) + 97) = true := by rw [buc_t]; omega
    by_cases ha : 0 ≤ z ∧ z ≤ 1000000000
    · obtain ⟨ha0, ha1⟩ := ha
      have ha : amt z = true := amt_t.2 ⟨ha0, ha1⟩
      obtain ⟨h8, g, off, cur, fr, rfl, hSg, hrow, hcs⟩ := r2
      have co : w.cell? ⟨g, off + k, none⟩ = some (.int .i64 (b.now.owed.getD k 0)) := by rw [cell_of_row w g _ _ _ _ hrow]; exact hcs k hk8
      have hkk := hk.now.am k
      by_cases hf : 1000000000 < b.now.owed.getD k 0 + z
      · have e1 : chgE b.now s z = 9 := by simp only [chgE, hb, ha, hkN, if_true, if_pos hf]
        have e2 : chgB b s z = b := by simp [chgB, e1]
        rw [e1, e2]
        obtain ⟨x, hx⟩ : ∃ x, b.now.owed.getD k 0 = x := ⟨_, rfl⟩
        rw [hx] at hf hkk co
        obtain ⟨t0, ht0⟩ : ∃ t, b.now.pol = t := ⟨_, rfl⟩
        rw [ht0] at k1
        clear e1 e2 hkN hx hk hrow hcs h8 ht0 hb
        go_enter Try.func60, Try.ntmps60
        go_wp2_with fail
        refine (isBucket_any _ _).mono ?_
        rintro e w1 ⟨rfl, hw⟩
        have hw := hw.symm
        subst hw
        rw [hbc]
        go_wp2_with fail
        go_ret
        exact ⟨rfl, unhide HG, Fr.refl _ _⟩
      · have e1 : chgE b.now s z = 0 := by simp only [chgE, hb, ha, hkN, if_true, if_neg hf]
        have e2 : chgB b s z = b.turn ⟨b.now.owed.set k (b.now.owed.getD k 0 + z), b.now.pol⟩ := by simp only [chgB, e1, if_true, chgL, hkN]
        rw [e1, e2]
        have CG := hide (fun w h => changed_any (some ⟨g, off, none⟩) c b.now.owed k z w h hk8 (by omega))
        obtain ⟨x, hx⟩ : ∃ x, b.now.owed.getD k 0 = x := ⟨_, rfl⟩
        rw [hx] at hf hkk co CG
        obtain ⟨t0, ht0⟩ : ∃ t, b.now.pol = t := ⟨_, rfl⟩
        rw [ht0] at k1
        have HX := hide hx
        have HT0 := hide ht0
        have HK := hide hk
        clear e1 e2 hkN hx hk hrow hcs h8 ht0 hb
        go_enter Try.func60, Try.ntmps60
        go_wp2_with fail
        refine (isBucket_any _ _).mono ?_
        rintro e w1 ⟨rfl, hw⟩
        have hw := hw.symm
        subst hw
        rw [hbc]
        go_wp2_with fail
        refine (unhide CG _ (unhide HL).ints).mono ?_
        rintro e w1 ⟨rfl, hl1, hb1, hz1⟩
        have HR1 := hide ((unhide HR).grown hb1)
        have HL1 : Hid (L8 w1 (grow S w w1) (some ⟨w.heap.size, 0, none⟩) (b.now.owed.set k (x + z))) := hl1.keep (fun _ _ _ _ _ => rfl) (fun j hj => by subst hj; exact .inr ⟨Nat.le_refl _, hz1⟩)
        have HB1 := hide hb1
        have k1' : w1.cell? ⟨D, 1, none⟩ = some (.string t0) := by
          obtain ⟨a', c', ap', cpp', r1, _, _⟩ := unhide HR1
          have := r1.pol
          rw [unhide HT0] at this
          exact this
        clear hl1 hb1 hz1 CG k0 k1 co
        go_wp2_with fail
        refine (turn_any D _ b ⟨b.now.owed.set k (x + z), t0⟩ _ 8 w1 (unhide HR1) (unhide HL1) (unhide HK).few).mono ?_
        rintro e w2 ⟨rfl, h2, f2⟩
        have H2 := hide h2
        have F2 := hide f2
        clear h2 f2
        go_wp2_with fail
        go_ret
        refine ⟨rfl, ?_, grow_fr (unhide HB1) (unhide F2)⟩
        rw [unhide HX, unhide HT0]
        exact (unhide H2).two (unhide HB1).size (unhide F2).size
    · have hz : z < 0 ∨ 1000000000 < z := by omega
      have ha' : ¬ amt z = true := by rw [amt_t]; omega
      have e1 : chgE b.now s z = 5 := by simp only [chgE, hb, if_true, if_neg ha']
      have e2 : chgB b s z = b := by simp [chgB, e1]
      rw [e1, e2]
      clear e1 e2 hkN ha ha' hb r2 k0 k1
      rcases hz with hz | hz
      · go_enter Try.func60, Try.ntmps60
        go_wp2_with fail
        refine (isBucket_any _ _).mono ?_
        rintro e w1 ⟨rfl, hw⟩
        have hw := hw.symm
        subst hw
        rw [hbc]
        go_wp2_with fail
        go_ret
        exact ⟨rfl, unhide HG, Fr.refl _ _⟩
      · go_enter Try.func60, Try.ntmps60
        go_wp2_with fail
        refine (isBucket_any _ _).mono ?_
        rintro e w1 ⟨rfl, hw⟩
        have hw := hw.symm
        subst hw
        rw [hbc]
        go_wp2_with fail
        go_ret
        exact ⟨rfl, unhide HG, Fr.refl _ _⟩
  · have e1 : chgE b.now s z = 8 := by simp only [chgE, if_neg hb]
    have e2 : chgB b s z = b := by simp [chgB, e1]
    rw [e1, e2]
    have hb' : bukt s = false := by simpa using hb
    clear e1 e2 hb r2 k0 k1
    by_cases h1 : s.size = 1
    · have hlt : 0 < s.size := by omega
      have hbc := bukt_not hb' h1 hlt
      clear hb'
      go_enter Try.func60, Try.ntmps60
      go_wp2_with fail
      refine (isBucket_any _ _).mono ?_
      rintro e w1 ⟨rfl, hw⟩
      have hw := hw.symm
      subst hw
      rw [hbc]
      go_wp2_with fail
      go_ret
      exact ⟨rfl, unhide HG, Fr.refl _ _⟩
    · have hne : ((s.size : Int) != 1) = true := by simp; omega
      have hne' : ((s.size : Int) == 1) = false := by simp; omega
      clear hb'
      go_enter Try.func60, Try.ntmps60
      go_wp2_with fail
      go_ret
      exact ⟨rfl, unhide HG, Fr.refl _ _⟩

end Go.Proofs.Ytmdjdpofpkgffab
