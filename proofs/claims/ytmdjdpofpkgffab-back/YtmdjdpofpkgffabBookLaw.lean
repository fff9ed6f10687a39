/- BookLaw: the law's step on two books side by side. -/
import Derived.Test.YtmdjdpofpkgffabRefBPay
import Derived.Test.YtmdjdpofpkgffabShares
namespace Go.Proofs.Ytmdjdpofpkgffab
open Go.ChangeShapes Go.WideShapes Go.ChangeAt Go.RowKit
open Split
set_option linter.unusedVariables false
set_option linter.unusedSimpArgs false

/-- The program's book and the document's, in the same state. -/
structure Pair (w : World) (P D : Nat) (S : Nat → Prop) (b : Bk) : Prop where
  sb : SBk w P b
  rb : RBk w D S b
  np : ¬ S P
  ok : b.Ok

theorem Pair.keep {w w' : World} {P D : Nat} {S : Nat → Prop} {b : Bk} (h : Pair w P D S b) {X : Nat → Prop} (hf : Fr X w w') (h1 : ¬ X P) (h2 : ∀ k, S k → ¬ X k) : Pair w' P D S b :=
  ⟨SRow.fr h.sb hf h1, h.rb.fr hf h2, h.np, h.ok⟩
theorem Pair.below {w w' : World} {P D : Nat} {S : Nat → Prop} {b : Bk} (h : Pair w P D S b) (hb : Below w.heap.size w w') : Pair w' P D S b :=
  h.keep (X := fun _ => False) (Fr.of_below hb) (fun h => h) (fun _ _ h => h)
theorem Pair.lt {w : World} {P D : Nat} {S : Nat → Prop} {b : Bk} (h : Pair w P D S b) : P < w.heap.size := SRow.lt h.sb
theorem Pair.grow {w : World} {P D : Nat} {S : Nat → Prop} {b : Bk} (h : Pair w P D S b) : Pair w P D (grow S w w) b :=
  ⟨h.sb, h.rb.grown (Below.refl _ _), by rintro (h1 | h1); exact h.np h1; omega, h.ok⟩

/-- What an operation makes of the book. -/
def stepB (kind a : Int) (s : ByteArray) (b : Bk) : Bk := if kind = 3 then insB b s else if kind = 4 then chgB b s a else if kind = 5 then payB b a else if kind = 6 then undB b else b

/-- Behind the program's call and the document's. -/
theorem pair_step {w w1 w2 : World} {P D : Nat} {S : Nat → Prop} {b b' : Bk} (h : Pair w P D S b) (s1 : SBk w1 P b') (f1 : Fr (· = P) w w1) (r2 : RBk w2 D (Go.Proofs.Ytmdjdpofpkgffab.grow S w1 w2) b') (f2 : Fr S w1 w2) (hok : b'.Ok) :
    Pair w2 P D (Go.Proofs.Ytmdjdpofpkgffab.grow S w w2) b' ∧ Fr (fun k => k = P ∨ S k) w w2 := by
  refine ⟨⟨SRow.fr s1 f2 h.np, turn_wide r2 f1.size (Nat.le_refl _), ?_, hok⟩, ?_⟩
  · rintro (h1 | h1)
    · exact h.np h1
    · have := h.lt; omega
  · exact (f1.mono fun i _ hi => (.inl hi : i = P ∨ S i)).trans f2 fun i hi => .inl (.inr hi)
theorem pair_mid {w w1 : World} {P D : Nat} {S : Nat → Prop} {b : Bk} (h : Pair w P D S b) (f1 : Fr (· = P) w w1) : RBk w1 D S b := h.rb.fr f1 fun k hk e => by subst e; exact h.np hk

/-- The step itself, in a block of its own. -/
theorem op_box (w : World) (kind a bb : Int) (s t : ByteArray) (v : Value) {P D : Nat} {S : Nat → Prop} {b : Bk} (h : Pair w P D S b) :
    ∃ w0, w.alloc (.cells #[.int .i64 kind, .int .i64 a, .int .i64 bb, .string s, .string t, v] 46) = w0 ∧ w0.heap[w.heap.size]? = some (.cells #[.int .i64 kind, .int .i64 a, .int .i64 bb, .string s, .string t, v] 46 (0, 0)) ∧ Below w.heap.size w w0 ∧ Pair w0 P D S b :=
  ⟨_, rfl, heap_alloc_new _ _, (Below.refl _ _).alloc (Nat.le_refl _) _, h.below ((Below.refl _ _).alloc (Nat.le_refl _) _)⟩
theorem op_cell {w : World} {O : Nat} {kind a bb : Int} {s t : ByteArray} {v : Value} (h : w.heap[O]? = some (.cells #[.int .i64 kind, .int .i64 a, .int .i64 bb, .string s, .string t, v] 46 (0, 0))) :
    w.cell? ⟨O, 0, none⟩ = some (.int .i64 kind) ∧ w.cell? ⟨O, 1, none⟩ = some (.int .i64 a) ∧ w.cell? ⟨O, 3, none⟩ = some (.string s) := by
  refine ⟨?_, ?_, ?_⟩
  · rw [cell_of_row w O 0 _ _ _ h]; rfl
  · rw [cell_of_row w O 1 _ _ _ h]; rfl
  · rw [cell_of_row w O 3 _ _ _ h]; rfl
theorem pair_done {w w0 w2 : World} {P D : Nat} {S : Nat → Prop} {b : Bk} (h0 : Below w.heap.size w w0) (hp : P < w.heap.size) (hnp : ¬ S P) (h : Pair w2 P D (grow S w0 w2) b) (f : Fr (fun k => k = P ∨ S k) w0 w2) : Pair w2 P D (grow S w w2) b ∧ Fr (fun k => k = P ∨ S k) w w2 := by
  refine ⟨⟨h.sb, turn_wide h.rb h0.size (Nat.le_refl _), ?_, h.ok⟩, (Fr.of_below h0).trans f fun i hi => .inl hi⟩
  rintro (h1 | h1)
  · exact hnp h1
  · omega

theorem payL_len (p : Pg) (m : Int) : (payL p m).length ≤ 8 := shL_len _ _ _
theorem pair_later {w w2 w3 : World} {P D : Nat} {S X : Nat → Prop} {b : Bk} (h : Pair w2 P D (grow S w w2) b ∧ Fr X w w2) (h3 : Below w2.heap.size w2 w3) : Pair w3 P D (grow S w w3) b ∧ Fr X w w3 := by
  have h1 := h.1.below h3
  have hlt := h.1.lt
  refine ⟨⟨h1.sb, h1.rb.wide (fun k hk => ?_) (fun k hk => ?_), ?_, h1.ok⟩, h.2.trans (Fr.of_below (S := X) h3) fun i hi => .inl hi⟩
  · rcases hk with hk | hk
    · exact .inl hk
    · exact .inr ⟨hk.1, Nat.lt_of_lt_of_le hk.2 h3.size⟩
  · rcases hk with hk | hk
    · exact h1.rb.inb k (.inl hk)
    · exact hk.2
  · rintro (hk | hk)
    · exact h.1.np (.inl hk)
    · exact h.1.np (.inr ⟨hk.1, hlt⟩)
theorem pair_zero {w w1 : World} {P D : Nat} {S : Nat → Prop} {b : Bk} (h : Pair w P D S b) (h1 : Below w.heap.size w w1) : Pair w1 P D (grow S w w1) b ∧ Fr (fun k => k = P ∨ S k) w w1 :=
  pair_later (w2 := w) ⟨h.grow, Fr.refl _ _⟩ h1

set_option maxHeartbeats 2000000 in
theorem book_install (P D : Nat) (S : Nat → Prop) (b : Bk) (a bb : Int) (s t : ByteArray) (v : Value) (w : World) (h : Pair w P D S b) (hs : s.size ≤ 1000000000000000) :
    Calls Try.prog 34 #[.pointer (some ⟨P, 0, none⟩), .pointer (some ⟨D, 0, none⟩), .agg #[.int .i64 3, .int .i64 a, .int .i64 bb, .string s, .string t, v]] w fun e w' => e = .returned (.bool true) ∧ Pair w' P D (grow S w w') (insB b s) ∧ Fr (fun k => k = P ∨ S k) w w' := by
  obtain ⟨w0, hw0, orow, hb0, hp0⟩ := op_box w 3 a bb s t v h
  have hPO : P < w.heap.size := h.lt
  have hNP := hide h.np
  obtain ⟨oc0, oc1, oc3⟩ := op_cell orow
  have OROW := hide orow
  have HB0 := hide hb0
  have HP0 := hide hp0
  have hO0 : w.heap.size < w0.heap.size := cell_lt orow
  clear h orow hb0 hp0
  go_enter Try.func34, Try.ntmps34
  go_wp2_with fail
  try rw [hw0]
  refine (sinstall_any P b s _ (unhide HP0).sb hs).mono ?_
  rintro e w1 ⟨rfl, s1, f1⟩
  have OROW1 := hide ((f1.block w.heap.size hO0 (by omega)).trans (unhide OROW))
  obtain ⟨pc0, pc1, pc3⟩ := op_cell (unhide OROW1)
  have S1 := hide s1
  have F1 := hide f1
  have R1 := hide (pair_mid (unhide HP0) f1)
  clear s1 f1 hw0 oc0 oc1 oc3
  generalize hce : checkE s = ce at *
  generalize hcp : (if ce = 0 then 0 else checkP s) = cp at *
  go_wp2_with fail
  refine (rinstall_any D S b s _ (unhide R1) (unhide HP0).ok hs).mono ?_
  rintro e w2 ⟨rfl, r2, f2⟩
  have Q2 := pair_step (unhide HP0) (unhide S1) (unhide F1) r2 f2 (insB_ok (unhide HP0).ok s)
  have H := hide (pair_done (unhide HB0) hPO (unhide hNP) Q2.1 Q2.2)
  clear r2 f2 Q2
  rw [hce, hcp]
  clear hce hcp
  have k1 : (ce == ce) = true := by simp
  have k2 : (cp == cp) = true := by simp
  go_wp2
  go_ret
  exact ⟨rfl, unhide H⟩

set_option maxHeartbeats 2000000 in
theorem book_charge (P D : Nat) (S : Nat → Prop) (b : Bk) (a bb : Int) (s t : ByteArray) (v : Value) (w : World) (h : Pair w P D S b) (hs : s.size ≤ 1000000000000000) :
    Calls Try.prog 34 #[.pointer (some ⟨P, 0, none⟩), .pointer (some ⟨D, 0, none⟩), .agg #[.int .i64 4, .int .i64 a, .int .i64 bb, .string s, .string t, v]] w fun e w' => e = .returned (.bool true) ∧ Pair w' P D (grow S w w') (chgB b s a) ∧ Fr (fun k => k = P ∨ S k) w w' := by
  obtain ⟨w0, hw0, orow, hb0, hp0⟩ := op_box w 4 a bb s t v h
  have hPO : P < w.heap.size := h.lt
  have hNP := hide h.np
  obtain ⟨oc0, oc1, oc3⟩ := op_cell orow
  have OROW := hide orow
  have HB0 := hide hb0
  have HP0 := hide hp0
  have hO0 : w.heap.size < w0.heap.size := cell_lt orow
  clear h orow hb0 hp0
  go_enter Try.func34, Try.ntmps34
  go_wp2_with fail
  try rw [hw0]
  refine (scharge_any P b s a _ (unhide HP0).sb (unhide HP0).ok hs).mono ?_
  rintro e w1 ⟨rfl, s1, f1⟩
  have OROW1 := hide ((f1.block w.heap.size hO0 (by omega)).trans (unhide OROW))
  obtain ⟨pc0, pc1, pc3⟩ := op_cell (unhide OROW1)
  have S1 := hide s1
  have F1 := hide f1
  have R1 := hide (pair_mid (unhide HP0) f1)
  clear s1 f1 hw0 oc0 oc1 oc3
  generalize hce : chgE b.now s a = ce at *
  go_wp2_with fail
  refine (rcharge_any D S b s a _ (unhide R1) (unhide HP0).ok hs).mono ?_
  rintro e w2 ⟨rfl, r2, f2⟩
  have Q2 := pair_step (unhide HP0) (unhide S1) (unhide F1) r2 f2 (chgB_ok (unhide HP0).ok s a)
  have H := hide (pair_done (unhide HB0) hPO (unhide hNP) Q2.1 Q2.2)
  clear r2 f2 Q2
  rw [hce]
  clear hce
  have k1 : (ce == ce) = true := by simp
  go_wp2
  go_ret
  exact ⟨rfl, unhide H⟩

set_option maxHeartbeats 2000000 in
theorem book_undo (P D : Nat) (S : Nat → Prop) (b : Bk) (a bb : Int) (s t : ByteArray) (v : Value) (w : World) (h : Pair w P D S b) :
    Calls Try.prog 34 #[.pointer (some ⟨P, 0, none⟩), .pointer (some ⟨D, 0, none⟩), .agg #[.int .i64 6, .int .i64 a, .int .i64 bb, .string s, .string t, v]] w fun e w' => e = .returned (.bool true) ∧ Pair w' P D (grow S w w') (undB b) ∧ Fr (fun k => k = P ∨ S k) w w' := by
  obtain ⟨w0, hw0, orow, hb0, hp0⟩ := op_box w 6 a bb s t v h
  have hPO : P < w.heap.size := h.lt
  have hNP := hide h.np
  obtain ⟨oc0, oc1, oc3⟩ := op_cell orow
  have OROW := hide orow
  have HB0 := hide hb0
  have HP0 := hide hp0
  have hO0 : w.heap.size < w0.heap.size := cell_lt orow
  clear h orow hb0 hp0
  go_enter Try.func34, Try.ntmps34
  go_wp2_with fail
  try rw [hw0]
  refine (sundo_any P b _ (unhide HP0).sb).mono ?_
  rintro e w1 ⟨rfl, s1, f1⟩
  have OROW1 := hide ((f1.block w.heap.size hO0 (by omega)).trans (unhide OROW))
  obtain ⟨pc0, pc1, pc3⟩ := op_cell (unhide OROW1)
  have S1 := hide s1
  have F1 := hide f1
  have R1 := hide (pair_mid (unhide HP0) f1)
  clear s1 f1 hw0 oc0 oc1 oc3
  generalize hce : undE b = ce at *
  go_wp2_with fail
  refine (rundo_any D S b _ (unhide R1) (unhide HP0).ok.few).mono ?_
  rintro e w2 ⟨rfl, r2, f2⟩
  have Q2 := pair_step (unhide HP0) (unhide S1) (unhide F1) (r2.wide (fun k h => (.inl h : grow S w1 w2 k)) (grow_in (unhide R1).inb f2.size)) f2 (undB_ok (unhide HP0).ok)
  have H := hide (pair_done (unhide HB0) hPO (unhide hNP) Q2.1 Q2.2)
  clear r2 f2 Q2
  rw [hce]
  clear hce
  have k1 : (ce == ce) = true := by simp
  go_wp2
  go_ret
  exact ⟨rfl, unhide H⟩

set_option maxHeartbeats 2000000 in
theorem book_pay (P D : Nat) (S : Nat → Prop) (b : Bk) (a bb : Int) (s t : ByteArray) (v : Value) (w : World) (h : Pair w P D S b) :
    Calls Try.prog 34 #[.pointer (some ⟨P, 0, none⟩), .pointer (some ⟨D, 0, none⟩), .agg #[.int .i64 5, .int .i64 a, .int .i64 bb, .string s, .string t, v]] w fun e w' => e = .returned (.bool true) ∧ Pair w' P D (grow S w w') (payB b a) ∧ Fr (fun k => k = P ∨ S k) w w' := by
  obtain ⟨w0, hw0, orow, hb0, hp0⟩ := op_box w 5 a bb s t v h
  have hPO : P < w.heap.size := h.lt
  have hNP := hide h.np
  obtain ⟨oc0, oc1, oc3⟩ := op_cell orow
  have OROW := hide orow
  have HB0 := hide hb0
  have HP0 := hide hp0
  have hO0 : w.heap.size < w0.heap.size := cell_lt orow
  clear h orow hb0 hp0
  go_enter Try.func34, Try.ntmps34
  go_wp2_with fail
  try rw [hw0]
  refine (spay_any P b a _ (unhide HP0).sb (unhide HP0).ok).mono ?_
  rintro e w1 ⟨a1, n1, c1, rfl, i1, ha1, s1, f1⟩
  have I1 := hide i1
  have A1 := hide ha1
  have hn1 : n1 ≤ 8 := by rw [← i1.1]; exact payL_len b.now a
  clear i1 ha1
  have OROW1 := hide ((f1.block w.heap.size hO0 (by omega)).trans (unhide OROW))
  obtain ⟨pc0, pc1, pc3⟩ := op_cell (unhide OROW1)
  have S1 := hide s1
  have F1 := hide f1
  have R1 := hide (pair_mid (unhide HP0) f1)
  clear s1 f1 hw0 oc0 oc1 oc3
  have SP := hide (unhide HP0).rb.inb
  generalize hce : payE b.now a = ce at *
  generalize hcr : payR b.now a = cr at *
  generalize hcl : payL b.now a = cl at *
  go_wp2_with fail
  refine (rbpay_any D S b a _ (unhide R1) (unhide HP0).ok).mono ?_
  rintro e w2 ⟨a2, n2, c2, rfl, i2, r2, f2⟩
  rw [hcl] at i2
  have I2 := hide i2
  have I1' := hide (f2.ints (unhide I1) fun p hp hS => by have h1 := unhide A1 p hp; have h2 := unhide SP _ hS; omega)
  have Q2 := pair_step (unhide HP0) (unhide S1) (unhide F1) r2 f2 (payB_ok (unhide HP0).ok a)
  have H := hide (pair_done (unhide HB0) hPO (unhide hNP) Q2.1 Q2.2)
  clear r2 f2 Q2 i2
  rw [hce, hcr]
  clear hce hcr hcl
  have k1 : (ce == ce) = true := by simp
  have k2 : (cr == cr) = true := by simp
  go_wp2_with fail
  refine (same_any _ _ _ cl _ _ _ cl _ (unhide I1') (unhide I2) (by omega)).mono ?_
  rintro e w3 ⟨rfl, n3, hw3⟩
  have hb3 : Below w2.heap.size w2 w3 := by rw [hw3]; exact below_drewN (Below.refl _ _) _
  have H3 := hide (pair_later (unhide H) hb3)
  clear hw3 hb3
  rw [decide_eq_true (rfl : cl = cl)]
  go_wp2
  go_ret
  exact ⟨rfl, unhide H3⟩

set_option maxHeartbeats 2000000 in
theorem book_owed (P D : Nat) (S : Nat → Prop) (b : Bk) (a bb : Int) (s t : ByteArray) (v : Value) (w : World) (h : Pair w P D S b) :
    Calls Try.prog 34 #[.pointer (some ⟨P, 0, none⟩), .pointer (some ⟨D, 0, none⟩), .agg #[.int .i64 2, .int .i64 a, .int .i64 bb, .string s, .string t, v]] w fun e w' => e = .returned (.bool true) ∧ Pair w' P D (grow S w w') b ∧ Fr (fun k => k = P ∨ S k) w w' := by
  obtain ⟨w0, hw0, orow, hb0, hp0⟩ := op_box w 2 a bb s t v h
  have hPO : P < w.heap.size := h.lt
  have hNP := hide h.np
  obtain ⟨oc0, oc1, oc3⟩ := op_cell orow
  have OROW := hide orow
  have HB0 := hide hb0
  have HP0 := hide hp0
  have hO0 : w.heap.size < w0.heap.size := cell_lt orow
  clear h orow hb0 hp0
  go_enter Try.func34, Try.ntmps34
  go_wp2_with fail
  try rw [hw0]
  refine (sowed_any P b _ (unhide HP0).sb (unhide HP0).ok).mono ?_
  rintro e w1 ⟨g1, rfl, hg1, hg2, i1, b1⟩
  have I1 := hide i1
  have HP1 := hide ((unhide HP0).below b1)
  have B1 := hide b1
  clear i1 b1 hw0 oc0 oc1 oc3 hg2
  go_wp2_with fail
  refine (rowed_any D S b _ (unhide HP1).rb).mono ?_
  rintro e w2 ⟨a2, c2, rfl, l2, hw2⟩
  have hw2 := hw2.symm
  subst hw2
  have I2 := hide l2.ints
  have H := hide (pair_done (unhide HB0) hPO (unhide hNP) (pair_zero (unhide HP0) (unhide B1)).1 (pair_zero (unhide HP0) (unhide B1)).2)
  clear l2
  go_wp2_with fail
  refine (same_any _ _ _ b.now.owed _ _ _ b.now.owed _ (unhide I1) (unhide I2) (by omega)).mono ?_
  rintro e w3 ⟨rfl, n3, hw3⟩
  have hb3 : Below w1.heap.size w1 w3 := by rw [hw3]; exact below_drewN (Below.refl _ _) _
  have H3 := hide (pair_later (unhide H) hb3)
  clear hw3 hb3
  rw [decide_eq_true (rfl : b.now.owed = b.now.owed)]
  go_wp2
  go_ret
  exact ⟨rfl, unhide H3⟩

end Go.Proofs.Ytmdjdpofpkgffab
