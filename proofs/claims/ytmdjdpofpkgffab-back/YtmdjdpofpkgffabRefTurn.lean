/- RefTurn: New, Owed, turn, Undo of the document's book. -/
import Derived.Test.YtmdjdpofpkgffabRefOps
namespace Go.Proofs.Ytmdjdpofpkgffab
open Go.ChangeShapes Go.WideShapes Go.ChangeAt Go.RowKit
open Split
set_option linter.unusedVariables false
set_option linter.unusedSimpArgs false

theorem madeZ : (madeCells (Value.int .i64 0).cells (8 * 1)).toList = (List.replicate 8 (0 : Int)).map (Value.int .i64) := by
  simp [toList_madeCells_one, Value.cells]

set_option maxHeartbeats 1000000 in
theorem rnew_any (w : World) : Calls Try.prog 31 #[] w fun e w' => ∃ D : Nat, e = .returned (.pointer (some ⟨D, 0, none⟩)) ∧ w.heap.size ≤ D ∧ RBk w' D (fun k => w.heap.size ≤ k ∧ k < w'.heap.size) bk0 ∧ Below w.heap.size w w' := by
  obtain ⟨i0, hi, hz0, hz1, hz2⟩ := info_parts infoInt
  go_enter Try.func31, Try.ntmps31
  go_wp2_with (at_make; refine wpList_make_full _ rfl _ _ 22 rfl w.heap.size 3 i0 (.int .i64 0) 1 Try.underlying22 hi hz0 hz1 .i64 .i64 _ _ 8 rfl rfl rfl rfl (by rw [hz2]; omega) (by unfold maxLen; omega) (Nat.le_refl _) ?_; intro w1 hown hgrow)
  go_ret
  have hlt : w.heap.size < w1.heap.size := by
    rcases hown.2 with ⟨h', _⟩ | ⟨g', cap', cur, h', _, hg, _⟩
    · simp at h'
    · simp only [Value.slice.injEq, Option.some.injEq, Addr.mk.injEq, and_true, true_and] at h'
      obtain ⟨rfl, rfl⟩ := h'
      exact cell_lt hg
  have hb : Below w.heap.size w w1 := (Below.refl _ _).grown hgrow (Nat.le_refl _) (by simp)
  rw [madeZ] at hown
  refine ⟨w1.heap.size, rfl, hb.size, ?_, hb.alloc hb.size _⟩
  refine ⟨_, 8, none, 0, ⟨fun k hk => hk.2, ⟨hb.size, by simp⟩, heap_alloc_new _ _⟩, ?_, ⟨.inl ⟨rfl, rfl, rfl⟩⟩⟩
  have h8 := l8_of_own (S := fun k => k = w.heap.size) (by simp) hown rfl
  exact h8.keep (fun k hk _ _ _ => by subst hk; exact Below.heap_alloc _ _ _ hlt) (fun k hk => by subst hk; exact ⟨Nat.le_refl _, by simp; omega⟩)

theorem rowed_any (D : Nat) (S : Nat → Prop) (b : Bk) (w : World) (h : RBk w D S b) : Calls Try.prog 35 #[.pointer (some ⟨D, 0, none⟩)] w fun e w' => ∃ (a : Option Addr) (c : Nat), e = .returned (.slice a 8 c) ∧ L8 w S a b.now.owed ∧ w' = w := by
  obtain ⟨a, c, ap, cp, h1, h2, h3⟩ := h
  have c0 := h1.owed
  have HI := hide h2
  clear h1 h2 h3
  go_enter Try.func35, Try.ntmps35
  go_wp2
  go_ret
  exact ⟨a, c, rfl, unhide HI, rfl⟩

theorem RPast.alloc {w : World} {S : Nat → Prop} {ap : Option Addr} {cp : Nat} {ps : List Pg} (h : RPast w S ap cp ps) (hin : ∀ k, S k → k < w.heap.size) (o : Obj) : RPast (w.alloc o) S ap cp ps :=
  h.keep (fun k hk _ _ _ _ _ => Below.heap_alloc _ _ _ (hin k hk)) fun _ h => h
theorem RPast.drew {w : World} {S : Nat → Prop} {ap : Option Addr} {cp : Nat} {ps : List Pg} (h : RPast w S ap cp ps) : RPast w.drew S ap cp ps := h.keep (fun _ _ _ _ _ _ _ => rfl) fun _ h => h
theorem L8.alloc {w : World} {S : Nat → Prop} {a : Option Addr} {zs : List Int} (h : L8 w S a zs) (hin : ∀ k, S k → k < w.heap.size) (o : Obj) : L8 (w.alloc o) S a zs :=
  h.keep (fun k hk _ _ _ => Below.heap_alloc _ _ _ (hin k hk)) fun _ h => h
theorem L8.drew {w : World} {S : Nat → Prop} {a : Option Addr} {zs : List Int} (h : L8 w S a zs) : L8 w.drew S a zs := h.keep (fun _ _ _ _ _ => rfl) fun _ h => h
theorem in_alloc {w : World} {S : Nat → Prop} (h : ∀ k, S k → k < w.heap.size) (o : Obj) : ∀ k, S k → k < (w.alloc o).heap.size := fun k hk => by have := h k hk; simp; omega

/-- What the append leaves: the book's own cells, the page that came in, and the lists. -/
theorem turn_via {w W w2 : World} {D : Nat} {S : Nat → Prop} {a0 ap : Option Addr} {c0 n cp : Nat} {t : ByteArray} (h : RRow w D S a0 c0 t ap n cp) (hW : ∀ k, k < w.heap.size → W.heap[k]? = w.heap[k]?) (hle : w.heap.size ≤ W.heap.size) (hf : Fr (paged S W) W w2) : RRow w2 D (grow S W w2) a0 c0 t ap n cp := by
  refine ⟨fun k hk => ?_, .inl h.sd, ?_⟩
  · rcases hk with h1 | h1
    · exact Nat.lt_of_lt_of_le (h.inb k h1) (Nat.le_trans hle hf.size)
    · exact h1.2
  · rw [hf.block D (Nat.lt_of_lt_of_le h.lt hle) ?_, hW D h.lt]
    · exact h.row
    · rintro ⟨_, cur, fr, hc⟩
      rw [hW D h.lt, h.row] at hc
      simp at hc

theorem turn_list {w W w2 : World} {S : Nat → Prop} {a : Option Addr} {zs : List Int} (h : L8 w S a zs) (hin : ∀ k, S k → k < w.heap.size) (hW : ∀ k, k < w.heap.size → W.heap[k]? = w.heap[k]?) (hle : w.heap.size ≤ W.heap.size) (hf : Fr (paged S W) W w2) : L8 w2 (grow S W w2) a zs :=
  h.keep (fun k hk cur fr hc => by
    rw [hf.block k (Nat.lt_of_lt_of_le (hin k hk) hle) ?_, hW k (hin k hk)]
    rintro ⟨_, cur', fr', hc'⟩
    rw [hW k (hin k hk), hc] at hc'
    simp at hc') fun _ h => .inl h
theorem turn_arg {w W w2 : World} {S : Nat → Prop} {k : Nat} (hin : ∀ k, S k → k < w.heap.size) (hk : w.heap.size ≤ k) (hlt : k < W.heap.size) (hf : Fr (paged S W) W w2) : w2.heap[k]? = W.heap[k]? :=
  hf.block k hlt (by rintro ⟨hS, _⟩; have := hin k hS; omega)
theorem RPast.form {w : World} {S : Nat → Prop} {ap : Option Addr} {cp : Nat} {ps : List Pg} (h : RPast w S ap cp ps) (hne : ps ≠ []) : ∃ g off, ap = some ⟨g, off, none⟩ ∧ ps.length ≤ cp := by
  rcases h.ex with ⟨_, _, e⟩ | ⟨g, off, cur, h1, h2, h3, h4, h5, h6⟩
  · exact absurd e hne
  · exact ⟨g, off, h1, h4⟩
theorem RPast.tail {w : World} {S : Nat → Prop} {g off cp : Nat} {q : Pg} {ps : List Pg} (h : RPast w S (some ⟨g, off, none⟩) cp (q :: ps)) : RPast w S (some ⟨g, off + 2, none⟩) (cp - 1) ps := by
  rcases h.ex with ⟨e, _, _⟩ | ⟨g', off', cur, h1, h2, h3, h4, h5, h6⟩
  · simp at e
  · simp only [Option.some.injEq, Addr.mk.injEq, and_true] at h1
    obtain ⟨rfl, rfl⟩ := h1
    simp only [List.length_cons] at h4
    refine ⟨.inr ⟨g, off + 2, cur, rfl, h2, h3, by omega, by omega, fun k p hp => ?_⟩⟩
    obtain ⟨a, c, e1, e2, e3⟩ := h6 (k + 1) p (by simpa using hp)
    refine ⟨a, c, ?_, ?_, e3⟩
    · rw [show off + 2 + k * 2 = off + (k + 1) * 2 by omega]; exact e1
    · rw [show off + 2 + k * 2 + 1 = off + (k + 1) * 2 + 1 by omega]; exact e2
theorem RPast.less {w : World} {S : Nat → Prop} {ap : Option Addr} {cp : Nat} {ps : List Pg} (h : RPast w S ap cp ps) (n : Nat) : RPast w S ap cp (ps.take n) := by
  rcases h.ex with ⟨h1, h2, rfl⟩ | ⟨g, off, cur, h1, h2, h3, h4, h5, h6⟩
  · exact ⟨.inl ⟨h1, h2, by simp⟩⟩
  · refine ⟨.inr ⟨g, off, cur, h1, h2, h3, by simp; omega, h5, fun k p hp => ?_⟩⟩
    rw [List.getElem?_take] at hp
    split at hp
    · exact h6 k p hp
    · simp at hp

theorem turn_end {w2 : World} {D : Nat} {S2 : Nat → Prop} {a0 ap a ap' : Option Addr} {c0 n cp c n' cp' : Nat} {t0 t : ByteArray} {p : Pg} {ps : List Pg} (hR : RRow w2 D S2 a0 c0 t0 ap n cp) (hL : L8 w2 S2 a p.owed) (hP : RPast w2 S2 ap' cp' ps) (hn : ps.length = n') (ht : p.pol = t) :
    RBk (((w2.setCell ⟨D, 2, none⟩ (.slice ap' n' cp')).setCell ⟨D, 0, none⟩ (.slice a 8 c)).setCell ⟨D, 1, none⟩ (.string t)) D S2 ⟨p, ps⟩ := by
  subst hn
  subst ht
  have r1 := hR.setPast ap' ps.length cp'
  have r2 := r1.setOwed a c
  have r3 := r2.setPol p.pol
  exact ⟨a, c, ap', cp', r3, r2.list (r1.list (hR.list hL 2 _) 0 _) 1 _, r2.pages (r1.pages (hR.pages hP 2 _) 0 _) 1 _⟩
theorem size_set (w : World) (a : Addr) (v : Value) : (w.setCell a v).heap.size = w.heap.size := by simp [World.setCell]
theorem turn_wide {w w' w2 W : World} {D : Nat} {S : Nat → Prop} {b : Bk} (h : RBk w' D (grow S W w2) b) (h1 : w.heap.size ≤ W.heap.size) (h2 : w2.heap.size ≤ w'.heap.size) : RBk w' D (grow S w w') b := by
  refine h.wide (fun k hk => ?_) fun k hk => ?_
  · rcases hk with h3 | h3
    · exact .inl h3
    · exact .inr ⟨Nat.le_trans h1 h3.1, Nat.lt_of_lt_of_le h3.2 h2⟩
  · rcases hk with h3 | h3
    · exact h.inb k (.inl h3)
    · exact h3.2

set_option maxHeartbeats 1000000 in
theorem turn_any (D : Nat) (S : Nat → Prop) (b : Bk) (p : Pg) (a : Option Addr) (c : Nat) (w : World) (h : RBk w D S b) (hp : L8 w S a p.owed) (hf : b.past.length ≤ 12) : Calls Try.prog 56 #[.pointer (some ⟨D, 0, none⟩), .agg #[.slice a 8 c, .string p.pol]] w fun e w' => e = .returned (.tuple #[]) ∧ RBk w' D (grow S w w') (b.turn p) ∧ Fr S w w' := by
  obtain ⟨a0, c0, ap, cp, h1, h2, h3⟩ := h
  have k0 := h1.owed
  have k1 := h1.pol
  have k2 := h1.past
  have fr := h1.frozen
  have hD := h1.lt
  have HP := hide hp
  have H1 := hide h1
  have H2 := hide h2
  have H3 := hide h3
  obtain ⟨n, hn⟩ : ∃ n, b.past.length = n := ⟨_, rfl⟩
  obtain ⟨t0, ht0⟩ : ∃ t, b.now.pol = t := ⟨_, rfl⟩
  obtain ⟨t1, ht1⟩ : ∃ t, p.pol = t := ⟨_, rfl⟩
  rw [hn] at k2 hf
  rw [ht0] at k1
  rw [ht1]
  have HN := hide hn
  have HT0 := hide ht0
  have HT1 := hide ht1
  clear h1 h2 h3 hp hn ht0 ht1
  by_cases h12 : n = 12
  · subst h12
    go_enter Try.func56, Try.ntmps56
    go_wp2
    go_region_law (refine step_append_pages rfl (.tmp 8) (.tmp 13) rfl S ap 12 cp b.past (unhide HN) (by simp [Act.eval, Act.put]) (by exact RPast.alloc (RPast.drew (RPast.alloc (unhide H3) (unhide H1).inb _)) (in_alloc (unhide H1).inb _) _) (by exact in_alloc (in_alloc (unhide H1).inb _) _) (by rw [unhide HN]; exact hf) ⟨w.heap.size + 1, 0, none⟩ 1 (by simp [Act.eval, Act.put]) b.now a0 c0 (by simp [Addr.add]) (by simp [Addr.add, unhide HT0]) (by exact L8.alloc (L8.drew (L8.alloc (unhide H2) (unhide H1).inb _)) (in_alloc (unhide H1).inb _) _) ?_; intro ap' cp' w2 hpast hfr; have hR := turn_via (w := w) (unhide H1) (by intro k hk; exact (Below.heap_alloc _ _ _ (by simp; omega)).trans (Below.heap_alloc _ _ _ hk)) (by simp; omega) hfr; have k2' := hR.past; have fr' := hR.frozen; rw [unhide HN] at k2'; obtain ⟨g', off', rfl, hcp'⟩ := hpast.form (by simp))
    all_goals
      have HA := hide (show w2.heap[w.heap.size]? = some (.cells #[.slice a 8 c, .string t1] 97 (0, 0)) from (turn_arg (unhide H1).inb (Nat.le_refl _) (by simp; omega) hfr).trans ((Below.heap_alloc _ _ _ (by simp)).trans (heap_alloc_new w _)))
      have HL := hide (turn_list (unhide HP) (unhide H1).inb (by intro k hk; exact (Below.heap_alloc _ _ _ (by simp; omega)).trans (Below.heap_alloc _ _ _ hk)) (by simp; omega) hfr)
      have HR := hide hR
      have HPAST := hide hpast
      have HFR := hide hfr
      have m0 := hR.owed
      have m1 := hR.pol
      have a0' : w2.cell? ⟨w.heap.size, 0, none⟩ = some (.slice a 8 c) := by rw [cell_of_row w2 _ 0 _ _ _ (unhide HA)]; rfl
      have a1' : w2.cell? ⟨w.heap.size, 1, none⟩ = some (.string t1) := by rw [cell_of_row w2 _ 1 _ _ _ (unhide HA)]; rfl
      rw [unhide HT0] at m1
      have hD2 : D ≠ w.heap.size := by omega
      clear hR hpast hfr k0 k1 k2 fr
      have hc13 : 13 ≤ cp' := by
        have := hcp'
        rw [List.length_append, unhide HN] at this
        exact this
      have hc1 : ¬ cp' = 1 := by omega
      go_wp2_with fail
      go_end0
      obtain ⟨q, qs, hq⟩ : ∃ q qs, b.past = q :: qs := by
        cases hb : b.past with
        | nil => have := unhide HN; rw [hb] at this; simp at this
        | cons q qs => exact ⟨q, qs, rfl⟩
      have hql : qs.length = 11 := by have := unhide HN; rw [hq] at this; simpa using this
      have hT : b.turn p = ⟨p, qs ++ [b.now]⟩ := by simp [Bk.turn, unhide HN, hq, hql]
      rw [hT]
      have hp1 := unhide HPAST
      rw [hq] at hp1
      refine ⟨rfl, ?_, ?_⟩
      · exact turn_wide (turn_end ((unhide HR).setPast _ _ _) ((unhide HR).list (unhide HL) 2 _) ((unhide HR).pages (RPast.tail hp1) 2 _) (by simp [hql]) (unhide HT1)) (by simp; omega) (by simp only [size_set]; exact Nat.le_refl _)
      · have f1 : Fr S w w2 := ((((Fr.refl S w).alloc _).alloc _).drew).trans (unhide HFR) fun i hi => .inl hi.1
        exact (((f1.set (p := ⟨D, 2, none⟩) (.inl (unhide H1).sd) _).set (p := ⟨D, 2, none⟩) (.inl (unhide H1).sd) _).set (p := ⟨D, 0, none⟩) (.inl (unhide H1).sd) _).set (p := ⟨D, 1, none⟩) (.inl (unhide H1).sd) _
  · have hn12 : n < 12 := by omega
    go_enter Try.func56, Try.ntmps56
    go_wp2
    go_region_law (refine step_append_pages rfl (.tmp 8) (.tmp 13) rfl S ap n cp b.past (unhide HN) (by simp [Act.eval, Act.put]) (by exact RPast.alloc (RPast.drew (RPast.alloc (unhide H3) (unhide H1).inb _)) (in_alloc (unhide H1).inb _) _) (by exact in_alloc (in_alloc (unhide H1).inb _) _) (by rw [unhide HN]; exact hf) ⟨w.heap.size + 1, 0, none⟩ 1 (by simp [Act.eval, Act.put]) b.now a0 c0 (by simp [Addr.add]) (by simp [Addr.add, unhide HT0]) (by exact L8.alloc (L8.drew (L8.alloc (unhide H2) (unhide H1).inb _)) (in_alloc (unhide H1).inb _) _) ?_; intro ap' cp' w2 hpast hfr; have hR := turn_via (w := w) (unhide H1) (by intro k hk; exact (Below.heap_alloc _ _ _ (by simp; omega)).trans (Below.heap_alloc _ _ _ hk)) (by simp; omega) hfr; have k2' := hR.past; have fr' := hR.frozen; rw [unhide HN] at k2'; obtain ⟨g', off', rfl, hcp'⟩ := hpast.form (by simp))
    all_goals
      have HA := hide (show w2.heap[w.heap.size]? = some (.cells #[.slice a 8 c, .string t1] 97 (0, 0)) from (turn_arg (unhide H1).inb (Nat.le_refl _) (by simp; omega) hfr).trans ((Below.heap_alloc _ _ _ (by simp)).trans (heap_alloc_new w _)))
      have HL := hide (turn_list (unhide HP) (unhide H1).inb (by intro k hk; exact (Below.heap_alloc _ _ _ (by simp; omega)).trans (Below.heap_alloc _ _ _ hk)) (by simp; omega) hfr)
      have HR := hide hR
      have HPAST := hide hpast
      have HFR := hide hfr
      have m0 := hR.owed
      have m1 := hR.pol
      have a0' : w2.cell? ⟨w.heap.size, 0, none⟩ = some (.slice a 8 c) := by rw [cell_of_row w2 _ 0 _ _ _ (unhide HA)]; rfl
      have a1' : w2.cell? ⟨w.heap.size, 1, none⟩ = some (.string t1) := by rw [cell_of_row w2 _ 1 _ _ _ (unhide HA)]; rfl
      rw [unhide HT0] at m1
      have hD2 : D ≠ w.heap.size := by omega
      clear hR hpast hfr k0 k1 k2 fr
      go_wp2_with fail
      go_end0
      have hT : b.turn p = ⟨p, b.past ++ [b.now]⟩ := by simp [Bk.turn, unhide HN, h12]
      rw [hT]
      refine ⟨rfl, ?_, ?_⟩
      · exact turn_wide (turn_end (unhide HR) (unhide HL) (unhide HPAST) (by simp [unhide HN]) (unhide HT1)) (by simp; omega) (by simp only [size_set]; exact Nat.le_refl _)
      · have f1 : Fr S w w2 := ((((Fr.refl S w).alloc _).alloc _).drew).trans (unhide HFR) fun i hi => .inl hi.1
        exact ((f1.set (p := ⟨D, 2, none⟩) (.inl (unhide H1).sd) _).set (p := ⟨D, 0, none⟩) (.inl (unhide H1).sd) _).set (p := ⟨D, 1, none⟩) (.inl (unhide H1).sd) _

set_option maxHeartbeats 1000000 in
theorem rundo_any (D : Nat) (S : Nat → Prop) (b : Bk) (w : World) (h : RBk w D S b) (hfew : b.past.length ≤ 12) : Calls Try.prog 61 #[.pointer (some ⟨D, 0, none⟩)] w fun e w' => e = .returned (.int .i64 (undE b)) ∧ RBk w' D S (undB b) ∧ Fr S w w' := by
  obtain ⟨a0, c0, ap, cp, h1, h2, h3⟩ := h
  have k0 := h1.owed
  have k1 := h1.pol
  have k2 := h1.past
  have fr := h1.frozen
  by_cases hn : b.past = []
  · have e1 : undE b = 10 := by simp [undE, hn]
    have e2 : undB b = b := by simp [undB, hn]
    rw [e1, e2]
    have HR : Hid (RBk w D S b) := ⟨a0, c0, ap, cp, h1, h2, h3⟩
    rw [hn] at k2
    simp only [List.length_nil] at k2
    clear e1 e2 hn h1 h2 h3
    go_enter Try.func61, Try.ntmps61
    go_wp2
    go_ret
    exact ⟨rfl, unhide HR, Fr.refl _ _⟩
  · obtain ⟨m, hm⟩ : ∃ m, b.past.length = m + 1 := ⟨b.past.length - 1, by have := List.length_pos_iff.2 hn; omega⟩
    have hq : ∃ q, b.past[m]? = some q := ⟨_, List.getElem?_eq_getElem (by omega)⟩
    obtain ⟨q, hq⟩ := hq
    have e1 : undE b = 0 := by simp [undE, hn]
    have e2 : undB b = ⟨q, b.past.take m⟩ := by
      have : b.past.getLast? = some q := by rw [List.getLast?_eq_getElem?, hm]; exact hq
      simp only [undB, this, List.dropLast_eq_take, hm, Nat.add_sub_cancel]
    rw [e1, e2]
    obtain ⟨g, off, cur, rfl, hSg, hrow, hle, hsz, hps⟩ : ∃ g off cur, ap = some ⟨g, off, none⟩ ∧ S g ∧ w.heap[g]? = some (.cells cur 97 (0, 0)) ∧ b.past.length ≤ cp ∧ off + cp * 2 ≤ cur.size ∧
        ∀ k p, b.past[k]? = some p → ∃ a c, cur[off + k * 2]? = some (.slice a 8 c) ∧ cur[off + k * 2 + 1]? = some (.string p.pol) ∧ L8 w S a p.owed := by
      rcases h3.ex with ⟨_, _, e⟩ | h
      · exact absurd e hn
      · exact h
    obtain ⟨qa, qc, q1, q2, q3⟩ := hps m q hq
    have d0 : w.cell? ⟨g, off + m * 2, none⟩ = some (.slice qa 8 qc) := by rw [cell_of_row w g _ _ _ _ hrow]; exact q1
    have d1 : w.cell? ⟨g, off + m * 2 + 1, none⟩ = some (.string q.pol) := by rw [cell_of_row w g _ _ _ _ hrow]; exact q2
    have hDg : D ≠ g := by
      intro e
      subst e
      rw [h1.row] at hrow
      simp at hrow
    have hmc : m + 1 ≤ cp := by omega
    have hm12 : m < 12 := by omega
    clear hfew
    rw [hm] at k2
    have hne : ((m : Int) + 1 == 0) = false := by simp; omega
    obtain ⟨t, ht⟩ : ∃ t, q.pol = t := ⟨_, rfl⟩
    rw [ht] at d1
    have HT := hide ht
    have H1 := hide h1
    have H3 := hide h3
    have HQ := hide q3
    have HM := hide hm
    obtain ⟨t0, ht0⟩ : ∃ t, b.now.pol = t := ⟨_, rfl⟩
    rw [ht0] at k1
    clear e1 e2 hn h1 h2 h3 hm hq hrow hle hsz hps q1 q2 q3 hSg ht ht0
    go_enter Try.func61, Try.ntmps61
    go_wp2
    go_ret
    have ht : (b.past.take m).length = m := by simp [unhide HM]
    have r1 := (unhide H1).setOwed qa qc
    have r2 := r1.setPol t
    have r3 := r2.setPast (some ⟨g, off, none⟩) m cp
    refine ⟨rfl, ⟨qa, qc, some ⟨g, off, none⟩, cp, ?_, ?_, ?_⟩, ?_⟩
    · show RRow _ D S qa qc q.pol _ (b.past.take m).length cp
      rw [ht, unhide HT]
      exact r3
    · exact r2.list (r1.list ((unhide H1).list (unhide HQ) 0 _) 1 _) 2 _
    · exact (r2.pages (r1.pages ((unhide H1).pages (unhide H3) 0 _) 1 _) 2 _).less m
    · exact (((Fr.refl S w).set (p := ⟨D, 0, none⟩) (.inl (unhide H1).sd) _).set (p := ⟨D, 1, none⟩) (.inl (unhide H1).sd) _).set (p := ⟨D, 2, none⟩) (.inl (unhide H1).sd) _
end Go.Proofs.Ytmdjdpofpkgffab
