/- Embeds: Embed, Peer -/
import Derived.Test.YtmdjdpofpkgffaaSems

/- Plain: a policy that stands within another text. -/
namespace Go.Proofs.Ytmdjdpofpkgffaa
open Split
set_option linter.unusedVariables false
set_option linter.unusedSimpArgs false

/-- s stands in T at place o, and no bucket behind it. -/
structure Emb (T s : ByteArray) (o : Nat) : Prop where
  sz : o + s.size ≤ T.size
  eq : ∀ k, k < s.size → byt T (o + k) = byt s k
  nb : buc (byt T (o + s.size)) = false

variable {T s : ByteArray} {o : Nat}

theorem dig_emb (h : Emb T s o) : ∀ n i, digM s i n = i + n → digM T (o + i) n = o + i + n ∧ (n = 0 ∨ i + n ≤ s.size)
  | 0, i, hd => ⟨rfl, .inl rfl⟩
  | n + 1, i, hd => by
    have hx : dig (byt s i) = true := by
      cases hx : dig (byt s i)
      · simp [digM, hx] at hd
      · rfl
    have hlt : i < s.size := lt_of_byt (by rw [dig_t] at hx; omega)
    have he := h.eq i hlt
    simp only [digM, hx, if_true] at hd
    obtain ⟨h1, h2⟩ := dig_emb h n (i + 1) (by omega)
    simp only [digM, he, hx, if_true]
    rw [show o + i + 1 = o + (i + 1) by omega, h1]
    exact ⟨by omega, by omega⟩

theorem num_emb (h : Emb T s o) (i : Nat) : ∀ n, i + n ≤ s.size → numM T (o + i) n = numM s i n
  | 0, hn => rfl
  | n + 1, hn => by
    simp only [numM]
    rw [num_emb h i n (by omega), show o + i + n = o + (i + n) by omega, h.eq (i + n) (by omega)]

theorem rise_emb (h : Emb T s o) : ∀ f j, 1 ≤ j → j ≤ s.size → riseM T f (o + j) = o + riseM s f j
  | 0, j, h1, h2 => rfl
  | f + 1, j, h1, h2 => by
    by_cases hj : j < s.size
    · have e1 := h.eq j hj
      have e2 := h.eq (j - 1) (by omega)
      have er : riseB T (o + j) = riseB s j := by
        unfold riseB
        rw [e1, show o + j - 1 = o + (j - 1) by omega, e2]
      unfold riseM
      rw [er]
      split
      · rw [show o + j + 1 = o + (j + 1) by omega]
        exact rise_emb h f (j + 1) (by omega) (by omega)
      · rfl
    · have hj' : j = s.size := by omega
      subst hj'
      have e1 : riseB T (o + s.size) = false := by unfold riseB; rw [h.nb]; rfl
      have e2 : riseB s s.size = false := by
        unfold riseB
        rw [byt_ge (by omega)]
        rfl
      simp [riseM, e1, e2]

theorem ris_emb (h : Emb T s o) (i : Nat) (hi : i < s.size) : risM T (o + i) = o + risM s i := by
  unfold risM
  rw [h.eq i hi]
  split
  · rw [show o + i + 1 = o + (i + 1) by omega, rise_emb h T.size (i + 1) (by omega) (by omega)]
    have := h.sz
    rw [riseM_fuel s T.size s.size (i + 1) (by omega) (by omega)]
  · rfl

theorem among_emb (h : Emb T s o) (a b : Nat) (hb : b ≤ s.size) : amongM T (o + a) (o + b) = amongM s a b := by
  unfold amongM
  apply List.map_congr_left
  intro k hk
  rw [show o + b - (o + a) = b - a by omega]
  rw [Bool.eq_iff_iff, List.any_eq_true, List.any_eq_true]
  constructor
  · rintro ⟨q, hq, he⟩
    have hq' := List.mem_range.1 hq
    refine ⟨q, hq, ?_⟩
    rw [show o + a + q = o + (a + q) by omega, h.eq (a + q) (by omega)] at he
    exact he
  · rintro ⟨q, hq, he⟩
    have hq' := List.mem_range.1 hq
    refine ⟨q, hq, ?_⟩
    rw [show o + a + q = o + (a + q) by omega, h.eq (a + q) (by omega)]
    exact he

theorem head_emb (h : Emb T s o) (i : Nat) (hi : i < s.size) (ho : (headM s i).2.2 = true) :
    headM T (o + i) = (o + (headM s i).1, (headM s i).2.1, true) ∧ Split.stM T (o + i) = Split.stM s i := by
  have e0 := h.eq i hi
  have hz := h.sz
  have hbuc : bucM s (i + 1) = i + 2 → bucM T (o + i + 1) = o + i + 2 ∧ byt T (o + i + 1) = byt s (i + 1) := by
    intro hb
    have hx : buc (byt s (i + 1)) = true := by
      cases hx : buc (byt s (i + 1))
      · rw [bucM_f hx] at hb; omega
      · rfl
    have hlt : i + 1 < s.size := lt_of_byt (by rw [buc_t] at hx; omega)
    have e1 := h.eq (i + 1) hlt
    rw [show o + i + 1 = o + (i + 1) by omega]
    exact ⟨by rw [bucM_t (by rw [e1]; exact hx)]; omega, e1⟩
  by_cases h80 : byt s i = 80
  · have hh : headM s i = (bucM s (i + 1), 0, decide (bucM s (i + 1) = i + 2)) := by simp [headM, h80]
    have hb : bucM s (i + 1) = i + 2 := by rw [hh] at ho; simpa using ho
    obtain ⟨b1, b2⟩ := hbuc hb
    rw [hh, hb]
    constructor
    · simp [headM, e0, h80, b1]; omega
    · simp [Split.stM, e0, h80, b2]
  by_cases h67 : byt s i = 67 ∨ byt s i = 73
  · have hh : headM s i = if bucM s (i + 1) = i + 2 then (digM s (i + 2) 4, if byt s i = 73 then 2 else 0, decide (digM s (i + 2) 4 = i + 6)) else (bucM s (i + 1), 0, false) := by
      simp only [headM, if_neg h80, if_pos h67]
    by_cases hb : bucM s (i + 1) = i + 2
    · rw [if_pos hb] at hh
      have hd : digM s (i + 2) 4 = i + 6 := by rw [hh] at ho; simpa using ho
      obtain ⟨b1, b2⟩ := hbuc hb
      obtain ⟨d1, d2⟩ := dig_emb h 4 (i + 2) (by omega)
      have hn := num_emb h (i + 2) 4 (by omega)
      rw [show o + (i + 2) = o + i + 2 by omega] at d1 hn
      rw [hh, hd]
      constructor
      · simp only [headM, e0, if_neg h80, if_pos h67, b1, d1, if_true]
        simp; omega
      · simp only [Split.stM, e0, if_neg h80, if_pos h67, b2, hn]
    · rw [if_neg hb] at hh
      rw [hh] at ho
      exact absurd ho (by simp)
  by_cases h82 : byt s i = 82
  · have hh : headM s i = if byt s (i + 1) = 104 then (i + 1, 0, false) else (risM s (i + 1), 0, decide (i + 3 ≤ risM s (i + 1))) := by
      simp only [headM, if_neg h80, if_neg h67, if_pos h82]
    by_cases h104 : byt s (i + 1) = 104
    · rw [if_pos h104] at hh
      rw [hh] at ho
      exact absurd ho (by simp)
    · rw [if_neg h104] at hh
      have hj : i + 3 ≤ risM s (i + 1) := by rw [hh] at ho; simpa using ho
      have hjs := risM_size s (i + 1) (by omega)
      have e1 := h.eq (i + 1) (by omega)
      have er := ris_emb h (i + 1) (by omega)
      have ea := among_emb h (i + 1) (risM s (i + 1)) hjs
      rw [show o + (i + 1) = o + i + 1 by omega] at e1 er ea
      rw [hh]
      constructor
      · simp only [headM, e0, if_neg h80, if_neg h67, if_pos h82, e1, if_neg h104, er]
        simp; omega
      · simp only [Split.stM, e0, if_neg h80, if_neg h67, if_pos h82, er, ea]
  by_cases h72 : byt s i = 72
  · have hh : headM s i = if digM s (i + 1) 2 = i + 3 ∧ byt s (i + 1) = 48 ∧ byt s (i + 2) = 48 then (i + 2, 1, false) else (digM s (i + 1) 2, 1, decide (digM s (i + 1) 2 = i + 3)) := by
      simp only [headM, if_neg h80, if_neg h67, if_neg h82, if_pos h72]
    by_cases hz0 : digM s (i + 1) 2 = i + 3 ∧ byt s (i + 1) = 48 ∧ byt s (i + 2) = 48
    · rw [if_pos hz0] at hh
      rw [hh] at ho
      exact absurd ho (by simp)
    · rw [if_neg hz0] at hh
      have hd : digM s (i + 1) 2 = i + 3 := by rw [hh] at ho; simpa using ho
      obtain ⟨d1, d2⟩ := dig_emb h 2 (i + 1) (by omega)
      have hn := num_emb h (i + 1) 2 (by omega)
      have e1 := h.eq (i + 1) (by omega)
      have e2 := h.eq (i + 2) (by omega)
      rw [show o + (i + 1) = o + i + 1 by omega] at d1 hn e1
      rw [show o + (i + 2) = o + i + 2 by omega] at e2
      rw [hh, hd]
      have hz1 : ¬ (o + i + 1 + 2 = o + i + 3 ∧ byt s (i + 1) = 48 ∧ byt s (i + 2) = 48) := by
        intro hx
        exact hz0 ⟨hd, hx.2⟩
      constructor
      · have hT : headM T (o + i) = if digM T (o + i + 1) 2 = o + i + 3 ∧ byt T (o + i + 1) = 48 ∧ byt T (o + i + 2) = 48 then (o + i + 2, 1, false) else (digM T (o + i + 1) 2, 1, decide (digM T (o + i + 1) 2 = o + i + 3)) := by
          simp only [headM, e0, if_neg h80, if_neg h67, if_neg h82, if_pos h72]
        rw [hT, d1, e1, e2, if_neg hz1]
        have q : o + i + 1 + 2 = o + i + 3 := by omega
        rw [q]
        simp
        omega
      · simp only [Split.stM, e0, if_neg h80, if_neg h67, if_neg h82, hn]
  · have : headM s i = (i, 0, false) := by simp only [headM, if_neg h80, if_neg h67, if_neg h82, if_neg h72]
    rw [this] at ho
    exact absurd ho (by simp)

/-- Where a reading ends, it stops. -/
theorem end_stop (t : ByteArray) : ∀ (m i : Nat), t.size - i ≤ m → i ≤ t.size → okJ t i = true → ¬ (endJ t i < t.size ∧ byt t (endJ t i) ≠ 41) ∧ i ≤ endJ t i ∧ endJ t i ≤ t.size := by
  intro m
  induction m with
  | zero =>
    intro i hm hi hok
    rcases scan_cases hi hok with ⟨h1, h2, h3⟩ | ⟨h1, _⟩ | ⟨h1, _⟩ | ⟨h1, _⟩
    · rw [h3]; exact ⟨h1, Nat.le_refl _, hi⟩
    · omega
    · omega
    · omega
  | succ m ih =>
    intro i hm hi hok
    by_cases hc : i < t.size ∧ byt t i ≠ 41
    · obtain ⟨h1, h2, h3, h4, _⟩ := step_places hi hok hc
      obtain ⟨a, b, c⟩ := ih (nxM t i) (by omega) h2 h3
      rw [h4]
      exact ⟨a, by omega, c⟩
    · rcases scan_cases hi hok with ⟨h1, h2, h3⟩ | ⟨h1, _⟩ | ⟨h1, _⟩ | ⟨h1, _⟩
      · rw [h3]; exact ⟨h1, Nat.le_refl _, hi⟩
      · exact absurd h1 hc
      · exact absurd h1 hc
      · exact absurd h1 hc
theorem end_self {t : ByteArray} {i : Nat} (hi : i ≤ t.size) (hok : okJ t i = true) (hc : ¬ (i < t.size ∧ byt t i ≠ 41)) : endJ t i = i := by
  rcases scan_cases hi hok with ⟨h1, h2, h3⟩ | ⟨h1, _⟩ | ⟨h1, _⟩ | ⟨h1, _⟩
  · exact h3
  · exact absurd h1 hc
  · exact absurd h1 hc
  · exact absurd h1 hc

/-- A reading of s is a reading of T, up to where it ends. -/
theorem emb_sem (h : Emb T s o) : ∀ (m i : Nat), s.size - i ≤ m → i ≤ s.size → okJ s i = true → okJ T (o + i) = true →
    okJ T (o + endJ s i) = true ∧ endJ T (o + i) = endJ T (o + endJ s i) ∧ ∀ p, semF T (o + i) p = semF T (o + endJ s i) (semF s i p) := by
  intro m
  induction m with
  | zero =>
    intro i hm hi hok hokT
    have hc : ¬ (i < s.size ∧ byt s i ≠ 41) := by omega
    rw [end_self hi hok hc]
    exact ⟨hokT, rfl, fun p => by rw [semF_stop (t := s) hc]⟩
  | succ m ih =>
    intro i hm hi hok hokT
    by_cases hc : i < s.size ∧ byt s i ≠ 41
    · have hz := h.sz
      obtain ⟨h1, h2, h3, h4, ho, hl, hr, hcase⟩ := step_places hi hok hc
      have hcT : o + i < T.size ∧ byt T (o + i) ≠ 41 := ⟨by omega, by rw [h.eq i hc.1]; exact hc.2⟩
      obtain ⟨t1, t2, t3, t4, _, _, _, tcase⟩ := step_places (by omega) hokT hcT
      obtain ⟨hh, hst⟩ := head_emb h i hc.1 ho
      -- a block of s, read in T
      have blk : ∀ j, i < j → BlkAt s j → BlkAt T (o + j) → endJ T (o + j + 1) = o + endJ s (j + 1) ∧ ∀ p, semF T (o + j + 1) p = semF s (j + 1) p := by
        intro j hj hB hBT
        have q1 := hB.jlt
        have q2 := hB.elt
        have hokj : okJ T (o + (j + 1)) = true := hBT.ok
        obtain ⟨i1, i2, i3⟩ := ih (j + 1) (by omega) (by omega) hB.ok hokj
        have hs := (end_stop s s.size (j + 1) (by omega) (by omega) hB.ok).1
        have hsT : ¬ (o + endJ s (j + 1) < T.size ∧ byt T (o + endJ s (j + 1)) ≠ 41) := by
          rintro ⟨_, hx⟩
          rw [h.eq _ q2] at hx
          exact hs ⟨q2, hx⟩
        rw [show o + j + 1 = o + (j + 1) by omega]
        refine ⟨?_, fun p => ?_⟩
        · rw [i2, end_self (by omega) i1 hsT]
        · rw [i3 p, semF_stop hsT]
      have hnx : nxM T (o + i) = o + nxM s i ∧ ∀ p, stpM T (semF T) (o + i) p = stpM s (semF s) i p := by
        unfold nxM stpM
        rw [hh, hst]
        dsimp only
        rcases hcase with hn | ⟨hn, hB⟩ | ⟨hn, hB, hB2⟩
        · simp [hn]
        · rcases tcase with tn | ⟨tn, tB⟩ | ⟨tn, tB, tB2⟩
          · rw [hh] at tn; dsimp only at tn; omega
          · rw [hh] at tB
            obtain ⟨e1, e2⟩ := blk (headM s i).1 (by omega) hB tB
            have n0 : (headM s i).2.1 ≠ 0 := by omega
            simp only [if_neg n0, if_pos hn, e1, e2]
            exact ⟨by omega, fun p => trivial⟩
          · rw [hh] at tn; dsimp only at tn; omega
        · rcases tcase with tn | ⟨tn, tB⟩ | ⟨tn, tB, tB2⟩
          · rw [hh] at tn; dsimp only at tn; omega
          · rw [hh] at tn; dsimp only at tn; omega
          · rw [hh] at tB tB2
            dsimp only at tB tB2
            obtain ⟨e1, e2⟩ := blk (headM s i).1 (by omega) hB tB
            have q3 := hB.ege
            rw [e1] at tB2
            rw [show o + endJ s ((headM s i).1 + 1) + 1 = o + (endJ s ((headM s i).1 + 1) + 1) by omega] at tB2
            obtain ⟨f1, f2⟩ := blk (endJ s ((headM s i).1 + 1) + 1) (by omega) hB2 tB2
            have n0 : (headM s i).2.1 ≠ 0 := by omega
            have n1 : (headM s i).2.1 ≠ 1 := by omega
            simp only [if_neg n0, if_neg n1, e1, e2]
            rw [show o + endJ s ((headM s i).1 + 1) + 1 + 1 = o + (endJ s ((headM s i).1 + 1) + 1) + 1 by omega, f1]
            exact ⟨by omega, fun p => by rw [f2 p]⟩
      obtain ⟨hn1, hn2⟩ := hnx
      rw [hn1] at t3 t4
      obtain ⟨i1, i2, i3⟩ := ih (nxM s i) (by omega) h2 h3 t3
      rw [h4]
      refine ⟨i1, by rw [t4, i2], fun p => ?_⟩
      rw [semF_step (by omega) hokT hcT, hn1, hn2 p, i3, semF_step hi hok hc]
    · rw [end_self hi hok hc]
      exact ⟨hokT, rfl, fun p => by rw [semF_stop (t := s) hc]⟩
end Go.Proofs.Ytmdjdpofpkgffaa

/- Plain: what a policy pays does not ask what is paid already, nor what is held. -/
namespace Go.Proofs.Ytmdjdpofpkgffaa
open Split
set_option linter.unusedVariables false
set_option linter.unusedSimpArgs false

/-- The same money and the same owed; paid apart by d. -/
structure Peer (d : List Int) (p q : Pu) : Prop where
  hand : p.hand = q.hand
  owed : p.owed = q.owed
  lp : p.paid.length = 8
  lq : q.paid.length = 8
  paid : ∀ i, i < 8 → p.paid.getD i 0 = q.paid.getD i 0 + d.getD i 0

theorem getD_set' (l : List Int) (i j : Nat) (x : Int) (hj : j < l.length) : (l.set i x).getD j 0 = if i = j then x else l.getD j 0 := by
  rw [List.getD_eq_getElem?_getD, List.getElem?_set]
  by_cases h : i = j
  · subst h; simp [hj]
  · simp [h, List.getD_eq_getElem?_getD]

variable {d : List Int} {p q : Pu}
theorem Peer.pay (h : Peer d p q) (i : Nat) (most : Int) : Peer d (payM p i most) (payM q i most) := by
  have es : paySum p i most = paySum q i most := by unfold paySum; rw [h.hand, h.owed]
  refine ⟨by simp only [payM]; rw [es, h.hand], by simp only [payM]; rw [es, h.owed], by simp [payM, h.lp], by simp [payM, h.lq], fun j hj => ?_⟩
  simp only [payM]
  rw [getD_set' _ _ _ _ (by rw [h.lp]; exact hj), getD_set' _ _ _ _ (by rw [h.lq]; exact hj), es]
  have hpj := h.paid j hj
  by_cases hij : i = j
  · subst hij
    rw [if_pos rfl, if_pos rfl]
    omega
  · rw [if_neg hij, if_neg hij]
    exact hpj
theorem Peer.am (h : Peer d p q) (am : List Bool) : ∀ i, amTo p am i = amTo q am i
  | 0 => rfl
  | i + 1 => by unfold amTo; rw [h.am am i, h.owed]
theorem Peer.propTo (h : Peer d p q) (am : List Bool) (m t : Int) : ∀ i, Peer d (Split.propTo p am m t i).p (Split.propTo q am m t i).p ∧ (Split.propTo p am m t i).f = (Split.propTo q am m t i).f
  | 0 => ⟨h, rfl⟩
  | i + 1 => by
    obtain ⟨h1, h2⟩ := h.propTo am m t i
    simp only [Split.propTo]
    split
    · split
      · exact ⟨h1.pay i _, h2⟩
      · rw [h1.owed, h2]
        exact ⟨h1.pay i _, rfl⟩
    · exact ⟨h1, h2⟩
theorem Peer.left : ∀ (k : Nat) (p q : Pu) (f : List Int), Peer d p q → Peer d (leftM k p f) (leftM k q f)
  | 0, p, q, f, h => h
  | k + 1, p, q, f, h => by
    simp only [leftM]
    rw [h.hand]
    split
    · exact Peer.left k _ _ _ (h.pay _ _)
    · exact h
theorem Peer.prop (h : Peer d p q) (am : List Bool) : Peer d (propM p am) (propM q am) := by
  unfold propM
  rw [h.am am 8, h.hand]
  obtain ⟨h1, h2⟩ := h.propTo am q.hand (amTo q am 8) 8
  split
  · rw [h2]
    exact Peer.left 8 _ _ _ h1
  · exact h1

theorem kind0 {t : ByteArray} {i : Nat} (hn : (headM t i).2.1 = 0) (ho : (headM t i).2.2 = true) : (Split.stM t i).kind = 80 ∨ (Split.stM t i).kind = 67 ∨ (Split.stM t i).kind = 82 := by
  by_cases h80 : byt t i = 80
  · left; simp [Split.stM, h80]
  by_cases h67 : byt t i = 67 ∨ byt t i = 73
  · rcases h67 with h | h
    · right; left; simp [Split.stM, h]
    · exfalso
      have hh : headM t i = if bucM t (i + 1) = i + 2 then (digM t (i + 2) 4, 2, decide (digM t (i + 2) 4 = i + 6)) else (bucM t (i + 1), 0, false) := by
        simp [headM, h]
      rw [hh] at hn ho
      split at hn
      · simp at hn
      · rename_i hx; rw [if_neg hx] at ho; simp at ho
  by_cases h82 : byt t i = 82
  · right; right; simp [Split.stM, h82]
  exfalso
  by_cases h72 : byt t i = 72
  · have hh : headM t i = if digM t (i + 1) 2 = i + 3 ∧ byt t (i + 1) = 48 ∧ byt t (i + 2) = 48 then (i + 2, 1, false) else (digM t (i + 1) 2, 1, decide (digM t (i + 1) 2 = i + 3)) := by
      simp only [headM, if_neg h80, if_neg h67, if_neg h82, if_pos h72]
    rw [hh] at hn
    split at hn <;> simp at hn
  · have : headM t i = (i, 0, false) := by simp only [headM, if_neg h80, if_neg h67, if_neg h82, if_neg h72]
    rw [this] at ho
    simp at ho

theorem back_of {P : Pu} {l : List Int} {x : Int} (h : P.held = l ++ [x]) : backM P = ⟨P.hand + x, l, P.owed, P.paid⟩ := by simp [backM, h]

theorem sem_like {t : ByteArray} : ∀ (f i : Nat) (p q : Pu), i ≤ t.size → okJ t i = true → Peer d p q → Peer d (semM t f i p) (semM t f i q)
  | 0, i, p, q, hi, hok, h => h
  | f + 1, i, p, q, hi, hok, h => by
    rw [sem_eq, sem_eq]
    by_cases hc : i < t.size ∧ byt t i ≠ 41
    · rw [if_pos hc, if_pos hc]
      obtain ⟨h1, h2, h3, h4, ho, hl, hr, hcase⟩ := step_places hi hok hc
      refine sem_like f _ _ _ h2 h3 ?_
      unfold stpM
      rcases hcase with hn | ⟨hn, hB⟩ | ⟨hn, hB, hB2⟩
      · rw [if_pos hn, if_pos hn]
        rcases kind0 hn ho with hk | hk | hk
        · simp only [doM, hk, if_true]; exact h.pay _ _
        · simp only [doM, hk]; exact h.pay _ _
        · simp only [doM, hk]; exact h.prop _
      · have q1 := hB.jlt
        have n0 : (headM t i).2.1 ≠ 0 := by omega
        rw [if_neg n0, if_neg n0, if_pos hn, if_pos hn]
        have hh : Peer d (holdM p (Split.stM t i).amount) (holdM q (Split.stM t i).amount) := by
          refine ⟨?_, h.owed, h.lp, h.lq, h.paid⟩
          simp only [holdM]
          rw [h.hand]
        have hL := sem_like f _ _ _ (by omega : (headM t i).1 + 1 ≤ t.size) hB.ok hh
        have e1 : (semM t f ((headM t i).1 + 1) (holdM p (Split.stM t i).amount)).held = p.held ++ [p.hand - p.hand * (Split.stM t i).amount / 100] := sem_held t f _ _ (by omega) hB.ok
        have e2 : (semM t f ((headM t i).1 + 1) (holdM q (Split.stM t i).amount)).held = q.held ++ [q.hand - q.hand * (Split.stM t i).amount / 100] := sem_held t f _ _ (by omega) hB.ok
        rw [back_of e1, back_of e2]
        refine ⟨?_, hL.owed, hL.lp, hL.lq, hL.paid⟩
        show _ + _ = _ + _
        rw [hL.hand, h.hand]
      · have q1 := hB.jlt
        have q2 := hB2.jlt
        have n0 : (headM t i).2.1 ≠ 0 := by omega
        have n1 : (headM t i).2.1 ≠ 1 := by omega
        rw [if_neg n0, if_neg n0, if_neg n1, if_neg n1, h.owed]
        split
        · exact sem_like f _ _ _ (by omega) hB2.ok h
        · exact sem_like f _ _ _ (by omega) hB.ok h
    · rw [if_neg hc, if_neg hc]; exact h
end Go.Proofs.Ytmdjdpofpkgffaa
