/- Then: the plain part. -/
import Derived.Test.YtbpolcnjojlkjaaPartLaw
namespace Go.Proofs.Ytbpolcnjojlkjaa
open Go.ChangeShapes Go.WideShapes Go.ChangeAt Go.RowKit
open Split (Pu Keeps payM byt byt_lt byt_ge headM doM numM digM bucM none8 scanF bodyM holdM backM)
set_option linter.unusedVariables false
set_option linter.unusedSimpArgs false

/-- A policy opens with no bucket. -/
theorem opens {t : ByteArray} (hc : checkE t = 0) : Split.buc (byt t 0) = false := by
  obtain ⟨h1, h2, h3⟩ := own_read hc
  by_cases h0 : 0 < t.size
  · by_cases h41 : byt t 0 = 41
    · rw [h41]; rfl
    · have ho := (step_places (Nat.zero_le _) h2 ⟨h0, h41⟩).2.2.2.2.1
      cases hb : Split.buc (byt t 0)
      · rfl
      · exfalso
        rw [Split.buc_t] at hb
        have : headM t 0 = (0, 0, false) := by
          unfold Split.headM
          rw [if_neg (by omega), if_neg (by omega), if_neg (by omega), if_neg (by omega)]
        rw [this] at ho
        simp at ho
  · rw [byt_ge h0]; rfl

theorem then_sem {s t : ByteArray} (hT : checkE (s ++ t) = 0) (hs : checkE s = 0) (ht : checkE t = 0) (p : Pu) : semF (s ++ t) 0 p = semF t 0 (semF s 0 p) := by
  obtain ⟨T1, T2, T3⟩ := own_read hT
  obtain ⟨s1, s2, s3⟩ := own_read hs
  obtain ⟨t1, t2, t3⟩ := own_read ht
  have hz : (s ++ t).size = s.size + t.size := ByteArray.size_append
  have hE : Emb (s ++ t) s 0 := by
    refine ⟨by omega, fun k hk => ?_, ?_⟩
    · rw [Nat.zero_add, byt_app, if_pos hk]
    · rw [Nat.zero_add, byt_app, if_neg (by omega), Nat.sub_self]
      exact opens ht
  have hF : Emb (s ++ t) t s.size := by
    refine ⟨by omega, fun k hk => ?_, ?_⟩
    · rw [byt_app, if_neg (by omega), show s.size + k - s.size = k by omega]
    · rw [byt_ge (by omega)]; rfl
  obtain ⟨i1, _, i3⟩ := emb_sem hE s.size 0 (by omega) (Nat.zero_le _) s2 T2
  rw [s3, Nat.zero_add] at i1
  obtain ⟨j1, _, j3⟩ := emb_sem hF t.size 0 (by omega) (Nat.zero_le _) t2 i1
  have e1 := i3 p
  have e2 := j3 (semF s 0 p)
  rw [s3] at e1
  rw [t3, semF_stop (i := s.size + t.size) (by omega)] at e2
  simp only [Nat.zero_add, Nat.add_zero] at e1 e2
  rw [e1, e2]

theorem bad_none {l : List Int} (h8 : l.length = 8) (h : ∀ i, 0 ≤ l.getD i 0 ∧ l.getD i 0 ≤ 1000000000) : ¬ badAt l < 8 := by
  have : badAt l = l.length := by
    unfold badAt
    rw [List.findIdx_eq_length]
    intro x hx
    obtain ⟨i, hi, rfl⟩ := List.getElem_of_mem hx
    have := h i
    rw [List.getD_eq_getElem?_getD, List.getElem?_eq_getElem hi] at this
    simp only [Bool.not_eq_eq_eq_not, Bool.not_false]
    exact amt_t.2 this
  omega

/-- What is left behind a policy may be owed, and paid. -/
theorem given_left {s : ByteArray} {zs : List Int} {m : Int} (hs : checkE s = 0) (hg : givenE zs m = 0) : givenE (shrM s zs m).owed (shrM s zs m).hand = 0 := by
  obtain ⟨hk, _⟩ := shr_keeps hs hg
  have h1 := hk.paid_le 0
  have h2 := hk.pa 0
  have h3 := hk.h0
  unfold givenE
  rw [if_pos hk.lo, if_neg (bad_none hk.lo fun i => ⟨hk.ow i, hk.owed_le i⟩), if_pos (amt_t.2 ⟨h3, by omega⟩)]

theorem then_pays {s t : ByteArray} {zs : List Int} {m : Int} (hT : checkE (s ++ t) = 0) (hs : checkE s = 0) (ht : checkE t = 0) (hg : givenE zs m = 0) :
    (shrM (s ++ t) zs m).hand = (shrM t (shrM s zs m).owed (shrM s zs m).hand).hand ∧
    ∀ i, i < 8 → (shrM (s ++ t) zs m).paid.getD i 0 = (shrM s zs m).paid.getD i 0 + (shrM t (shrM s zs m).owed (shrM s zs m).hand).paid.getD i 0 := by
  obtain ⟨hk, _⟩ := shr_keeps hs hg
  have ht2 := (own_read ht).2.1
  rw [shr_sem hT, then_sem hT hs ht, ← shr_sem hs, shr_sem ht]
  generalize shrM s zs m = q at hk ⊢
  have hpe : Peer q.paid q (pu0 q.owed q.hand) := by
    refine ⟨rfl, rfl, hk.lp, by simp [pu0], fun i hi => ?_⟩
    have : (pu0 q.owed q.hand).paid.getD i 0 = 0 := by
      show (List.replicate 8 (0 : Int)).getD i 0 = 0
      rw [List.getD_eq_getElem?_getD, List.getElem?_replicate, if_pos hi]
      rfl
    omega
  have hL := sem_like (t.size + 1) 0 _ _ (Nat.zero_le _) ht2 hpe
  refine ⟨hL.hand, fun i hi => ?_⟩
  have := hL.paid i hi
  unfold semF
  omega
end Go.Proofs.Ytbpolcnjojlkjaa
