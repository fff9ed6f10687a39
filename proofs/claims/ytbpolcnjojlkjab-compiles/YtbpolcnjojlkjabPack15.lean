/- RefVerify, RefScan -/
import Derived.Test.YtbpolcnjojlkjabPack14
import Derived.Test.YtbpolcnjojlkjabPack7
import Derived.Test.YtbpolcnjojlkjabPack2

/- splitref's Verify, of code that is admitted. -/
namespace Go.Proofs.Ytbpolcnjojlkjab
open Go.ChangeShapes Go.WideShapes Go.ChangeAt Go.RowKit
set_option linter.unusedVariables false
set_option linter.unusedSimpArgs false

set_option maxRecDepth 100000 in
set_option maxHeartbeats 4000000 in
theorem rverify_adm (c : ByteArray) (n : Nat) (w : World) (hA : Adm c n) : Calls Try.prog 8 #[.string c] w fun e w' => e = .returned (.tuple #[.int .i64 0, .int .i64 0]) ∧ Below w.heap.size w w' := by
  have hn := hA.n120
  have hs := hA.size
  have hdiv : (c.size : Int).tdiv 5 = n := by
    rw [Int.tdiv_eq_ediv_of_nonneg (by omega)]
    omega
  have hmul : (c.size : Int) = (n : Int) * 5 := by omega
  have HA := hide hA
  have HS := hide hs
  have hc600 : c.size ≤ 600 := by omega
  have hne : ((c.size : Int) != (n : Int) * 5) = false := by simp; omega
  have HMUL := hide hmul
  clear hA hs hmul
  go_enter Try.func8, Try.ntmps8
  go_wp2_with fail
  go_loopw [5, 6, 7] (fun ii _ _ wr => ∃ i : Nat, i ≤ n ∧ ii = .int .i64 i ∧ Hid (Below w.heap.size w wr)) (fun ii _ _ _ => n - (intOf ii).toNat)
  case atStart => exact ⟨0, by omega, rfl, Below.refl _ _⟩
  case round =>
    obtain ⟨i, hin, rfl, hb⟩ := hrel
    by_cases hlt : i < n
    · have hsz : i * 5 + 5 ≤ c.size := by have := unhide HS; omega
      have hat := fun w' => at_any c i w' hc600 hsz
      have hok := (unhide HA).ok i hlt
      unfold decOk at hok
      rw [decide_eq_true hsz, Bool.true_and] at hok
      have hkn := fun w' => known_any (kOf c i) (aOf c i) (bOf c i) (nOf c i) ((n : Int) - 1 - i) w'
      rw [hok] at hkn
      generalize kOf c i = k at *
      generalize aOf c i = a at *
      generalize bOf c i = b at *
      generalize nOf c i = m at *
      have HAT := hide hat
      have HKN := hide hkn
      clear hat hkn hok
      go_wp2_with fail
      refine (unhide HAT _).mono ?_
      rintro e w2 ⟨rfl, hb2⟩
      have B2 := hide (below_step (unhide hb) hb2)
      clear hb2
      go_wp2_with fail
      refine (unhide HKN _).mono ?_
      rintro e w3 ⟨rfl, hb3⟩
      have B3 := hide (below_step (below_step (unhide B2) ((Below.refl _ _).alloc (Nat.le_refl _) _)) hb3)
      clear hb3 B2
      go_wp2_with fail
      go_roundw
      case rel => exact ⟨i + 1, by omega, by go_num, B3⟩
      case measure => simp [intOf]; omega
    · have hien : i = n := by omega
      subst hien
      go_wp2_with fail
      refine (held_adm c i _ (unhide HA)).mono ?_
      rintro e w2 ⟨rfl, hb2⟩
      have B2 := hide (below_step (unhide hb) hb2)
      clear hb2
      go_wp2_with fail
      go_ret2
      exact ⟨rfl, unhide B2⟩
end Go.Proofs.Ytbpolcnjojlkjab

/- splitref's scan and Check, by their contracts. -/
namespace Go.Proofs.Ytbpolcnjojlkjab
open Go.ChangeShapes Go.WideShapes Go.ChangeAt Go.RowKit
open Split (byt dig buc digM bucM riseB riseM risM headM byt_lt byt_ge dig_t dig_f buc_t buc_f scanF blkM bodyM Rd)
set_option linter.unusedVariables false
set_option linter.unusedSimpArgs false

def ScanPost (t : ByteArray) (i dep : Nat) (w : World) (e : Ending) (w' : World) : Prop :=
  e = .returned (.tuple #[.int .i64 ((scanF t i dep (-1)).j : Nat), .int .i64 (scanF t i dep (-1)).deep, .bool (scanF t i dep (-1)).ok]) ∧ ∃ n, w' = w.drewN n

/-- Two readings that come to one answer. -/
def Like (a b : Rd) : Prop := a.j = b.j ∧ a.deep = b.deep ∧ a.ok = b.ok

theorem scan_stop (t : ByteArray) (i dep : Nat) (deep : Int) (hi : i ≤ t.size) (h : ¬ (i < t.size ∧ byt t i ≠ 41)) : scanF t i dep deep = ⟨i, deep, true, []⟩ := by
  rw [Split.scan_eq t i dep deep hi, bodyM, if_neg h]

/-- What is left of a step with so many blocks to come. -/
def restM (t : ByteArray) (dep : Nat) : Nat → Nat → Int → Rd
  | 0, j, deep => scanF t j dep deep
  | m + 1, j, deep => if (blkM t (scanF t) j dep deep).ok = true then restM t dep m (blkM t (scanF t) j dep deep).j (blkM t (scanF t) j dep deep).deep else ⟨(blkM t (scanF t) j dep deep).j, (blkM t (scanF t) j dep deep).deep, false, []⟩

theorem Like.refl (a : Rd) : Like a a := ⟨rfl, rfl, rfl⟩
theorem Like.trans {a b c : Rd} (h : Like a b) (k : Like b c) : Like a c := ⟨h.1.trans k.1, h.2.1.trans k.2.1, h.2.2.trans k.2.2⟩

theorem head_two (t : ByteArray) (i : Nat) : (headM t i).2.1 ≤ 2 := by
  unfold headM
  split
  · simp
  split
  · split
    · dsimp only; split <;> omega
    · simp
  split
  · split <;> simp
  split
  · split <;> simp
  · simp

theorem body_like (t : ByteArray) (k dep : Nat) (d : Int) (j n : Nat) (hk : k < t.size) (h41 : byt t k ≠ 41) (hh : headM t k = (j, n, true)) : Like (bodyM t (scanF t) k dep d) (restM t dep n j d) := by
  have h2 := head_two t k
  rw [hh] at h2
  dsimp only at h2
  unfold bodyM
  rw [if_pos ⟨hk, h41⟩, hh]
  dsimp only
  rw [if_pos rfl]
  match n, h2 with
  | 0, _ => exact ⟨rfl, rfl, rfl⟩
  | 1, _ =>
    simp only [restM]
    rw [if_neg (by omega)]
    split
    · exact ⟨rfl, rfl, rfl⟩
    · exact ⟨rfl, rfl, rfl⟩
  | 2, _ =>
    simp only [restM]
    rw [if_neg (by omega)]
    split
    · rw [if_neg (by omega)]
      split
      · exact ⟨rfl, rfl, rfl⟩
      · exact ⟨rfl, rfl, rfl⟩
    · exact ⟨rfl, rfl, rfl⟩

theorem rest_shut (t : ByteArray) (dep m j : Nat) (d : Int) (h : byt t j ≠ 40) : Like (restM t dep (m + 1) j d) ⟨j, d, false, []⟩ := by
  simp only [restM, blkM, if_neg h]
  exact ⟨rfl, rfl, rfl⟩

theorem rest_open (t : ByteArray) (dep m j : Nat) (d D : Int) (h : byt t j = 40) (r : Rd) (hr : scanF t (j + 1) (dep + 1) (-1) = r) (hD : (if (if d < 0 ∧ 5 ≤ dep then (j : Int) else d) < 0 then r.deep else (if d < 0 ∧ 5 ≤ dep then (j : Int) else d)) = D) :
    (r.ok = true ∧ r.j < t.size → Like (restM t dep (m + 1) j d) (restM t dep m (r.j + 1) D)) ∧ (¬ (r.ok = true ∧ r.j < t.size) → Like (restM t dep (m + 1) j d) ⟨r.j, D, false, []⟩) := by
  simp only [restM, blkM, if_pos h, hr, hD]
  constructor
  · intro hc
    rw [if_pos hc]
    exact Like.refl _
  · intro hc
    rw [if_neg hc]
    exact Like.refl _

theorem deepA {d x : Int} {dep j : Nat} (c1 : d < 0) (c2 : 5 ≤ dep) : (if (if d < 0 ∧ 5 ≤ dep then (j : Int) else d) < 0 then x else (if d < 0 ∧ 5 ≤ dep then (j : Int) else d)) = j := by
  have h : d < 0 ∧ 5 ≤ dep := And.intro c1 c2
  simp only [h, and_self, if_true]
  rw [if_neg (by omega)]
theorem deepB {d x : Int} {dep j : Nat} (c1 : d < 0) (c2 : dep < 5) : (if (if d < 0 ∧ 5 ≤ dep then (j : Int) else d) < 0 then x else (if d < 0 ∧ 5 ≤ dep then (j : Int) else d)) = x := by
  have h : ¬ (d < 0 ∧ 5 ≤ dep) := by omega
  simp only [h, if_false]
  rw [if_pos c1]
theorem deepC {d x : Int} {dep j : Nat} (c1 : 0 ≤ d) : (if (if d < 0 ∧ 5 ≤ dep then (j : Int) else d) < 0 then x else (if d < 0 ∧ 5 ≤ dep then (j : Int) else d)) = d := by
  have h : ¬ (d < 0 ∧ 5 ≤ dep) := by omega
  simp only [h, if_false]
  rw [if_neg (by omega)]

set_option maxRecDepth 100000 in
set_option maxHeartbeats 4000000 in
theorem scan_step (t : ByteArray) (i dep : Nat) (w : World) (hs : t.size ≤ 120) (hi : i ≤ t.size) (hd : dep + (t.size - i) ≤ 1000)
    (ih : ∀ i' dep' w', i < i' → i' ≤ t.size → dep' + (t.size - i') ≤ 1000 → Calls Try.prog 19 #[.string t, .int .i64 (i' : Nat), .int .i64 (dep' : Nat)] w' (ScanPost t i' dep' w')) :
    Calls Try.prog 19 #[.string t, .int .i64 i, .int .i64 dep] w (ScanPost t i dep w) := by
  have IH := hide ih
  clear ih
  go_enter Try.func19, Try.ntmps19
  go_wp2_with fail
  go_loopw [1, 9] (fun ii dd wr => ∃ (k : Nat) (d : Int), i ≤ k ∧ k ≤ t.size ∧ ii = .int .i64 k ∧ dd = .int .i64 d ∧ Hid (Like (scanF t i dep (-1)) (scanF t k dep d)) ∧ Hid (∃ n, wr = w.drewN n)) (fun ii _ _ => t.size - (intOf ii).toNat)
  case atStart => exact ⟨i, -1, Nat.le_refl _, hi, rfl, rfl, ⟨rfl, rfl, rfl⟩, ⟨0, rfl⟩⟩
  case round =>
    obtain ⟨k, d, hik, hk, rfl, rfl, hl, hw⟩ := hrel
    by_cases hsz : k < t.size
    · by_cases h41 : byt t k = 41
      · have HS := hide (scan_stop t k dep d hk (by simp [h41]))
        rw [byt_lt hsz] at h41
        have hne : ((t[k].toNat : Int) != 41) = false := by simp [h41]
        clear h41
        go_wp2_with fail
        go_ret3
        have hl := unhide hl
        rw [unhide HS] at hl
        unfold ScanPost
        obtain ⟨e1, e2, e3⟩ := hl
        rw [e1, e2, e3]
        exact ⟨rfl, unhide hw⟩
      · have hb := Split.scan_eq t k dep d hk
        rw [bodyM, if_pos ⟨hsz, h41⟩] at hb
        have HB := hide hb
        clear hb
        rw [byt_lt hsz] at h41
        have hne : ((t[k].toNat : Int) != 41) = true := by rw [bne_iff_ne]; exact h41
        clear h41
        have hr := Split.head_rng hsz
        have hlt := @Split.head_lt t k hsz
        go_wp2_with fail
        refine (head_any t k _ hs hsz).mono ?_
        rintro e w1 ⟨rfl, hw1⟩
        have hw : Hid (∃ n, w1 = w.drewN n) := by
          obtain ⟨n, rfl⟩ := unhide hw
          obtain ⟨m, rfl⟩ := hw1
          exact ⟨_, World.drewN_drewN _ _ _⟩
        clear hw1
        obtain ⟨j, n, ok, hh⟩ : ∃ j n ok, headM t k = (j, n, ok) := ⟨_, _, _, rfl⟩
        rw [hh] at hr hlt
        have HH := hide hh
        rw [hh]
        clear hh
        dsimp only at hr hlt
        dsimp only
        cases ok
        · clear hlt
          go_wp2_with fail
          go_ret3
          have h1 := unhide HB
          rw [unhide HH] at h1
          simp at h1
          have hl := unhide hl
          rw [h1] at hl
          unfold ScanPost
          obtain ⟨e1, e2, e3⟩ := hl
          rw [e1, e2, e3]
          exact ⟨rfl, unhide hw⟩
        · have hlt := hlt rfl
          have hl : Hid (Like (scanF t i dep (-1)) (restM t dep n j d)) := by
            refine (unhide hl).trans ?_
            rw [Split.scan_eq t k dep d hk]
            exact body_like t k dep d j n hsz (by rw [byt_lt hsz]; rw [bne_iff_ne] at hne; exact hne) (unhide HH)
          have hn2 : n ≤ 2 := by have := head_two t k; rw [unhide HH] at this; exact this
          clear HB HH
          go_wp2_with fail
          go_loopw [9, 10, 13] (fun dd jj qq wr => ∃ (q j' : Nat) (d' : Int), q ≤ n ∧ k < j' ∧ j' ≤ t.size ∧ qq = .int .i64 q ∧ jj = .int .i64 j' ∧ dd = .int .i64 d' ∧ Hid (Like (scanF t i dep (-1)) (restM t dep (n - q) j' d')) ∧ Hid (∃ n, wr = w.drewN n)) (fun _ _ qq _ => n - (intOf qq).toNat)
          case atStart => exact ⟨0, j, d, Nat.zero_le _, by omega, hr.2, rfl, rfl, rfl, hl, hw⟩
          case round =>
            obtain ⟨q, j', d', hq, hkj, hjs, rfl, rfl, rfl, hl, hw⟩ := hrel
            by_cases hqn : q < n
            · obtain ⟨m, hm⟩ : ∃ m, n - q = m + 1 := ⟨n - q - 1, by omega⟩
              have hm' : n - (q + 1) = m := by omega
              rw [hm] at hl
              have HM := hide hm'
              clear hm hm'
              by_cases h40 : byt t j' = 40
              · have hjlt : j' < t.size := Split.lt_of_byt (by rw [h40]; decide)
                have H40 := hide h40
                rw [byt_lt hjlt] at h40
                have hne4 : ((t[j'].toNat : Int) != 40) = false := by simp [h40]
                clear h40
                obtain ⟨r, hr0⟩ : ∃ r, scanF t (j' + 1) (dep + 1) (-1) = r := ⟨_, rfl⟩
                have hrr := Split.scanF_rng t (j' + 1) (dep + 1) (-1) hjlt
                rw [hr0] at hrr
                have HR0 := hide hr0
                clear hr0
                rcases (show (d' < 0 ∧ 5 ≤ dep) ∨ (d' < 0 ∧ dep < 5) ∨ 0 ≤ d' from by omega) with ⟨c1, c2⟩ | ⟨c1, c2⟩ | c1
                · have HO := hide (rest_open t dep m j' d' j' (unhide H40) r (unhide HR0) (deepA c1 c2))
                  go_wp2_with fail
                  refine (unhide IH (j' + 1) (dep + 1) _ (by omega) hjlt (by omega)).mono ?_
                  rintro e w2 ⟨rfl, hw2⟩
                  have hw : Hid (∃ n, w2 = w.drewN n) := by
                    obtain ⟨n, rfl⟩ := unhide hw
                    obtain ⟨m, rfl⟩ := hw2
                    exact ⟨_, World.drewN_drewN _ _ _⟩
                  clear hw2
                  rw [unhide HR0]
                  obtain ⟨rj, rd, rok, rc⟩ := r
                  dsimp only at hrr
                  dsimp only
                  cases rok
                  · go_wp2_with fail
                    go_ret3
                    unfold ScanPost
                    obtain ⟨e1, e2, e3⟩ := (unhide hl).trans ((unhide HO).2 (by simp))
                    rw [e1, e2, e3]
                    exact ⟨rfl, unhide hw⟩
                  · by_cases hrs : rj < t.size
                    · go_wp2_with fail
                      go_roundw
                      case rel =>
                        refine ⟨q + 1, rj + 1, j', by omega, by omega, by omega, by go_num, by go_num, rfl, ?_, hw⟩
                        rw [unhide HM]
                        exact (unhide hl).trans ((unhide HO).1 ⟨rfl, hrs⟩)
                      case measure => simp [intOf]; omega
                    · go_wp2_with fail
                      go_ret3
                      unfold ScanPost
                      obtain ⟨e1, e2, e3⟩ := (unhide hl).trans ((unhide HO).2 (by simp [hrs]))
                      rw [e1, e2, e3]
                      exact ⟨rfl, unhide hw⟩
                · have HO := hide (rest_open t dep m j' d' r.deep (unhide H40) r (unhide HR0) (deepB c1 c2))
                  go_wp2_with fail
                  refine (unhide IH (j' + 1) (dep + 1) _ (by omega) hjlt (by omega)).mono ?_
                  rintro e w2 ⟨rfl, hw2⟩
                  have hw : Hid (∃ n, w2 = w.drewN n) := by
                    obtain ⟨n, rfl⟩ := unhide hw
                    obtain ⟨m, rfl⟩ := hw2
                    exact ⟨_, World.drewN_drewN _ _ _⟩
                  clear hw2
                  rw [unhide HR0]
                  obtain ⟨rj, rd, rok, rc⟩ := r
                  dsimp only at hrr
                  dsimp only
                  cases rok
                  · go_wp2_with fail
                    go_ret3
                    unfold ScanPost
                    obtain ⟨e1, e2, e3⟩ := (unhide hl).trans ((unhide HO).2 (by simp))
                    rw [e1, e2, e3]
                    exact ⟨rfl, unhide hw⟩
                  · by_cases hrs : rj < t.size
                    · go_wp2_with fail
                      go_roundw
                      case rel =>
                        refine ⟨q + 1, rj + 1, rd, by omega, by omega, by omega, by go_num, by go_num, rfl, ?_, hw⟩
                        rw [unhide HM]
                        exact (unhide hl).trans ((unhide HO).1 ⟨rfl, hrs⟩)
                      case measure => simp [intOf]; omega
                    · go_wp2_with fail
                      go_ret3
                      unfold ScanPost
                      obtain ⟨e1, e2, e3⟩ := (unhide hl).trans ((unhide HO).2 (by simp [hrs]))
                      rw [e1, e2, e3]
                      exact ⟨rfl, unhide hw⟩
                · have HO := hide (rest_open t dep m j' d' d' (unhide H40) r (unhide HR0) (deepC c1))
                  go_wp2_with fail
                  refine (unhide IH (j' + 1) (dep + 1) _ (by omega) hjlt (by omega)).mono ?_
                  rintro e w2 ⟨rfl, hw2⟩
                  have hw : Hid (∃ n, w2 = w.drewN n) := by
                    obtain ⟨n, rfl⟩ := unhide hw
                    obtain ⟨m, rfl⟩ := hw2
                    exact ⟨_, World.drewN_drewN _ _ _⟩
                  clear hw2
                  rw [unhide HR0]
                  obtain ⟨rj, rd, rok, rc⟩ := r
                  dsimp only at hrr
                  dsimp only
                  cases rok
                  · go_wp2_with fail
                    go_ret3
                    unfold ScanPost
                    obtain ⟨e1, e2, e3⟩ := (unhide hl).trans ((unhide HO).2 (by simp))
                    rw [e1, e2, e3]
                    exact ⟨rfl, unhide hw⟩
                  · by_cases hrs : rj < t.size
                    · go_wp2_with fail
                      go_roundw
                      case rel =>
                        refine ⟨q + 1, rj + 1, d', by omega, by omega, by omega, by go_num, by go_num, rfl, ?_, hw⟩
                        rw [unhide HM]
                        exact (unhide hl).trans ((unhide HO).1 ⟨rfl, hrs⟩)
                      case measure => simp [intOf]; omega
                    · go_wp2_with fail
                      go_ret3
                      unfold ScanPost
                      obtain ⟨e1, e2, e3⟩ := (unhide hl).trans ((unhide HO).2 (by simp [hrs]))
                      rw [e1, e2, e3]
                      exact ⟨rfl, unhide hw⟩
              · have HS := hide ((unhide hl).trans (rest_shut t dep m j' d' h40))
                by_cases hjlt : j' < t.size
                · rw [byt_lt hjlt] at h40
                  have hne4 : ((t[j'].toNat : Int) != 40) = true := by rw [bne_iff_ne]; exact h40
                  clear h40
                  go_wp2_with fail
                  go_ret3
                  unfold ScanPost
                  obtain ⟨e1, e2, e3⟩ := unhide HS
                  rw [e1, e2, e3]
                  exact ⟨rfl, unhide hw⟩
                · clear h40
                  go_wp2_with fail
                  go_ret3
                  unfold ScanPost
                  obtain ⟨e1, e2, e3⟩ := unhide HS
                  rw [e1, e2, e3]
                  exact ⟨rfl, unhide hw⟩
            · have e : n - q = 0 := by omega
              rw [e] at hl
              go_wp2_with fail
              go_roundw
              case rel => exact ⟨j', d', by omega, hjs, rfl, rfl, hl, hw⟩
              case measure => simp [intOf]; omega
    · have HS := hide (scan_stop t k dep d hk (by simp [hsz]))
      go_wp2_with fail
      go_ret3
      have hl := unhide hl
      rw [unhide HS] at hl
      unfold ScanPost
      obtain ⟨e1, e2, e3⟩ := hl
      rw [e1, e2, e3]
      exact ⟨rfl, unhide hw⟩

theorem scan_any (t : ByteArray) (hs : t.size ≤ 120) : ∀ (m i dep : Nat) (w : World), t.size - i ≤ m → i ≤ t.size → dep + (t.size - i) ≤ 1000 →
    Calls Try.prog 19 #[.string t, .int .i64 i, .int .i64 dep] w (ScanPost t i dep w)
  | 0, i, dep, w, hm, hi, hd => scan_step t i dep w hs hi hd fun i' dep' w' h1 h2 _ => by omega
  | m + 1, i, dep, w, hm, hi, hd => scan_step t i dep w hs hi hd fun i' dep' w' h1 h2 h3 => scan_any t hs m i' dep' w' (by omega) h2 h3

/-- What the document answers of a text: the error, and its place. -/
def checkE (t : ByteArray) : Int := if 120 < t.size then 1 else if (scanF t 0 0 (-1)).ok = true ∧ ¬ (scanF t 0 0 (-1)).j < t.size then (if 0 ≤ (scanF t 0 0 (-1)).deep then 3 else 0) else 2
def checkP (t : ByteArray) : Int := if 120 < t.size then 0 else if (scanF t 0 0 (-1)).ok = true ∧ ¬ (scanF t 0 0 (-1)).j < t.size then (if 0 ≤ (scanF t 0 0 (-1)).deep then (scanF t 0 0 (-1)).deep else 0) else (scanF t 0 0 (-1)).j

set_option maxHeartbeats 1000000 in
theorem rcheck_any (t : ByteArray) (w : World) (hs : t.size ≤ 1000000000000000) : Calls Try.prog 6 #[.string t] w fun e w' => e = .returned (.tuple #[.int .i64 (checkE t), .int .i64 (checkP t)]) ∧ ∃ n, w' = w.drewN n := by
  by_cases hl : 120 < t.size
  · have e1 : checkE t = 1 := by simp [checkE, hl]
    have e2 : checkP t = 0 := by simp [checkP, hl]
    rw [e1, e2]
    clear e1 e2
    go_enter Try.func6, Try.ntmps6
    go_wp2_with fail
    go_ret2
    exact ⟨rfl, 0, rfl⟩
  · obtain ⟨r, hr⟩ : ∃ r, scanF t 0 0 (-1) = r := ⟨_, rfl⟩
    have hrr := Split.scanF_rng t 0 0 (-1) (Nat.zero_le _)
    have HS := hide (scan_any t (by omega) t.size 0 0 w (by omega) (Nat.zero_le _) (by omega))
    unfold checkE checkP
    unfold ScanPost at HS
    rw [hr] at HS hrr
    rw [hr]
    clear hr
    obtain ⟨rj, rd, rok, rc⟩ := r
    dsimp only at hrr HS
    dsimp only
    rw [if_neg hl, if_neg hl]
    cases rok
    · rw [if_neg (by simp), if_neg (by simp)]
      go_enter Try.func6, Try.ntmps6
      go_wp2_with fail
      refine (unhide HS).mono ?_
      rintro e w1 ⟨rfl, n, rfl⟩
      go_wp2_with fail
      go_ret2
      exact ⟨rfl, _, rfl⟩
    · by_cases hj : rj < t.size
      · rw [if_neg (by simp [hj]), if_neg (by simp [hj])]
        go_enter Try.func6, Try.ntmps6
        go_wp2_with fail
        refine (unhide HS).mono ?_
        rintro e w1 ⟨rfl, n, rfl⟩
        go_wp2_with fail
        go_ret2
        exact ⟨rfl, _, rfl⟩
      · have hc : true = true ∧ ¬ rj < t.size := ⟨rfl, hj⟩
        rw [if_pos hc, if_pos hc]
        clear hc
        by_cases hdp : 0 ≤ rd
        · rw [if_pos hdp, if_pos hdp]
          go_enter Try.func6, Try.ntmps6
          go_wp2_with fail
          refine (unhide HS).mono ?_
          rintro e w1 ⟨rfl, n, rfl⟩
          go_wp2_with fail
          go_ret2
          exact ⟨rfl, _, rfl⟩
        · rw [if_neg hdp, if_neg hdp]
          go_enter Try.func6, Try.ntmps6
          go_wp2_with fail
          refine (unhide HS).mono ?_
          rintro e w1 ⟨rfl, n, rfl⟩
          go_wp2_with fail
          go_ret2
          exact ⟨rfl, _, rfl⟩
end Go.Proofs.Ytbpolcnjojlkjab
