/- PurseW: Pay, Hold, Prop, Prop2, Thru -/
import Derived.Test.YtmdjdpofpkgffabGround
import Derived.Test.YtmdjdpofpkgffabPaysM
import Derived.Test.YtmdjdpofpkgffabReaders
import Derived.Deep.LoopGhost

/- split's purse: least, payAtMost, pay, hold, takeBack. -/
namespace Go.Proofs.Ytmdjdpofpkgffab
open Go.ChangeShapes Go.WideShapes Go.ChangeAt Go.RowKit
open Split (Pu lea paySum payM Keeps holdM backM)
set_option linter.unusedVariables false
set_option linter.unusedSimpArgs false

/-- The purse in block P, what it holds with it. -/
def PA (w : World) (P : Nat) (p : Pu) : Prop := ∃ vh, Purse w P p.hand vh p.owed p.paid ∧ w.ownsRow (P + 1) 3 1 vh p.held.length (p.held.map (Value.int .i64))

theorem Purse.grown {w w' : World} {P : Nat} {hand : Int} {held : Value} {owed paid : List Int} {r : Option Nat} (h : Purse w P hand held owed paid) (hg : w.grownBy w' r) (hr : some P ≠ r) : Purse w' P hand held owed paid :=
  h.other (hg.block P h.lt hr)

theorem least_any (a b : Int) (w : World) : Calls Try.prog 108 #[.int .i64 a, .int .i64 b] w fun e w' => e = .returned (.int .i64 (lea a b)) ∧ w' = w := by
  by_cases h : a < b
  · have e : lea a b = a := by simp [lea, h]
    rw [e]; clear e
    go_enter Try.func108, Try.ntmps108
    go_wp2
    go_ret
    exact ⟨rfl, rfl⟩
  · have e : lea a b = b := by simp [lea, h]
    rw [e]; clear e
    go_enter Try.func108, Try.ntmps108
    go_wp2
    go_ret
    exact ⟨rfl, rfl⟩

set_option maxHeartbeats 4000000 in
theorem payAtMost_any (P : Nat) (p : Pu) (M : Int) (o0 : List Int) (i : Nat) (most : Int) (w : World) (h : PA w P p) (hg : Keeps M o0 p) (hi : i < 8) (hm : 0 ≤ most) (hm' : most ≤ 2000000000) :
    Calls Try.prog 95 #[.pointer (some ⟨P, 0, none⟩), .int .i64 i, .int .i64 most] w fun e w' => e = .returned (.tuple #[]) ∧ PA w' P (payM p i most) ∧ w.grownBy w' (some P) := by
  obtain ⟨vh, hP, hH⟩ := h
  have hs := Split.paySum_bd hg i most hm
  have b1 := hg.paid_le i
  have b2 := hg.owed_le i
  have b3 := hg.h0
  have b4 := hg.ow i
  have b5 := hg.pa i
  obtain ⟨s, hse⟩ : ∃ s, paySum p i most = s := ⟨_, rfl⟩
  have hse' : lea (lea p.hand most) (p.owed.getD i 0) = s := hse
  have hpay : payM p i most = ⟨p.hand - s, p.held, p.owed.set i (p.owed.getD i 0 - s), p.paid.set i (p.paid.getD i 0 + s)⟩ := by
    unfold payM; rw [hse]
  rw [hse] at hs
  rw [hpay]
  obtain ⟨hd, hld, ow, pd⟩ := p
  dsimp only at *
  obtain ⟨x, hx⟩ : ∃ x, ow.getD i 0 = x := ⟨_, rfl⟩
  obtain ⟨y, hy⟩ : ∃ y, pd.getD i 0 = y := ⟨_, rfl⟩
  have ch := hP.hand_cell
  have co := hP.owed_cell i hi
  have cp := hP.paid_cell i hi
  have fh := hP.frozen 0
  have fo := hP.frozen (2 + i)
  have fp := hP.frozen (10 + i)
  have hsum : 0 ≤ hld.sum := b1.2
  have b1' := b1.1
  rw [hx] at co b2 b4 hs hse' ⊢
  rw [hy] at cp b5 b1' ⊢
  have HP := hide hP
  have HH := hide hH
  have HS := hide hse'
  clear hP hH hse hse' hpay hg hx hy b1
  go_enter Try.func95, Try.ntmps95
  go_wp2_with fail
  refine (least_any hd most _).mono ?_
  rintro e w1 ⟨rfl, hw⟩
  have hw := hw.symm
  subst hw
  generalize hl1 : lea hd most = l1 at *
  clear hl1
  go_wp2_with fail
  refine (least_any l1 x _).mono ?_
  rintro e w1 ⟨rfl, hw⟩
  have hw := hw.symm
  subst hw
  rw [unhide HS]
  go_wp2_with fail
  go_region
  go_wp2_with fail
  go_region
  go_end0
  refine ⟨rfl, ⟨vh, ?_, ?_⟩, ?_⟩
  · exact ((((unhide HP).set_hand (hd - s)).set_owed i hi (x - s)).set_paid i hi (y + s)).other rfl
  · exact (unhide HH).kept (grown_drewN (grown_set (grown_set (grown_set (grown_refl _ _) 0 _) (2 + i) _) (10 + i) _) 2) (own_ne (unhide HH) (by omega))
  · exact grown_drewN (grown_set (grown_set (grown_set (grown_refl _ _) 0 _) (2 + i) _) (10 + i) _) 2

theorem pay_any (P : Nat) (p : Pu) (M : Int) (o0 : List Int) (i : Nat) (w : World) (h : PA w P p) (hg : Keeps M o0 p) (hi : i < 8) :
    Calls Try.prog 94 #[.pointer (some ⟨P, 0, none⟩), .int .i64 i] w fun e w' => e = .returned (.tuple #[]) ∧ PA w' P (payM p i 1000000000) ∧ w.grownBy w' (some P) := by
  go_enter Try.func94, Try.ntmps94
  go_wp2_with fail
  refine (payAtMost_any P p M o0 i 1000000000 _ h hg hi (by omega) (by omega)).mono ?_
  rintro e w1 ⟨rfl, h1, g1⟩
  have H1 := hide h1
  have G1 := hide g1
  clear h1 g1 h hg
  go_wp2_with fail
  go_end0
  exact ⟨rfl, unhide H1, unhide G1⟩
end Go.Proofs.Ytmdjdpofpkgffab

/- split's purse: hold, takeBack. -/
namespace Go.Proofs.Ytmdjdpofpkgffab
open Go.ChangeShapes Go.WideShapes Go.ChangeAt Go.RowKit
open Split (Pu lea paySum payM Keeps holdM backM)
set_option linter.unusedVariables false
set_option linter.unusedSimpArgs false

theorem Purse.via {w W w2 : World} {P : Nat} {hand : Int} {held : Value} {owed paid : List Int} {r : Option Nat} (h : Purse w P hand held owed paid) (hg : W.grownBy w2 r) (hr : some P ≠ r) (e : W.heap[P]? = w.heap[P]?) : Purse w2 P hand held owed paid :=
  Purse.grown (w := W) (h.other e) hg hr

theorem wrap_big {x : Int} (h0 : -1000000000000000000 ≤ x) (h1 : x ≤ 1000000000000000000) : IntKind.i64.wrap x = x := by
  rw [IntWalk.i64_left]
  exact IntWalk.wrap64_in x (by omega)

set_option maxHeartbeats 4000000 in
theorem hold_any (P : Nat) (p : Pu) (M : Int) (o0 : List Int) (n : Int) (w : World) (h : PA w P p) (hk : Keeps M o0 p) (hn : 0 ≤ n) (hn' : n ≤ 100) (hl : p.held.length ≤ 1000) :
    Calls Try.prog 97 #[.pointer (some ⟨P, 0, none⟩), .int .i64 n] w fun e w' => e = .returned (.tuple #[]) ∧ PA w' P (holdM p n) ∧ Below P w w' := by
  obtain ⟨vh, hP, hH⟩ := h
  have hpb := Split.part_bd p.hand n hk.h0 hn hn'
  have b1 := hk.paid_le 0
  have b2 := hk.pa 0
  have b3 := hk.h0
  have hm1 : 0 ≤ p.hand * n := Int.mul_nonneg b3 hn
  have hm2 : p.hand * n ≤ p.hand * 100 := Int.mul_le_mul_of_nonneg_left hn' b3
  obtain ⟨i0, hi, hz0, hz1, hz2⟩ := info_parts infoInt
  obtain ⟨ha, hcap, rfl, hhc, _⟩ := own_slice hH
  have hm : holdM p n = ⟨p.hand * n / 100, p.held ++ [p.hand - p.hand * n / 100], p.owed, p.paid⟩ := rfl
  rw [hm]
  obtain ⟨hd, hld, ow, pd⟩ := p
  dsimp only at *
  obtain ⟨m, hme⟩ : ∃ m, hd * n = m := ⟨_, rfl⟩
  rw [hme] at hm1 hm2 hpb ⊢
  have hsum : 0 ≤ hld.sum := b1.2
  have b1' := b1.1
  have hbd : hd ≤ 1000000000 := by omega
  have hm3 : m ≤ 100000000000 := by omega
  have HME := hide hme
  have ch := hP.hand_cell
  have chd := hP.held_cell
  have fh := hP.frozen 0
  have fhd := hP.frozen 1
  have hPlt := hP.lt
  have HP := hide hP
  have HH := hide hH
  clear hP hH hm hk b1 b1' b2 hme
  go_enter Try.func97, Try.ntmps97
  go_wp2_with fail
  rw [show wrap64 (hd * n) = m from by rw [unhide HME]; exact IntWalk.wrap64_in m (by omega), show wrap64 (m.tdiv 100) = m / 100 from by rw [Int.tdiv_eq_ediv_of_nonneg hm1]; exact IntWalk.wrap64_in _ (by omega)]
  obtain ⟨q, hq⟩ : ∃ q, m / 100 = q := ⟨_, rfl⟩
  rw [hq] at hpb ⊢
  have HQ := hide hq
  have hwr : IntKind.i64.wrap (hd - q) = hd - q := wrap_big (by omega) (by omega)
  clear hq
  go_region_law (refine step_append_own rfl (.tmp 16) (.tmp 23) 22 rfl (P + 1) 3 i0 (.int .i64 0) 1 8 Try.underlying22 hi hz0 hz1 hz2 rfl (by decide) (.slice ha hld.length hcap) hld.length (hld.map (Value.int .i64)) (by simp [Act.eval, Act.put]) (by exact World.ownsRow.alloc (World.ownsRow.drew (unhide HH)) _) ⟨w.heap.size, 0, none⟩ 1 1 [.int .i64 (hd - q)] (by simp [Act.eval, Act.put]) rfl (by intro j u hj; match j, hj with | 0, hj => simp at hj; subst hj; simp [Addr.add]) (by intro u hu; simp at hu; subst hu; rfl) (by unfold maxLen; omega) (by omega) (by simp; omega) ?_; intro v' w2 hown hgrow; have hP2 := Purse.via (unhide HP) hgrow (own_base (unhide HH) (Nat.lt_succ_self _)) (by exact Go.heap_alloc_old _ _ hPlt); have fh' := hP2.frozen 0; have ch' := hP2.hand_cell; have fhd' := hP2.frozen 1; have chd' := hP2.held_cell; obtain ⟨a2, cap2, rfl, hle2, _⟩ := own_slice hown)
  all_goals
    have HP2 := hide hP2
    have HOWN := hide hown
    have HB := hide (((Below.refl P w).alloc (by omega) _).trans (below_of_grown (B := P) (grown_undrew hgrow) (by simp; omega) (fun k hk => by have := (unhide HH).lt k hk; omega)))
    clear hP2 hown hgrow hi hz0 hz1 hz2
    go_wp2_with fail
    go_end0
    rw [unhide HQ]
    refine ⟨rfl, ⟨_, ((unhide HP2).set_held _).set_hand q, ?_⟩, ?_⟩
    · refine World.ownsRow.kept ?_ (grown_set (grown_set (grown_refl _ _) 1 _) 0 _) (own_ne (unhide HOWN) (by omega))
      simpa using unhide HOWN
    · exact ((unhide HB).setCell (p := ⟨P, 1, none⟩) (Nat.le_refl _) _).setCell (p := ⟨P, 0, none⟩) (Nat.le_refl _) _

set_option maxHeartbeats 4000000 in
theorem takeBack_any (P : Nat) (p : Pu) (M : Int) (o0 : List Int) (w : World) (h : PA w P p) (hk : Keeps M o0 p) (hl : p.held.length ≤ 1000) :
    Calls Try.prog 98 #[.pointer (some ⟨P, 0, none⟩)] w fun e w' => e = .returned (.tuple #[]) ∧ PA w' P (backM p) ∧ Below P w w' := by
  obtain ⟨vh, hP, hH⟩ := h
  have hPlt := hP.lt
  obtain ⟨ha, hcap, rfl, hhc, hha⟩ := own_slice hH
  unfold backM
  obtain ⟨hd, hld, ow, pd⟩ := p
  dsimp only at *
  cases hlast : hld.getLast? with
  | none =>
    have e0 : hld = [] := List.getLast?_eq_none_iff.1 hlast
    subst e0
    have chd := hP.held_cell
    have HP := hide hP
    have HH := hide hH
    clear hP hH hk hha hlast
    dsimp only
    go_enter Try.func98, Try.ntmps98
    go_wp2_with fail
    refine bodyPost_ret (v := .tuple #[]) (by simp [results, Try.results98, go_sem]) rfl ?_
    exact ⟨rfl, ⟨_, unhide HP, unhide HH⟩, Below.refl _ _⟩
  | some x =>
    have hmem : x ∈ hld := List.mem_of_getLast? hlast
    have hne : hld ≠ [] := fun e => by rw [e] at hmem; simp at hmem
    obtain ⟨l, rfl⟩ : ∃ l, hld = l ++ [x] := by
      have := List.dropLast_concat_getLast hne
      rw [List.getLast?_eq_some_getLast hne] at hlast
      simp at hlast
      rw [hlast] at this
      exact ⟨_, this.symm⟩
    obtain ⟨g, rfl⟩ := hha (by simp)
    dsimp only
    rw [List.dropLast_concat]
    have hx0 := hk.hh x hmem
    have b1 := hk.paid_le 0
    have b2 := hk.pa 0
    have b3 := hk.h0
    have hxs : x ≤ (l ++ [x]).sum := Split.mem_le_sum _ hk.hh x hmem
    dsimp only at hx0 b1 b2 b3
    have hbd : hd + x ≤ 1000000000 := by omega
    have hlen : (l ++ [x]).length = l.length + 1 := by simp
    have hmap : (l ++ [x]).map (Value.int .i64) = l.map (Value.int .i64) ++ [.int .i64 x] := by simp
    rw [hlen] at hH hP hhc hl
    rw [hmap] at hH
    have hg := (hH.lt g rfl).1
    have chd := hP.held_cell
    have ch := hP.hand_cell
    have fh := hP.frozen 0
    have fhd := hP.frozen 1
    have cx : w.cell? ⟨g, l.length, none⟩ = some (.int .i64 x) := by
      rw [hH.cellAt _ (by omega), List.getElem?_append_right (by simp)]
      simp
    have hH2 := ownsRow_pop (by simp) hH
    have HP := hide hP
    have HH := hide hH2
    clear hP hH hH2 hk b1 b2 hxs hlen hmap hne hmem hlast hha
    go_enter Try.func98, Try.ntmps98
    go_wp2_with fail
    go_region
    all_goals
      go_wp2_with fail
      go_end0
      refine ⟨rfl, ⟨_, (((unhide HP).set_hand (hd + x)).set_held _).other rfl, ?_⟩, ?_⟩
      · exact World.ownsRow.kept (unhide HH) (grown_drewN (grown_set (grown_set (grown_refl _ _) 0 _) 1 _) 1) (own_ne (unhide HH) (by omega))
      · exact (((Below.refl _ _).setCell (p := ⟨P, 0, none⟩) (Nat.le_refl _) _).setCell (p := ⟨P, 1, none⟩) (Nat.le_refl _) _).drew
end Go.Proofs.Ytmdjdpofpkgffab

/- split's purse: owedAmong, payLeftOver, payInProportion. -/
namespace Go.Proofs.Ytmdjdpofpkgffab
open Go.ChangeShapes Go.WideShapes Go.ChangeAt Go.RowKit
open Split (Pu lea paySum payM Keeps holdM backM amTo Pf propTo argTo leftM propM)
set_option linter.unusedVariables false
set_option linter.unusedSimpArgs false

theorem bl_box (w : World) (m0 m1 m2 m3 m4 m5 m6 m7 : Bool) : Bl (w.alloc (.cells #[.bool m0, .bool m1, .bool m2, .bool m3, .bool m4, .bool m5, .bool m6, .bool m7] 108)) w.heap.size [m0, m1, m2, m3, m4, m5, m6, m7] :=
  ⟨rfl, heap_alloc_new _ _⟩

set_option maxHeartbeats 2000000 in
theorem owedAmong_any (P : Nat) (p : Pu) (M : Int) (o0 : List Int) (m0 m1 m2 m3 m4 m5 m6 m7 : Bool) (w : World) (h : PA w P p) (hk : Keeps M o0 p) :
    Calls Try.prog 109 #[.pointer (some ⟨P, 0, none⟩), .agg #[.bool m0, .bool m1, .bool m2, .bool m3, .bool m4, .bool m5, .bool m6, .bool m7]] w fun e w' => e = .returned (.int .i64 (amTo p [m0, m1, m2, m3, m4, m5, m6, m7] 8)) ∧ w.grownBy w' none := by
  obtain ⟨vh, hP, hH⟩ := h
  have hPlt := hP.lt
  have hB := bl_box w m0 m1 m2 m3 m4 m5 m6 m7
  have HB := hide hB
  have hP1 := hide (hP.grown (World.grownBy_alloc w (.cells #[.bool m0, .bool m1, .bool m2, .bool m3, .bool m4, .bool m5, .bool m6, .bool m7] 108) none) (by simp))
  have HK := hide hk
  clear hP hH hB hk
  go_enter Try.func109, Try.ntmps109
  go_wp2_with fail
  go_loopw [5, 6] (fun tt ii wr => ∃ k : Nat, k ≤ 8 ∧ ii = .int .i64 k ∧ tt = .int .i64 (amTo p [m0, m1, m2, m3, m4, m5, m6, m7] k) ∧ wr = w.alloc (.cells #[.bool m0, .bool m1, .bool m2, .bool m3, .bool m4, .bool m5, .bool m6, .bool m7] 108)) (fun _ ii _ => 8 - (intOf ii).toNat)
  case atStart => exact ⟨0, by omega, rfl, rfl, rfl⟩
  case round =>
    obtain ⟨k, hk8, rfl, rfl, rfl⟩ := hrel
    by_cases hlt : k < 8
    · have cb := (unhide HB).cell k hlt
      have co := (unhide hP1).owed_cell k hlt
      have hb := Split.amTo_bd (unhide HK) [m0, m1, m2, m3, m4, m5, m6, m7] k
      have h1 := (unhide HK).ow k
      have h2 := (unhide HK).owed_le k
      have hn : amTo p [m0, m1, m2, m3, m4, m5, m6, m7] (k + 1) = amTo p [m0, m1, m2, m3, m4, m5, m6, m7] k + (if [m0, m1, m2, m3, m4, m5, m6, m7].getD k false then p.owed.getD k 0 else 0) := rfl
      have HN := hide hn
      clear hn
      generalize amTo p [m0, m1, m2, m3, m4, m5, m6, m7] k = tk at *
      obtain ⟨o, ho⟩ : ∃ o, p.owed.getD k 0 = o := ⟨_, rfl⟩
      rw [ho] at co h1 h2
      have HO := hide ho
      clear ho
      obtain ⟨W, hW⟩ : ∃ W, w.alloc (.cells #[.bool m0, .bool m1, .bool m2, .bool m3, .bool m4, .bool m5, .bool m6, .bool m7] 108) = W := ⟨_, rfl⟩
      rw [hW] at cb co ⊢
      have HW := hide hW
      clear hW
      cases hm : [m0, m1, m2, m3, m4, m5, m6, m7].getD k false
      · rw [hm] at cb
        have HM := hide hm
        clear hm
        go_wp2_with fail
        go_roundw
        case rel => exact ⟨k + 1, by omega, by go_num, by rw [unhide HN, unhide HM]; simp, by first | trivial | exact (unhide HW).symm⟩
        case measure => simp [intOf]; omega
      · rw [hm] at cb
        have HM := hide hm
        clear hm
        go_wp2_with fail
        go_roundw
        case rel => exact ⟨k + 1, by omega, by go_num, by rw [unhide HN, unhide HM, unhide HO]; simp, by first | trivial | exact (unhide HW).symm⟩
        case measure => simp [intOf]; omega
    · have : k = 8 := by omega
      subst this
      go_wp2_with fail
      go_ret
      exact ⟨rfl, World.grownBy_alloc _ _ _⟩

/-- Eight numbers in a block of their own. -/
def Fl (w : World) (F : Nat) (f : List Int) : Prop := f.length = 8 ∧ w.heap[F]? = some (.cells (f.map (Value.int .i64)).toArray 144 (0, 0))
theorem Fl.cell {w : World} {F : Nat} {f : List Int} (h : Fl w F f) (i : Nat) (hi : i < 8) : w.cell? ⟨F, i, none⟩ = some (.int .i64 (f.getD i 0)) := by
  rw [cell_of_row w F _ _ _ _ h.2]
  have h1 := h.1
  simp [List.getElem?_eq_getElem (show i < f.length by omega)]
theorem Fl.fr {w : World} {F : Nat} {f : List Int} (h : Fl w F f) (i : Nat) : w.frozen? ⟨F, i, none⟩ = false := frozen_of_row w F i _ _ h.2
theorem Fl.set {w : World} {F : Nat} {f : List Int} (h : Fl w F f) (i : Nat) (b : Int) : Fl (w.setCell ⟨F, i, none⟩ (.int .i64 b)) F (f.set i b) := by
  refine ⟨by simp [h.1], ?_⟩
  rw [heap_setCell_same w F i _ _ _ h.2]
  simp [List.map_set]
theorem Fl.grown {w w' : World} {F : Nat} {f : List Int} {r : Option Nat} (h : Fl w F f) (hg : w.grownBy w' r) (hr : some F ≠ r) : Fl w' F f :=
  ⟨h.1, (hg.block F (cell_lt h.2) hr).trans h.2⟩
theorem PA.grown {w w' : World} {P : Nat} {p : Pu} {r : Option Nat} (h : PA w P p) (hg : w.grownBy w' r) (hr : some P ≠ r) (hr2 : ∀ k, r = some k → w.heap.size ≤ k) : PA w' P p := by
  obtain ⟨vh, hP, hH⟩ := h
  refine ⟨vh, hP.grown hg hr, hH.kept hg ?_⟩
  cases hv : vh.ownBlock with
  | none => exact .inl rfl
  | some k =>
    right
    intro e
    have h1 := (hH.lt k hv).2
    have h2 := hr2 k e.symm
    omega
theorem PA.lt {w : World} {P : Nat} {p : Pu} (h : PA w P p) : P < w.heap.size := by
  obtain ⟨vh, hP, hH⟩ := h
  exact hP.lt
theorem own_not {w : World} {base : Nat} {e e' : TypeId} {size F : Nat} {v : Value} {n : Nat} {xs : List Value} {c : Array Value} {fr : Nat × Nat} (h : w.ownsRow base e size v n xs) (hF : w.heap[F]? = some (.cells c e' fr)) (hne : e ≠ e') : v.ownBlock = none ∨ v.ownBlock ≠ some F := by
  rcases h.2 with ⟨rfl, rfl⟩ | ⟨g, cap, cur, rfl, _, hg, _⟩
  · exact .inl rfl
  · right
    simp only [Value.ownBlock, ne_eq, Option.some.injEq]
    intro e0
    subst e0
    rw [hg] at hF
    simp at hF
    exact hne hF.2.1
theorem PA.setOther {w : World} {P F : Nat} {p : Pu} {T : TypeId} {c : Array Value} {fr : Nat × Nat} (h : PA w P p) (hF : w.heap[F]? = some (.cells c T fr)) (hT : 3 ≠ T) (hPF : P ≠ F) (o : Nat) (v : Value) : PA (w.setCell ⟨F, o, none⟩ v) P p := by
  obtain ⟨vh, hP, hH⟩ := h
  exact ⟨vh, hP.grown (grown_set (grown_refl _ _) o v) (by simpa using hPF), hH.kept (grown_set (grown_refl _ _) o v) (own_not hH hF hT)⟩
theorem PA.drewN {w : World} {P : Nat} {p : Pu} (h : PA w P p) (n : Nat) : PA (w.drewN n) P p := by
  obtain ⟨vh, hP, hH⟩ := h
  exact ⟨vh, hP.other rfl, hH⟩

set_option maxHeartbeats 4000000 in
theorem payLeftOver_any (P : Nat) (p : Pu) (M : Int) (o0 : List Int) (f0 f1 f2 f3 f4 f5 f6 f7 : Int) (w : World) (h : PA w P p) (hk : Keeps M o0 p) :
    Calls Try.prog 110 #[.pointer (some ⟨P, 0, none⟩), .agg #[.int .i64 f0, .int .i64 f1, .int .i64 f2, .int .i64 f3, .int .i64 f4, .int .i64 f5, .int .i64 f6, .int .i64 f7]] w fun e w' => e = .returned (.tuple #[]) ∧ PA w' P (leftM 8 p [f0, f1, f2, f3, f4, f5, f6, f7]) ∧ w.grownBy w' (some P) := by
  have hPlt := h.lt
  have hA := hide (h.grown (World.grownBy_alloc w (.cells #[.int .i64 f0, .int .i64 f1, .int .i64 f2, .int .i64 f3, .int .i64 f4, .int .i64 f5, .int .i64 f6, .int .i64 f7] 144) none) (by simp) (by simp))
  have hF : Hid (Fl (w.alloc (.cells #[.int .i64 f0, .int .i64 f1, .int .i64 f2, .int .i64 f3, .int .i64 f4, .int .i64 f5, .int .i64 f6, .int .i64 f7] 144)) w.heap.size [f0, f1, f2, f3, f4, f5, f6, f7]) := ⟨rfl, heap_alloc_new _ _⟩
  have HK := hide hk
  clear h hk
  go_enter Try.func110, Try.ntmps110
  go_wp2_with fail
  go_loopw [4, 5] (fun rr _ wr => ∃ (k : Nat) (q : Pu) (f : List Int), k ≤ 8 ∧ rr = .int .i64 k ∧ Hid (PA wr P q) ∧ Hid (Keeps M o0 q) ∧ Hid (Fl wr w.heap.size f) ∧ Hid (leftM 8 p [f0, f1, f2, f3, f4, f5, f6, f7] = leftM (8 - k) q f) ∧ Hid (w.grownBy wr (some P))) (fun rr _ _ => 8 - (intOf rr).toNat)
  case atStart => exact ⟨0, p, [f0, f1, f2, f3, f4, f5, f6, f7], by omega, rfl, hA, HK, hF, rfl, World.grownBy_alloc _ _ _⟩
  case round =>
    obtain ⟨k, q, f, hk8, rfl, hq, hkq, hf, hl, hg⟩ := hrel
    obtain ⟨W, hWe⟩ : ∃ W, W = wr := ⟨_, rfl⟩
    subst hWe
    clear hA hF HK
    have ch : W.cell? ⟨P, 0, none⟩ = some (.int .i64 q.hand) := by
      obtain ⟨vh, hP, _⟩ := unhide hq
      exact hP.hand_cell
    have hF8 := (unhide hf).1
    have hFlt : w.heap.size < W.heap.size := cell_lt (unhide hf).2
    obtain ⟨hh, hhe⟩ : ∃ hh, q.hand = hh := ⟨_, rfl⟩
    rw [hhe] at ch
    have HHE := hide hhe
    clear hhe
    by_cases hlt : k < 8
    · obtain ⟨j, hj⟩ : ∃ j, 8 - k = j + 1 := ⟨7 - k, by omega⟩
      have hj' : 8 - (k + 1) = j := by omega
      have HJ := hide hj'
      rw [hj] at hl
      clear hj hj'
      by_cases hpos : 0 < hh
      · have hl' : Hid (leftM 8 p [f0, f1, f2, f3, f4, f5, f6, f7] = leftM j (payM q (argTo f 7) 1) (f.set (argTo f 7) 0)) := by
          have := unhide hl
          simp only [leftM, unhide HHE, if_pos hpos] at this
          exact this
        clear hl
        go_wp2_with fail
        go_loopw [5, 6] (fun gg ii wx => ∃ i : Nat, 1 ≤ i ∧ i ≤ 8 ∧ ii = .int .i64 i ∧ gg = .int .i64 (argTo f (i - 1) : Nat) ∧ Hid (∃ n, wx = W.drewN n)) (fun _ ii _ => 8 - (intOf ii).toNat)
        case atStart => exact ⟨1, by omega, by omega, rfl, rfl, ⟨0, rfl⟩⟩
        case round =>
          obtain ⟨i, hi1, hi8, rfl, rfl, hwx⟩ := hrel
          by_cases hil : i < 8
          · have hal := Split.argTo_le f (i - 1)
            have hnx : argTo f i = if f.getD (argTo f (i - 1)) 0 < f.getD i 0 then i else argTo f (i - 1) := by
              obtain ⟨i', rfl⟩ : ∃ i', i = i' + 1 := ⟨i - 1, by omega⟩
              rfl
            obtain ⟨g, hge⟩ : ∃ g, argTo f (i - 1) = g := ⟨_, rfl⟩
            rw [hge] at hal hnx ⊢
            have cg : wr.cell? ⟨w.heap.size, g, none⟩ = some (.int .i64 (f.getD g 0)) := by
              obtain ⟨n, hn⟩ := unhide hwx
              rw [hn]
              exact (unhide hf).cell g (by omega)
            have ci : wr.cell? ⟨w.heap.size, i, none⟩ = some (.int .i64 (f.getD i 0)) := by
              obtain ⟨n, hn⟩ := unhide hwx
              rw [hn]
              exact (unhide hf).cell i (by omega)
            obtain ⟨x, hx⟩ : ∃ x, f.getD g 0 = x := ⟨_, rfl⟩
            obtain ⟨y, hy⟩ : ∃ y, f.getD i 0 = y := ⟨_, rfl⟩
            rw [hx] at cg hnx
            rw [hy] at ci hnx
            have HNX := hide hnx
            clear hnx hx hy hge
            have e1 : i + 1 - 1 = i := by omega
            have E1 := hide e1
            clear e1
            by_cases hxy : x < y
            · go_wp2_with fail
              go_quiet (fail)
              go_wp2_with fail
              go_roundw
              case rel => exact ⟨i + 1, by omega, by omega, by go_num, by rw [unhide E1, unhide HNX, if_pos hxy], drewN_more (unhide hwx)⟩
              case measure => simp [intOf]; omega
            · go_wp2_with fail
              go_quiet (fail)
              go_wp2_with fail
              go_roundw
              case rel => exact ⟨i + 1, by omega, by omega, by go_num, by rw [unhide E1, unhide HNX, if_neg (by omega)], drewN_more (unhide hwx)⟩
              case measure => simp [intOf]; omega
          · have hi' : i = 8 := by omega
            subst hi'
            have hal := Split.argTo_le f 7
            have e7 : (8 - 1 : Nat) = 7 := rfl
            rw [e7]
            obtain ⟨g, hge⟩ : ∃ g, argTo f 7 = g := ⟨_, rfl⟩
            rw [hge] at hal hl' ⊢
            clear hge e7
            have hqx : Hid (PA wr P q) := by
              obtain ⟨n, hn⟩ := unhide hwx
              rw [hn]
              exact (unhide hq).drewN n
            have hfx : Hid (Fl wr w.heap.size f) := by
              obtain ⟨n, hn⟩ := unhide hwx
              rw [hn]
              exact unhide hf
            have hgx : Hid (w.grownBy wr (some P)) := by
              obtain ⟨n, hn⟩ := unhide hwx
              rw [hn]
              exact grown_drewN (unhide hg) n
            clear ch
            go_wp2_with fail
            refine (payAtMost_any P q M o0 g 1 _ (unhide hqx) (unhide hkq) (by omega) (by omega) (by omega)).mono ?_
            rintro e w2 ⟨rfl, h2, g2⟩
            have H2 := hide h2
            have G2 := hide g2
            have hF2 := (unhide hfx).grown g2 (by simp; omega)
            have cF := hF2.cell g (by omega)
            have fF := hF2.fr g
            have HF2 := hide hF2
            have hz2 : w.heap.size < w2.heap.size := cell_lt hF2.2
            clear h2 g2 hF2
            go_wp2_with fail
            go_roundw
            case rel =>
              refine ⟨k + 1, payM q g 1, f.set g 0, by omega, by go_num, ?_, Split.good_pay (unhide hkq) g (by omega) 1 (by omega), (unhide HF2).set g 0, ?_, ?_⟩
              · exact (unhide H2).setOther (unhide HF2).2 (by decide) (by omega) g _
              · rw [unhide HJ]; exact hl'
              · exact grown_new (grown_trans (unhide hgx) (unhide G2)) (p := ⟨w.heap.size, g, none⟩) (Nat.le_refl _) _
            case measure => simp [intOf]; omega
      · have hl' : Hid (leftM 8 p [f0, f1, f2, f3, f4, f5, f6, f7] = q) := by
          have := unhide hl
          simp only [leftM, unhide HHE, if_neg hpos] at this
          exact this
        go_wp2_with fail
        go_end0
        rw [unhide hl']
        exact ⟨rfl, unhide hq, unhide hg⟩
    · have hk' : k = 8 := by omega
      subst hk'
      have hl' : Hid (leftM 8 p [f0, f1, f2, f3, f4, f5, f6, f7] = q) := unhide hl
      go_wp2_with fail
      go_end0
      rw [unhide hl']
      exact ⟨rfl, unhide hq, unhide hg⟩
end Go.Proofs.Ytmdjdpofpkgffab

/- split's purse: payInProportion. -/
namespace Go.Proofs.Ytmdjdpofpkgffab
open Go.ChangeShapes Go.WideShapes Go.ChangeAt Go.RowKit
open Split (Pu lea paySum payM Keeps holdM backM amTo Pf propTo argTo leftM propM)
set_option linter.unusedVariables false
set_option linter.unusedSimpArgs false

theorem fl_new (w : World) : Fl (w.alloc (.cells #[.int .i64 0, .int .i64 0, .int .i64 0, .int .i64 0, .int .i64 0, .int .i64 0, .int .i64 0, .int .i64 0] 144)) w.heap.size (List.replicate 8 0) := ⟨rfl, heap_alloc_new _ _⟩

set_option maxHeartbeats 4000000 in
theorem payInProportion_any (P : Nat) (p : Pu) (M : Int) (o0 : List Int) (m0 m1 m2 m3 m4 m5 m6 m7 : Bool) (w : World) (h : PA w P p) (hk : Keeps M o0 p) :
    Calls Try.prog 96 #[.pointer (some ⟨P, 0, none⟩), .agg #[.bool m0, .bool m1, .bool m2, .bool m3, .bool m4, .bool m5, .bool m6, .bool m7]] w fun e w' => e = .returned (.tuple #[]) ∧ PA w' P (propM p [m0, m1, m2, m3, m4, m5, m6, m7]) ∧ w.grownBy w' (some P) := by
  have hPlt := h.lt
  have hmb := Split.amTo_bd hk [m0, m1, m2, m3, m4, m5, m6, m7] 8
  have hpb := hk.paid_le 0
  have hp0 := hk.pa 0
  have hh0 := hk.h0
  have ch : w.cell? ⟨P, 0, none⟩ = some (.int .i64 p.hand) := by
    obtain ⟨vh, hP, _⟩ := h
    exact hP.hand_cell
  have hA0 := h.grown (World.grownBy_alloc w (.cells #[.bool m0, .bool m1, .bool m2, .bool m3, .bool m4, .bool m5, .bool m6, .bool m7] 108) none) (by simp) (by simp)
  have hB0 := bl_box w m0 m1 m2 m3 m4 m5 m6 m7
  have hoa := owedAmong_any P p M o0 m0 m1 m2 m3 m4 m5 m6 m7 _ hA0 hk
  have hpm : propM p [m0, m1, m2, m3, m4, m5, m6, m7] = if p.hand < amTo p [m0, m1, m2, m3, m4, m5, m6, m7] 8 then leftM 8 (propTo p [m0, m1, m2, m3, m4, m5, m6, m7] p.hand (amTo p [m0, m1, m2, m3, m4, m5, m6, m7] 8) 8).p (propTo p [m0, m1, m2, m3, m4, m5, m6, m7] p.hand (amTo p [m0, m1, m2, m3, m4, m5, m6, m7] 8) 8).f else (propTo p [m0, m1, m2, m3, m4, m5, m6, m7] p.hand (amTo p [m0, m1, m2, m3, m4, m5, m6, m7] 8) 8).p := rfl
  have hkeep := Split.prop_keeps hk [m0, m1, m2, m3, m4, m5, m6, m7] p.hand (amTo p [m0, m1, m2, m3, m4, m5, m6, m7] 8) hh0
  rw [hpm]
  clear hpm
  obtain ⟨m, hme⟩ : ∃ m, p.hand = m := ⟨_, rfl⟩
  obtain ⟨t, hte⟩ : ∃ t, amTo p [m0, m1, m2, m3, m4, m5, m6, m7] 8 = t := ⟨_, rfl⟩
  rw [hme] at ch hh0 hkeep hpb
  rw [hte] at hmb hoa hkeep
  rw [hme, hte]
  have hm9 : m ≤ 1000000000 := by omega
  have HOA := hide hoa
  have HA0 := hide hA0
  have HB0 := hide hB0
  have HKP := hide hkeep
  clear hoa hA0 hB0 hkeep hme hte hpb hp0 hk h
  have c0 : w.heap.size < (w.alloc (.cells #[.bool m0, .bool m1, .bool m2, .bool m3, .bool m4, .bool m5, .bool m6, .bool m7] 108)).heap.size := by simp
  go_enter Try.func96, Try.ntmps96
  go_wp2_with fail
  refine (unhide HOA).mono ?_
  rintro e w1 ⟨rfl, g1⟩
  have hA1 := (unhide HA0).grown g1 (by simp) (by simp)
  have hB1 := (unhide HB0).grown g1 (by simp)
  have hG1 : w.grownBy w1 (some P) := grown_trans (World.grownBy_alloc _ _ _) ⟨g1.os, g1.tape, g1.output, g1.size, fun i hi _ => g1.block i hi (by simp)⟩
  have hz1 : w.heap.size < w1.heap.size := cell_lt hB1.2
  have HA1 := hide (hA1.grown (World.grownBy_alloc w1 (.cells #[.int .i64 0, .int .i64 0, .int .i64 0, .int .i64 0, .int .i64 0, .int .i64 0, .int .i64 0, .int .i64 0] 144) none) (by simp) (by simp))
  have HB1 := hide (hB1.grown (World.grownBy_alloc w1 (.cells #[.int .i64 0, .int .i64 0, .int .i64 0, .int .i64 0, .int .i64 0, .int .i64 0, .int .i64 0, .int .i64 0] 144) none) (by simp))
  have HF1 := hide (fl_new w1)
  have HG1 := hide (grown_trans hG1 (World.grownBy_alloc w1 (.cells #[.int .i64 0, .int .i64 0, .int .i64 0, .int .i64 0, .int .i64 0, .int .i64 0, .int .i64 0, .int .i64 0] 144) (some P)))
  clear g1 hA1 hB1 hG1 HA0 HB0 HOA c0 ch
  obtain ⟨am, hame⟩ : ∃ am, [m0, m1, m2, m3, m4, m5, m6, m7] = am := ⟨_, rfl⟩
  rw [hame] at HB1 HKP
  have HAM := hide hame
  clear hame
  go_wp2_with fail
  go_loopw [7] (fun ii wr => ∃ k : Nat, k ≤ 8 ∧ ii = .int .i64 k ∧ Hid (PA wr P (propTo p am m t k).p) ∧ Hid (Fl wr w1.heap.size (propTo p am m t k).f) ∧ Hid (Bl wr w.heap.size am) ∧ Hid (w.grownBy wr (some P))) (fun ii _ => 8 - (intOf ii).toNat)
  case atStart => exact ⟨0, by omega, rfl, HA1, HF1, HB1, HG1⟩
  case round =>
    obtain ⟨k, hk8, rfl, hq, hf, hb, hg⟩ := hrel
    clear HA1 HB1 HF1 HG1
    have hPw : P < wr.heap.size := (unhide hq).lt
    have hFw : w1.heap.size < wr.heap.size := cell_lt (unhide hf).2
    by_cases hlt : k < 8
    · have cb := (unhide hb).cell k hlt
      have hkk := unhide HKP k (by omega)
      have hn : propTo p am m t (k + 1) = (if am.getD k false then
        if t ≤ m then ⟨payM (propTo p am m t k).p k 1000000000, (propTo p am m t k).f⟩
        else ⟨payM (propTo p am m t k).p k (m * (propTo p am m t k).p.owed.getD k 0 / t), (propTo p am m t k).f.set k (m * (propTo p am m t k).p.owed.getD k 0 % t)⟩
      else propTo p am m t k) := rfl
      obtain ⟨s, hse⟩ : ∃ s, propTo p am m t k = s := ⟨_, rfl⟩
      rw [hse] at hq hf hkk hn
      have HK := hide hkk
      have HN := hide hn
      clear hse hn hkk
      cases ham : am.getD k false
      · rw [ham] at cb
        have hnx : Hid (propTo p am m t (k + 1) = s) := by
          show propTo p am m t (k + 1) = s
          rw [unhide HN, ham]; simp
        clear ham HN
        go_wp2_with fail
        go_roundw
        case rel => exact ⟨k + 1, by omega, by go_num, by rw [unhide hnx]; exact hq, by rw [unhide hnx]; exact hf, hb, hg⟩
        case measure => simp [intOf]; omega
      · rw [ham] at cb
        by_cases htm : t ≤ m
        · have hnx : Hid (propTo p am m t (k + 1) = ⟨payM s.p k 1000000000, s.f⟩) := by
            show propTo p am m t (k + 1) = _
            rw [unhide HN, ham, if_pos htm]; simp
          clear ham HN
          go_wp2_with fail
          refine (pay_any P s.p M o0 k _ (unhide hq) (unhide HK).1 hlt).mono ?_
          rintro e w2 ⟨rfl, h2, g2⟩
          have H2 := hide h2
          have F2 := hide ((unhide hf).grown g2 (by simp; omega))
          have B2 := hide ((unhide hb).grown g2 (by simp; omega))
          have G2 := hide (grown_trans (unhide hg) g2)
          clear h2 g2
          go_wp2_with fail
          go_roundw
          case rel => exact ⟨k + 1, by omega, by go_num, by rw [unhide hnx]; exact H2, by rw [unhide hnx]; exact F2, B2, G2⟩
          case measure => simp [intOf]; omega
        · have hnx : Hid (propTo p am m t (k + 1) = ⟨payM s.p k (m * s.p.owed.getD k 0 / t), s.f.set k (m * s.p.owed.getD k 0 % t)⟩) := by
            show propTo p am m t (k + 1) = _
            rw [unhide HN, ham, if_neg htm]; simp
          clear ham HN
          have co : wr.cell? ⟨P, 2 + k, none⟩ = some (.int .i64 (s.p.owed.getD k 0)) := by
            obtain ⟨vh, hP, _⟩ := unhide hq
            exact hP.owed_cell k hlt
          have ho1 := (unhide HK).1.ow k
          have ho2 := (unhide HK).1.owed_le k
          obtain ⟨o, hoe⟩ : ∃ o, s.p.owed.getD k 0 = o := ⟨_, rfl⟩
          rw [hoe] at co ho1 ho2 hnx
          clear hoe
          have hp1 : 0 ≤ m * o := Int.mul_nonneg hh0 ho1
          have hp2 : m * o ≤ m * 1000000000 := Int.mul_le_mul_of_nonneg_left ho2 hh0
          obtain ⟨pr, hpr⟩ : ∃ pr, m * o = pr := ⟨_, rfl⟩
          have hdv : 0 ≤ m * o / t ∧ m * o / t ≤ 1000000000 := by
            refine ⟨Int.ediv_nonneg hp1 (by omega), ?_⟩
            have : m * o ≤ 1000000000 * t := by
              have q1 : m * o ≤ t * o := Int.mul_le_mul_of_nonneg_right (by omega) ho1
              have q2 : t * o ≤ t * 1000000000 := Int.mul_le_mul_of_nonneg_left ho2 (by omega)
              rw [Int.mul_comm 1000000000 t]
              omega
            exact Int.ediv_le_of_le_mul (by omega) this
          have hmd : 0 ≤ m * o % t ∧ m * o % t ≤ 10000000000 := by
            have q1 := Int.emod_nonneg (m * o) (show t ≠ 0 by omega)
            have q2 := Int.emod_lt_of_pos (m * o) (show 0 < t by omega)
            omega
          have hw1 : wrap64 (m * o) = pr := by rw [← hpr]; exact IntWalk.wrap64_in _ (by omega)
          rw [hpr] at hp1 hp2 hdv hmd hnx
          have hw2 : wrap64 (pr.tdiv t) = pr / t := by rw [Int.tdiv_eq_ediv_of_nonneg hp1]; exact IntWalk.wrap64_in _ (by omega)
          have hw3 : pr.tmod t = pr % t := Int.tmod_eq_emod_of_nonneg hp1
          have HW := hide (And.intro hw1 (And.intro hw2 hw3))
          clear hw1 hw2 hw3
          have ht0 : (t == 0) = false := beq_eq_false_iff_ne.2 (by omega)
          have HPR := hide hpr
          clear hpr
          have cf := (unhide hf).cell k hlt
          have ff := (unhide hf).fr k
          go_wp2_with fail
          rw [(unhide HW).1, (unhide HW).2.1, (unhide HW).2.2]
          obtain ⟨dq, hdq⟩ : ∃ dq, pr / t = dq := ⟨_, rfl⟩
          obtain ⟨dr, hdr⟩ : ∃ dr, pr % t = dr := ⟨_, rfl⟩
          rw [hdq] at hdv hnx ⊢
          rw [hdr] at hmd hnx ⊢
          clear hdq hdr
          refine (payAtMost_any P s.p M o0 k dq _ ((unhide hq).setOther (unhide hf).2 (by decide) (by omega) k _) (unhide HK).1 hlt (by omega) (by omega)).mono ?_
          rintro e w2 ⟨rfl, h2, g2⟩
          have H2 := hide h2
          have F2 := hide (((unhide hf).set k dr).grown g2 (by simp; omega))
          have B2 := hide (((unhide hb).grown (grown_set (grown_refl _ _) k (.int .i64 dr)) (r := some w1.heap.size) (by simp; omega)).grown g2 (by simp; omega))
          have G2 := hide (grown_trans (grown_new (unhide hg) (p := ⟨w1.heap.size, k, none⟩) (by simp; omega) (.int .i64 dr)) g2)
          clear h2 g2
          go_wp2_with fail
          go_roundw
          case rel => exact ⟨k + 1, by omega, by go_num, by rw [unhide hnx]; exact H2, by rw [unhide hnx]; exact F2, B2, G2⟩
          case measure => simp [intOf]; omega
    · have : k = 8 := by omega
      subst this
      have hkk := unhide HKP 8 (by omega)
      obtain ⟨s, hse⟩ : ∃ s, propTo p am m t 8 = s := ⟨_, rfl⟩
      rw [hse] at hq hf hkk
      have HSE := hide hse
      clear hse
      by_cases hmt : m < t
      · have hf8 := (unhide hf).1
        obtain ⟨f0, f1, f2, f3, f4, f5, f6, f7, hfe⟩ : ∃ f0 f1 f2 f3 f4 f5 f6 f7, s.f = [f0, f1, f2, f3, f4, f5, f6, f7] := by
          generalize s.f = f at hf8
          match f, hf8 with
          | [f0, f1, f2, f3, f4, f5, f6, f7], _ => exact ⟨f0, f1, f2, f3, f4, f5, f6, f7, rfl⟩
        have hff := unhide hf
        rw [hfe] at hff
        have c0 := hff.cell 0 (by omega)
        have c1 := hff.cell 1 (by omega)
        have c2 := hff.cell 2 (by omega)
        have c3 := hff.cell 3 (by omega)
        have c4 := hff.cell 4 (by omega)
        have c5 := hff.cell 5 (by omega)
        have c6 := hff.cell 6 (by omega)
        have c7 := hff.cell 7 (by omega)
        simp at c0 c1 c2 c3 c4 c5 c6 c7
        have HFE := hide hfe
        have HKK := hide hkk
        clear hff hfe hkk
        go_wp2_with fail
        refine (payLeftOver_any P s.p M o0 f0 f1 f2 f3 f4 f5 f6 f7 _ (unhide hq) (unhide HKK).1).mono ?_
        rintro e w2 ⟨rfl, h2, g2⟩
        have H2 := hide h2
        have G2 := hide (grown_trans (unhide hg) g2)
        clear h2 g2
        go_wp2_with fail
        go_end0
        rw [unhide HAM, unhide HSE, unhide HFE]
        first
        | rw [if_pos hmt]
          exact ⟨rfl, unhide H2, unhide G2⟩
        | exact ⟨rfl, unhide H2, unhide G2⟩
      · go_wp2_with fail
        go_end0
        rw [unhide HAM, unhide HSE]
        first
        | rw [if_neg hmt]
          exact ⟨rfl, unhide hq, unhide hg⟩
        | exact ⟨rfl, unhide hq, unhide hg⟩
end Go.Proofs.Ytmdjdpofpkgffab

/- split's goThrough. -/
namespace Go.Proofs.Ytmdjdpofpkgffab
open Go.ChangeShapes Go.WideShapes Go.ChangeAt Go.RowKit
open Split (Pu lea paySum payM Keeps holdM backM amTo Pf propTo argTo leftM propM St SOk doM skipM execM)
set_option linter.unusedVariables false
set_option linter.unusedSimpArgs false

theorem flat_get : ∀ (ss : List St) (o j : Nat) (h : o < ss.length), j < 12 → (flat ss)[o * 12 + j]? = (stC (ss[o]))[j]?
  | [], o, j, h, _ => by simp at h
  | s :: ss, 0, j, h, hj => by
    show (stC s ++ flat ss)[0 * 12 + j]? = _
    rw [List.getElem?_append_left (by rw [stC_len]; omega), Nat.zero_mul, Nat.zero_add]
    rfl
  | s :: ss, o + 1, j, h, hj => by
    show (stC s ++ flat ss)[(o + 1) * 12 + j]? = _
    rw [List.getElem?_append_right (by rw [stC_len]; omega), stC_len, show (o + 1) * 12 + j - 12 = o * 12 + j by omega, flat_get ss o j (by simpa using h) hj]
    rfl

/-- The twelve cells of a step. -/
theorem step_cells {w : World} {base gs n cap o : Nat} {ss : List St} {k b a l : Int} {m0 m1 m2 m3 m4 m5 m6 m7 : Bool} (h : w.ownsRow base 110 12 (.slice (some ⟨gs, 0, none⟩) n cap) n (flat ss)) (hn : ss.length = n) (ho : o < ss.length) (hs : ss[o] = ⟨k, b, a, [m0, m1, m2, m3, m4, m5, m6, m7], l⟩) :
    w.cell? ⟨gs, o * 12, none⟩ = some (.int .u8 k) ∧ w.cell? ⟨gs, o * 12 + 1, none⟩ = some (.int .i64 b) ∧ w.cell? ⟨gs, o * 12 + 2, none⟩ = some (.int .i64 a) ∧ w.cell? ⟨gs, o * 12 + 3, none⟩ = some (.bool m0) ∧ w.cell? ⟨gs, o * 12 + 4, none⟩ = some (.bool m1) ∧ w.cell? ⟨gs, o * 12 + 5, none⟩ = some (.bool m2) ∧ w.cell? ⟨gs, o * 12 + 6, none⟩ = some (.bool m3) ∧ w.cell? ⟨gs, o * 12 + 7, none⟩ = some (.bool m4) ∧ w.cell? ⟨gs, o * 12 + 8, none⟩ = some (.bool m5) ∧ w.cell? ⟨gs, o * 12 + 9, none⟩ = some (.bool m6) ∧ w.cell? ⟨gs, o * 12 + 10, none⟩ = some (.bool m7) ∧ w.cell? ⟨gs, o * 12 + 11, none⟩ = some (.int .i64 l) := by
  have key : ∀ j, j < 12 → w.cell? ⟨gs, o * 12 + j, none⟩ = (stC ⟨k, b, a, [m0, m1, m2, m3, m4, m5, m6, m7], l⟩)[j]? := by
    intro j hj
    rw [h.cellAt _ (by omega), flat_get ss o j ho hj, hs]
  refine ⟨key 0 (by omega), key 1 (by omega), key 2 (by omega), key 3 (by omega), key 4 (by omega), key 5 (by omega), key 6 (by omega), key 7 (by omega), key 8 (by omega), key 9 (by omega), key 10 (by omega), key 11 (by omega)⟩

theorem exec_next (ss : List St) (f pc : Nat) (p : Pu) (h : pc < ss.length) : execM ss (f + 1) pc p = execM ss f (pc + 1 + skipM (ss[pc]) p) (doM (ss[pc]) p) := by
  simp only [execM, List.getElem?_eq_getElem h]
theorem exec_stop (ss : List St) (f pc : Nat) (p : Pu) (h : ¬ pc < ss.length) : execM ss f pc p = p := by
  cases f with
  | zero => rfl
  | succ f => simp only [execM, List.getElem?_eq_none (show ss.length ≤ pc by omega)]

set_option maxHeartbeats 8000000 in
theorem goThrough_any (P : Nat) (p0 : Pu) (M : Int) (o0 : List Int) (ss : List St) (base gs cap : Nat) (w : World) (h : PA w P p0) (hk : Keeps M o0 p0) (hh : p0.held = [])
    (hS : w.ownsRow base 110 12 (.slice (some ⟨gs, 0, none⟩) ss.length cap) ss.length (flat ss)) (hgs : gs < P) (hok : ∀ s ∈ ss, SOk s) (hl : ss.length ≤ 200) :
    Calls Try.prog 74 #[.pointer (some ⟨P, 0, none⟩), .slice (some ⟨gs, 0, none⟩) ss.length cap] w fun e w' => e = .returned (.tuple #[]) ∧ PA w' P (execM ss ss.length 0 p0) ∧ Below P w w' := by
  have HPA := hide h
  have HK := hide hk
  have HS := hide hS
  have HOK := hide hok
  have hcap : ss.length ≤ cap := by
    obtain ⟨a, c, e, hc, _⟩ := own_slice hS
    simp at e
    omega
  have HH := hide hh
  clear h hk hS hok hh
  go_enter Try.func74, Try.ntmps74
  go_wp2_with fail
  go_loopg [4, 5] ss.length (fun f at' _ wr => ∃ (pc : Nat) (p : Pu), pc ≤ 2000 ∧ ss.length - pc ≤ f ∧ at' = .int .i64 pc ∧ Hid (PA wr P p) ∧ Hid (Keeps M o0 p) ∧ Hid (p.held.length ≤ pc) ∧ Hid (execM ss ss.length 0 p0 = execM ss f pc p) ∧ Hid (Below P w wr))
  case atStart => exact ⟨0, p0, by omega, by omega, rfl, HPA, HK, by rw [unhide HH]; exact Nat.le_refl _, rfl, Below.refl _ _⟩
  case round =>
    obtain ⟨pc, p, hpc, hf, rfl, hp, hkp, hhl, hex, hb⟩ := hrel
    clear HPA HK HH
    have hPw : P < wr.heap.size := (unhide hp).lt
    by_cases hlt : pc < ss.length
    · obtain ⟨f', hf'⟩ : ∃ f', gk = f' + 1 := ⟨gk - 1, by omega⟩
      have hex' : Hid (execM ss ss.length 0 p0 = execM ss f' (pc + 1 + skipM (ss[pc]) p) (doM (ss[pc]) p)) := by
        have := unhide hex
        rw [hf', exec_next ss f' pc p hlt] at this
        exact this
      have hm : Hid (f' < gk ∧ ss.length - (pc + 1) ≤ f') := ⟨by omega, by omega⟩
      clear hf' hex hf
      have hso := unhide HOK _ (List.getElem_mem hlt)
      have hkd := Split.do_keeps (unhide hkp) hso
      have hhd := Split.do_held (ss[pc]) p
      obtain ⟨⟨kind, bucket, amount, among, leave⟩, hse⟩ : ∃ s, ss[pc] = s := ⟨_, rfl⟩
      rw [hse] at hex' hso hkd hhd
      obtain ⟨⟨b, hb8, hbe⟩, ha0, ha1, hah, ham, ⟨l, hl1, hle⟩⟩ := hso
      dsimp only at hbe ha0 ha1 hah ham hle
      subst hbe
      subst hle
      obtain ⟨m0, m1, m2, m3, m4, m5, m6, m7, hame⟩ : ∃ m0 m1 m2 m3 m4 m5 m6 m7, among = [m0, m1, m2, m3, m4, m5, m6, m7] := by
        match among, ham with
        | [m0, m1, m2, m3, m4, m5, m6, m7], _ => exact ⟨m0, m1, m2, m3, m4, m5, m6, m7, rfl⟩
      subst hame
      have hcells := step_cells (unhide HS) rfl hlt hse
      obtain ⟨d0, d1, d2, d3, d4, d5, d6, d7, d8, d9, d10, d11⟩ := hcells
      rw [← (unhide hb).cell (p := ⟨gs, _, none⟩) hgs] at d0 d1 d2 d3 d4 d5 d6 d7 d8 d9 d10 d11
      have hpn := hide ((unhide hp).grown (World.grownBy_alloc wr (.cells #[.int .u8 kind, .int .i64 (b : Nat), .int .i64 amount, .bool m0, .bool m1, .bool m2, .bool m3, .bool m4, .bool m5, .bool m6, .bool m7, .int .i64 (l : Nat)] 110) none) (by simp) (by simp))
      have hbn := hide ((unhide hb).alloc (by omega) (.cells #[.int .u8 kind, .int .i64 (b : Nat), .int .i64 amount, .bool m0, .bool m1, .bool m2, .bool m3, .bool m4, .bool m5, .bool m6, .bool m7, .int .i64 (l : Nat)] 110))
      have HKD := hide hkd
      have HHD := hide hhd
      clear hkd hhd ham hse
      by_cases k80 : kind = 80
      · subst k80
        have e1 : doM ⟨80, (b : Nat), amount, [m0, m1, m2, m3, m4, m5, m6, m7], (l : Nat)⟩ p = payM p b 1000000000 := by simp [doM]
        have e2 : skipM ⟨80, (b : Nat), amount, [m0, m1, m2, m3, m4, m5, m6, m7], (l : Nat)⟩ p = 0 := by simp [skipM]
        rw [e1] at hex' HKD HHD
        rw [e2] at hex'
        clear e1 e2
        go_wp2_with fail
        refine (pay_any P p M o0 b _ (unhide hpn) (unhide hkp) hb8).mono ?_
        rintro e w2 ⟨rfl, h2, g2⟩
        have H2 := hide h2
        have B2 := hide ((unhide hbn).trans (below_of_grown (B := P) g2 (by simp; omega) (fun k hk => by simp at hk; omega)))
        clear h2 g2
        go_wp2_with fail
        go_roundg f'
        case measure => exact (unhide hm).1
        case rel => exact ⟨pc + 1, payM p b 1000000000, by omega, (unhide hm).2, by go_num, H2, HKD, by have := unhide HHD; have := unhide hhl; show _ ≤ _; omega, hex', B2⟩
      by_cases k67 : kind = 67
      · subst k67
        have e1 : doM ⟨67, (b : Nat), amount, [m0, m1, m2, m3, m4, m5, m6, m7], (l : Nat)⟩ p = payM p b amount := by simp [doM]
        have e2 : skipM ⟨67, (b : Nat), amount, [m0, m1, m2, m3, m4, m5, m6, m7], (l : Nat)⟩ p = 0 := by simp [skipM]
        rw [e1] at hex' HKD HHD
        rw [e2] at hex'
        clear e1 e2
        go_wp2_with fail
        refine (payAtMost_any P p M o0 b amount _ (unhide hpn) (unhide hkp) hb8 ha0 (by omega)).mono ?_
        rintro e w2 ⟨rfl, h2, g2⟩
        have H2 := hide h2
        have B2 := hide ((unhide hbn).trans (below_of_grown (B := P) g2 (by simp; omega) (fun k hk => by simp at hk; omega)))
        clear h2 g2
        go_wp2_with fail
        go_roundg f'
        case measure => exact (unhide hm).1
        case rel => exact ⟨pc + 1, payM p b amount, by omega, (unhide hm).2, by go_num, H2, HKD, by have := unhide HHD; have := unhide hhl; show _ ≤ _; omega, hex', B2⟩
      by_cases k82 : kind = 82
      · subst k82
        have e1 : doM ⟨82, (b : Nat), amount, [m0, m1, m2, m3, m4, m5, m6, m7], (l : Nat)⟩ p = propM p [m0, m1, m2, m3, m4, m5, m6, m7] := by simp [doM]
        have e2 : skipM ⟨82, (b : Nat), amount, [m0, m1, m2, m3, m4, m5, m6, m7], (l : Nat)⟩ p = 0 := by simp [skipM]
        rw [e1] at hex' HKD HHD
        rw [e2] at hex'
        clear e1 e2
        go_wp2_with fail
        refine (payInProportion_any P p M o0 m0 m1 m2 m3 m4 m5 m6 m7 _ (unhide hpn) (unhide hkp)).mono ?_
        rintro e w2 ⟨rfl, h2, g2⟩
        have H2 := hide h2
        have B2 := hide ((unhide hbn).trans (below_of_grown (B := P) g2 (by simp; omega) (fun k hk => by simp at hk; omega)))
        clear h2 g2
        go_wp2_with fail
        go_roundg f'
        case measure => exact (unhide hm).1
        case rel => exact ⟨pc + 1, propM p [m0, m1, m2, m3, m4, m5, m6, m7], by omega, (unhide hm).2, by go_num, H2, HKD, by have := unhide HHD; have := unhide hhl; show _ ≤ _; omega, hex', B2⟩
      by_cases k72 : kind = 72
      · subst k72
        have h100 : amount ≤ 100 := hah rfl
        clear hah
        have e1 : doM ⟨72, (b : Nat), amount, [m0, m1, m2, m3, m4, m5, m6, m7], (l : Nat)⟩ p = holdM p amount := by simp [doM]
        have e2 : skipM ⟨72, (b : Nat), amount, [m0, m1, m2, m3, m4, m5, m6, m7], (l : Nat)⟩ p = 0 := by simp [skipM]
        rw [e1] at hex' HKD HHD
        rw [e2] at hex'
        clear e1 e2
        go_wp2_with fail
        refine (hold_any P p M o0 amount _ (unhide hpn) (unhide hkp) ha0 h100 (by have := unhide hhl; omega)).mono ?_
        rintro e w2 ⟨rfl, h2, g2⟩
        have H2 := hide h2
        have B2 := hide ((unhide hbn).trans g2)
        clear h2 g2
        go_wp2_with fail
        go_roundg f'
        case measure => exact (unhide hm).1
        case rel => exact ⟨pc + 1, holdM p amount, by omega, (unhide hm).2, by go_num, H2, HKD, by have := unhide HHD; have := unhide hhl; show _ ≤ _; omega, hex', B2⟩
      by_cases k69 : kind = 69
      · subst k69
        have e1 : doM ⟨69, (b : Nat), amount, [m0, m1, m2, m3, m4, m5, m6, m7], (l : Nat)⟩ p = backM p := by simp [doM]
        have e2 : skipM ⟨69, (b : Nat), amount, [m0, m1, m2, m3, m4, m5, m6, m7], (l : Nat)⟩ p = 0 := by simp [skipM]
        rw [e1] at hex' HKD HHD
        rw [e2] at hex'
        clear e1 e2
        go_wp2_with fail
        refine (takeBack_any P p M o0 _ (unhide hpn) (unhide hkp) (by have := unhide hhl; omega)).mono ?_
        rintro e w2 ⟨rfl, h2, g2⟩
        have H2 := hide h2
        have B2 := hide ((unhide hbn).trans g2)
        clear h2 g2
        go_wp2_with fail
        go_roundg f'
        case measure => exact (unhide hm).1
        case rel => exact ⟨pc + 1, backM p, by omega, (unhide hm).2, by go_num, H2, HKD, by have := unhide HHD; have := unhide hhl; show _ ≤ _; omega, hex', B2⟩
      by_cases k74 : kind = 74
      · subst k74
        have e1 : doM ⟨74, (b : Nat), amount, [m0, m1, m2, m3, m4, m5, m6, m7], (l : Nat)⟩ p = p := by simp [doM]
        have e2 : skipM ⟨74, (b : Nat), amount, [m0, m1, m2, m3, m4, m5, m6, m7], (l : Nat)⟩ p = l := by simp [skipM]
        rw [e1] at hex' HKD HHD
        rw [e2] at hex'
        clear e1 e2
        go_wp2_with fail
        go_roundg f'
        case measure => exact (unhide hm).1
        case rel => exact ⟨pc + 1 + l, p, by omega, by have := (unhide hm).2; omega, by go_num, hpn, HKD, by have := unhide hhl; show _ ≤ _; omega, hex', hbn⟩
      have co : wr.cell? ⟨P, 2 + b, none⟩ = some (.int .i64 (p.owed.getD b 0)) := by
        obtain ⟨vh, hP, _⟩ := unhide hp
        exact hP.owed_cell b hb8
      obtain ⟨x, hx⟩ : ∃ x, p.owed.getD b 0 = x := ⟨_, rfl⟩
      rw [hx] at co
      have HX := hide hx
      clear hx
      by_cases k73 : kind = 73
      · subst k73
        have e1 : doM ⟨73, (b : Nat), amount, [m0, m1, m2, m3, m4, m5, m6, m7], (l : Nat)⟩ p = p := by simp [doM]
        rw [e1] at hex' HKD HHD
        clear e1
        by_cases hle : x ≤ amount
        · have e2 : skipM ⟨73, (b : Nat), amount, [m0, m1, m2, m3, m4, m5, m6, m7], (l : Nat)⟩ p = l := by
            have := unhide HX
            simp only [skipM, Int.toNat_natCast, this]
            simp [hle]
          rw [e2] at hex'
          clear e2
          go_wp2_with fail
          go_quiet (fail)
          go_wp2_with fail
          go_roundg f'
          case measure => exact (unhide hm).1
          case rel => exact ⟨pc + 1 + l, p, by omega, by have := (unhide hm).2; omega, by go_num, (unhide hpn).drewN _, HKD, by have := unhide hhl; show _ ≤ _; omega, hex', below_drewN (unhide hbn) _⟩
        · have e2 : skipM ⟨73, (b : Nat), amount, [m0, m1, m2, m3, m4, m5, m6, m7], (l : Nat)⟩ p = 0 := by
            have := unhide HX
            simp only [skipM, Int.toNat_natCast, this]
            simp [hle]
          rw [e2] at hex'
          clear e2
          go_wp2_with fail
          go_quiet (fail)
          go_wp2_with fail
          go_roundg f'
          case measure => exact (unhide hm).1
          case rel => exact ⟨pc + 1, p, by omega, (unhide hm).2, by go_num, (unhide hpn).drewN _, HKD, by have := unhide hhl; show _ ≤ _; omega, hex', below_drewN (unhide hbn) _⟩
      · have e1 : doM ⟨kind, (b : Nat), amount, [m0, m1, m2, m3, m4, m5, m6, m7], (l : Nat)⟩ p = p := by simp [doM, k80, k67, k82, k72, k69]
        have e2 : skipM ⟨kind, (b : Nat), amount, [m0, m1, m2, m3, m4, m5, m6, m7], (l : Nat)⟩ p = 0 := by simp [skipM, k74, k73]
        rw [e1] at hex' HKD HHD
        rw [e2] at hex'
        have q1 : (kind == 80) = false := beq_eq_false_iff_ne.2 k80
        have q2 : (kind == 67) = false := beq_eq_false_iff_ne.2 k67
        have q3 : (kind == 82) = false := beq_eq_false_iff_ne.2 k82
        have q4 : (kind == 72) = false := beq_eq_false_iff_ne.2 k72
        have q5 : (kind == 69) = false := beq_eq_false_iff_ne.2 k69
        have q6 : (kind == 74) = false := beq_eq_false_iff_ne.2 k74
        have q7 : (kind == 73) = false := beq_eq_false_iff_ne.2 k73
        clear e1 e2 k80 k67 k82 k72 k69 k74 k73 hah
        go_wp2_with fail
        go_roundg f'
        case measure => exact (unhide hm).1
        case rel => exact ⟨pc + 1, p, by omega, (unhide hm).2, by go_num, hpn, HKD, by have := unhide hhl; show _ ≤ _; omega, hex', hbn⟩
    · have hfin : Hid (execM ss ss.length 0 p0 = p) := (unhide hex).trans (exec_stop ss gk pc p hlt)
      go_wp2_with fail
      go_end0
      rw [unhide hfin]
      exact ⟨rfl, unhide hp, unhide hb⟩
end Go.Proofs.Ytmdjdpofpkgffab
