/- ThenWalk: ThenLaw, LeftW, ThenWalk -/
import Derived.Test.YtmdjdpofpkgffaaPartLaw

/- Then: the plain part. -/
namespace Go.Proofs.Ytmdjdpofpkgffaa
open Go.ChangeShapes Go.WideShapes Go.ChangeAt Go.RowKit
open Split (Pu Keeps payM byt byt_lt byt_ge headM doM numM digM bucM none8 scanF bodyM holdM backM)
set_option linter.unusedVariables false
set_option linter.unusedSimpArgs false

/-- A policy opens with no bucket. -/
theorem opens {t : ByteArray} (hc : checkE t = 0) : Split.buc (byt t 0) = false := by
  obtain ⟨h1, h2, h3⟩ := own_read hc
  by_cases h0 : 0 < t.size
  · by_cases h41 : byt t 0 = 41
    · rw [h41]; rfl
    · have ho := (step_places (Nat.zero_le _) h2 ⟨h0, h41⟩).2.2.2.2.1
      cases hb : Split.buc (byt t 0)
      · rfl
      · exfalso
        rw [Split.buc_t] at hb
        have : headM t 0 = (0, 0, false) := by
          unfold Split.headM
          rw [if_neg (by omega), if_neg (by omega), if_neg (by omega), if_neg (by omega)]
        rw [this] at ho
        simp at ho
  · rw [byt_ge h0]; rfl

theorem then_sem {s t : ByteArray} (hT : checkE (s ++ t) = 0) (hs : checkE s = 0) (ht : checkE t = 0) (p : Pu) : semF (s ++ t) 0 p = semF t 0 (semF s 0 p) := by
  obtain ⟨T1, T2, T3⟩ := own_read hT
  obtain ⟨s1, s2, s3⟩ := own_read hs
  obtain ⟨t1, t2, t3⟩ := own_read ht
  have hz : (s ++ t).size = s.size + t.size := ByteArray.size_append
  have hE : Emb (s ++ t) s 0 := by
    refine ⟨by omega, fun k hk => ?_, ?_⟩
    · rw [Nat.zero_add, byt_app, if_pos hk]
    · rw [Nat.zero_add, byt_app, if_neg (by omega), Nat.sub_self]
      exact opens ht
  have hF : Emb (s ++ t) t s.size := by
    refine ⟨by omega, fun k hk => ?_, ?_⟩
    · rw [byt_app, if_neg (by omega), show s.size + k - s.size = k by omega]
    · rw [byt_ge (by omega)]; rfl
  obtain ⟨i1, _, i3⟩ := emb_sem hE s.size 0 (by omega) (Nat.zero_le _) s2 T2
  rw [s3, Nat.zero_add] at i1
  obtain ⟨j1, _, j3⟩ := emb_sem hF t.size 0 (by omega) (Nat.zero_le _) t2 i1
  have e1 := i3 p
  have e2 := j3 (semF s 0 p)
  rw [s3] at e1
  rw [t3, semF_stop (i := s.size + t.size) (by omega)] at e2
  simp only [Nat.zero_add, Nat.add_zero] at e1 e2
  rw [e1, e2]

theorem bad_none {l : List Int} (h8 : l.length = 8) (h : ∀ i, 0 ≤ l.getD i 0 ∧ l.getD i 0 ≤ 1000000000) : ¬ badAt l < 8 := by
  have : badAt l = l.length := by
    unfold badAt
    rw [List.findIdx_eq_length]
    intro x hx
    obtain ⟨i, hi, rfl⟩ := List.getElem_of_mem hx
    have := h i
    rw [List.getD_eq_getElem?_getD, List.getElem?_eq_getElem hi] at this
    simp only [Bool.not_eq_eq_eq_not, Bool.not_false]
    exact amt_t.2 this
  omega

/-- What is left behind a policy may be owed, and paid. -/
theorem given_left {s : ByteArray} {zs : List Int} {m : Int} (hs : checkE s = 0) (hg : givenE zs m = 0) : givenE (shrM s zs m).owed (shrM s zs m).hand = 0 := by
  obtain ⟨hk, _⟩ := shr_keeps hs hg
  have h1 := hk.paid_le 0
  have h2 := hk.pa 0
  have h3 := hk.h0
  unfold givenE
  rw [if_pos hk.lo, if_neg (bad_none hk.lo fun i => ⟨hk.ow i, hk.owed_le i⟩), if_pos (amt_t.2 ⟨h3, by omega⟩)]

theorem then_pays {s t : ByteArray} {zs : List Int} {m : Int} (hT : checkE (s ++ t) = 0) (hs : checkE s = 0) (ht : checkE t = 0) (hg : givenE zs m = 0) :
    (shrM (s ++ t) zs m).hand = (shrM t (shrM s zs m).owed (shrM s zs m).hand).hand ∧
    ∀ i, i < 8 → (shrM (s ++ t) zs m).paid.getD i 0 = (shrM s zs m).paid.getD i 0 + (shrM t (shrM s zs m).owed (shrM s zs m).hand).paid.getD i 0 := by
  obtain ⟨hk, _⟩ := shr_keeps hs hg
  have ht2 := (own_read ht).2.1
  rw [shr_sem hT, then_sem hT hs ht, ← shr_sem hs, shr_sem ht]
  generalize shrM s zs m = q at hk ⊢
  have hpe : Peer q.paid q (pu0 q.owed q.hand) := by
    refine ⟨rfl, rfl, hk.lp, by simp [pu0], fun i hi => ?_⟩
    have : (pu0 q.owed q.hand).paid.getD i 0 = 0 := by
      show (List.replicate 8 (0 : Int)).getD i 0 = 0
      rw [List.getD_eq_getElem?_getD, List.getElem?_replicate, if_pos hi]
      rfl
    omega
  have hL := sem_like (t.size + 1) 0 _ _ (Nat.zero_le _) ht2 hpe
  refine ⟨hL.hand, fun i hi => ?_⟩
  have := hL.paid i hi
  unfold semF
  omega
end Go.Proofs.Ytmdjdpofpkgffaa

/- left, by its contract. -/
namespace Go.Proofs.Ytmdjdpofpkgffaa
open Go.ChangeShapes Go.WideShapes Go.ChangeAt Go.RowKit
open Split (Pu Keeps)
set_option linter.unusedVariables false
set_option linter.unusedSimpArgs false

/-- k of eight numbers are made less. -/
def lessZ (zs L : List Int) (k : Nat) : List Int := (List.range 8).map fun j => if j < k then zs.getD j 0 - L.getD j 0 else zs.getD j 0

theorem lessZ_len (zs L : List Int) (k : Nat) : (lessZ zs L k).length = 8 := by simp [lessZ]
theorem lessZ_get (zs L : List Int) (k j : Nat) (hj : j < 8) : (lessZ zs L k).getD j 0 = if j < k then zs.getD j 0 - L.getD j 0 else zs.getD j 0 := by
  simp only [lessZ, List.getD_eq_getElem?_getD, List.getElem?_map]
  rw [List.getElem?_range hj]
  rfl
theorem list_ext8 {l l' : List Int} (h : l.length = 8) (h' : l'.length = 8) (he : ∀ i, i < 8 → l.getD i 0 = l'.getD i 0) : l = l' := by
  apply List.ext_getElem (by omega)
  intro i h1 h2
  have := he i (by omega)
  simpa [List.getD_eq_getElem?_getD, List.getElem?_eq_getElem h1, List.getElem?_eq_getElem h2] using this
theorem lessZ_zero {zs L : List Int} (hz : zs.length = 8) : lessZ zs L 0 = zs := by
  refine list_ext8 (lessZ_len _ _ _) hz fun i hi => ?_
  rw [lessZ_get _ _ _ _ hi, if_neg (by omega)]
theorem lessZ_set (zs L : List Int) (k : Nat) (hk : k < 8) : (lessZ zs L k).set k (zs.getD k 0 - L.getD k 0) = lessZ zs L (k + 1) := by
  refine list_ext8 (by rw [List.length_set, lessZ_len]) (lessZ_len _ _ _) fun i hi => ?_
  rw [lessZ_get _ _ _ _ hi, List.getD_eq_getElem?_getD, List.getElem?_set]
  by_cases h : k = i
  · subst h
    rw [if_pos rfl, lessZ_len, if_pos hk, if_pos (by omega)]
    rfl
  · rw [if_neg h, ← List.getD_eq_getElem?_getD, lessZ_get _ _ _ _ hi]
    by_cases h2 : i < k
    · rw [if_pos h2, if_pos (by omega)]
    · rw [if_neg h2, if_neg (by omega)]

theorem own_below {w w' : World} {base tag n k : Nat} {g cap : Nat} {L : List Value} {B : Nat} (h : w.ownsRow base tag k (.slice (some ⟨g, 0, none⟩) n cap) n L) (hb : Below B w w') (hg : g < B) : w'.ownsRow base tag k (.slice (some ⟨g, 0, none⟩) n cap) n L := by
  refine ⟨h.1, ?_⟩
  rcases h.2 with ⟨q, _⟩ | ⟨g', cap', cur, q, q1, q2, q3⟩
  · simp at q
  · simp only [Value.slice.injEq, Option.some.injEq, Addr.mk.injEq, and_true, true_and] at q
    obtain ⟨rfl, rfl⟩ := q
    exact .inr ⟨g, cap, cur, rfl, q1, by rw [hb.block g hg]; exact q2, q3⟩

set_option maxHeartbeats 4000000 in
theorem left_any (a : Option Addr) (cap : Nat) (zs : List Int) (w : World) (h : Ints w a 8 zs) (a' : Option Addr) (c : Nat) (L : List Int) (R : Int) (hL : Ints w a' 8 L) (h0 : ∀ i, 0 ≤ L.getD i 0) (h1 : ∀ i, L.getD i 0 ≤ zs.getD i 0) (h2 : ∀ i, zs.getD i 0 ≤ 1000000000) :
    Calls Try.prog 31 #[.slice a 8 cap, .agg #[.slice a' 8 c, .int .i64 R, .bool true]] w fun e w' => ∃ g : Nat, e = .returned (.slice (some ⟨g, 0, none⟩) 8 8) ∧ w.heap.size ≤ g ∧ Ints w' (some ⟨g, 0, none⟩) 8 (lessZ zs L 8) ∧ Below w.heap.size w w' := by
  obtain ⟨b1, o1, rfl, hc1⟩ := hL.2 (by omega)
  have hb1 : b1 < w.heap.size := cell_blk (hc1 0 (by omega))
  have hz8 := h.1
  have HI := hide h
  have HC1 := hide hc1
  have H0 := hide h0
  have H1 := hide h1
  have H2 := hide h2
  clear hL hc1 h0 h1 h2 h
  obtain ⟨W, hW⟩ : ∃ W, w.alloc (.cells #[.slice (some ⟨b1, o1, none⟩) 8 c, .int .i64 R, .bool true] 38) = W := ⟨_, rfl⟩
  have HBW : Hid (Below w.heap.size w W) := by
    show Below w.heap.size w W
    rw [← hW]; exact (Below.refl _ _).alloc (Nat.le_refl _) _
  have hrow : W.heap[w.heap.size]? = some (.cells #[.slice (some ⟨b1, o1, none⟩) 8 c, .int .i64 R, .bool true] 38 (0, 0)) := by rw [← hW]; exact heap_alloc_new _ _
  have HROW := hide hrow
  clear hrow
  have HW := hide hW
  clear hW
  go_enter Try.func31, Try.ntmps31
  go_wp2_with fail
  rw [unhide HW]
  refine (copied_own a 8 cap zs _ ((unhide HI).below (unhide HBW)) (by omega)).mono ?_
  rintro e w1 ⟨rfl, hown, hbw1, hlt1⟩
  have hlW : w.heap.size < W.heap.size := cell_lt (unhide HROW)
  obtain ⟨g, hg⟩ : ∃ g, W.heap.size = g := ⟨_, rfl⟩
  rw [hg] at hown hbw1 hlW ⊢
  have HOWN := hide hown
  have HB1 := hide ((unhide HBW).trans (hbw1.mono (Nat.le_of_lt hlW)))
  have HROW1 : Hid (w1.heap[w.heap.size]? = some (.cells #[.slice (some ⟨b1, o1, none⟩) 8 c, .int .i64 R, .bool true] 38 (0, 0))) := (hbw1.block _ hlW).trans (unhide HROW)
  clear hown hbw1 hlt1 hg HROW HW HBW
  go_wp2_with fail
  go_loopw [6] (fun ii wr => ∃ k : Nat, k ≤ 8 ∧ ii = .int .i64 k ∧ Hid (wr.ownsRow g 3 1 (.slice (some ⟨g, 0, none⟩) 8 8) 8 ((lessZ zs L k).map (Value.int .i64))) ∧ Hid (Below w.heap.size w wr) ∧ Hid (wr.heap[w.heap.size]? = some (.cells #[.slice (some ⟨b1, o1, none⟩) 8 c, .int .i64 R, .bool true] 38 (0, 0)))) (fun ii _ => 8 - (intOf ii).toNat)
  case atStart => exact ⟨0, by omega, rfl, by rw [lessZ_zero hz8]; exact HOWN, HB1, HROW1⟩
  case round =>
    obtain ⟨k, hk, rfl, ho, hb, hr⟩ := hrel
    clear HOWN HB1 HROW1
    have p0 := cell_of_row wr w.heap.size 0 _ _ _ (unhide hr)
    simp at p0
    by_cases hlt : k < 8
    · have cx : wr.cell? ⟨b1, o1 + k, none⟩ = some (.int .i64 (L.getD k 0)) := ((unhide hb).cell (p := ⟨b1, o1 + k, none⟩) hb1).trans (unhide HC1 k hlt)
      have cy : wr.cell? ⟨g, k, none⟩ = some (.int .i64 (zs.getD k 0)) := by
        rw [(unhide ho).cellAt k (by omega), List.getElem?_map, List.getElem?_eq_getElem (by rw [lessZ_len]; exact hlt)]
        have := lessZ_get zs L k k hlt
        rw [if_neg (by omega), List.getD_eq_getElem?_getD, List.getElem?_eq_getElem (by rw [lessZ_len]; exact hlt)] at this
        simp at this ⊢
        exact this
      have hfr := (unhide ho).frozenAt k
      have hx0 := unhide H0 k
      have hxy := unhide H1 k
      have hy2 := unhide H2 k
      have hst := (unhide ho).stored k (.int .i64 (zs.getD k 0 - L.getD k 0))
      have R2 : Hid ((wr.setCell ⟨g, k, none⟩ (.int .i64 (zs.getD k 0 - L.getD k 0))).ownsRow g 3 1 (.slice (some ⟨g, 0, none⟩) 8 8) 8 ((lessZ zs L (k + 1)).map (Value.int .i64))) := by
        have := hst.1
        rw [← List.map_set, lessZ_set _ _ _ hlt] at this
        exact this
      obtain ⟨x, hx⟩ : ∃ x, L.getD k 0 = x := ⟨_, rfl⟩
      obtain ⟨y, hy⟩ : ∃ y, zs.getD k 0 = y := ⟨_, rfl⟩
      rw [hx, hy] at R2
      rw [hx] at cx hx0 hxy
      rw [hy] at cy hxy hy2
      clear hx hy hst
      have R3 : Hid (Below w.heap.size w (wr.setCell ⟨g, k, none⟩ (.int .i64 (y - x)))) := (unhide hb).setCell (p := ⟨g, k, none⟩) (Nat.le_of_lt hlW) _
      have R4 : Hid ((wr.setCell ⟨g, k, none⟩ (.int .i64 (y - x))).heap[w.heap.size]? = some (.cells #[.slice (some ⟨b1, o1, none⟩) 8 c, .int .i64 R, .bool true] 38 (0, 0))) := by
        show _ = _
        rw [Below.heap_setCell _ _ _ _ (by show w.heap.size ≠ g; omega)]
        exact unhide hr
      have hwr : IntKind.i64.wrap (y - x) = y - x := wrap_big (by omega) (by omega)
      go_wp2_with fail
      go_region
      go_wp2_with fail
      go_roundw
      case rel => exact ⟨k + 1, by omega, by go_num, World.ownsRow.drew (unhide R2), Below.drew (unhide R3), R4⟩
      case measure => simp [intOf]; omega
    · have hk8 : k = 8 := by omega
      subst hk8
      go_wp2
      go_ret
      exact ⟨g, rfl, Nat.le_of_lt hlW, ints_of_own (unhide ho), unhide hb⟩
end Go.Proofs.Ytmdjdpofpkgffaa

/- Then: the walk. -/
namespace Go.Proofs.Ytmdjdpofpkgffaa
open Go.ChangeShapes Go.WideShapes Go.ChangeAt Go.RowKit
open Split (Pu Keeps)
set_option linter.unusedVariables false
set_option linter.unusedSimpArgs false

theorem less_owed {M : Int} {zs : List Int} {q : Pu} (hz : zs.length = 8) (h : Keeps M zs q) : lessZ zs q.paid 8 = q.owed := by
  refine list_ext8 (lessZ_len _ _ _) h.lo fun i hi => ?_
  rw [lessZ_get _ _ _ _ hi, if_pos hi]
  have := h.tot i
  omega

set_option maxRecDepth 100000 in
set_option maxHeartbeats 8000000 in
theorem then_walk (s t : ByteArray) (a : Option Addr) (len cap : Nat) (zs : List Int) (m : Int) (w : World) (hs : s.size ≤ 140737488351232) (ht : t.size ≤ 140737488351232) (h : Ints w a len zs) (hwf : ∀ n ∈ zs, (Lit.int .i64 n).wf = true) (hr : len * 8 ≤ 140737488351232) (hm : (Lit.int .i64 m).wf = true) :
    Calls Try.prog 9 #[.string s, .string t, .slice a len cap, .int .i64 m] w fun e w' => e = .returned (.bool true) ∧ Below w.heap.size w w' := by
  have HI := hide h
  clear h hwf hm
  obtain ⟨T, x1⟩ : ∃ X, s ++ t = X := ⟨_, rfl⟩
  have y1 : T.size = s.size + t.size := by rw [← x1, ByteArray.size_append]
  have hTz : T.size ≤ 1000000000000000 := by omega
  have hsz : s.size ≤ 1000000000000000 := by omega
  have htz : t.size ≤ 1000000000000000 := by omega
  obtain ⟨fs, hfs⟩ : ∃ b, (checkE s == 0 && givenE zs m == 0) = b := ⟨_, rfl⟩
  obtain ⟨fu, hfu⟩ : ∃ b, (checkE t == 0 && givenE zs m == 0) = b := ⟨_, rfl⟩
  obtain ⟨fT, hfT⟩ : ∃ b, (checkE T == 0 && givenE zs m == 0) = b := ⟨_, rfl⟩
  have HFS := hide hfs
  have HFU := hide hfu
  have HFT := hide hfT
  clear hfs hfu hfT
  by_cases hall : fs = true ∧ fu = true ∧ fT = true
  · obtain ⟨rfl, rfl, rfl⟩ := hall
    have hcs : checkE s = 0 := by have := unhide HFS; simp at this; exact this.1
    have hcu : checkE t = 0 := by have := unhide HFU; simp at this; exact this.1
    have hcT : checkE T = 0 := by have := unhide HFT; simp at this; exact this.1
    have hg : givenE zs m = 0 := by have := unhide HFS; simp at this; exact this.2
    obtain ⟨hz8, hzb, hm0, hm9⟩ := given_ok hg
    have h8 : len = 8 := by rw [← (unhide HI).1, hz8]
    subst h8
    have hpays := then_pays (s := s) (t := t) (zs := zs) (m := m) (by rw [x1]; exact hcT) hcs hcu hg
    rw [x1] at hpays
    have hgl := given_left hcs hg
    obtain ⟨k1, _⟩ := shr_keeps hcs hg
    obtain ⟨k3, _⟩ := shr_keeps hcT hg
    obtain ⟨k2, _⟩ := shr_keeps hcu hgl
    obtain ⟨e1, l1, r1, n1⟩ := sh_fit hcs hg
    obtain ⟨e3, l3, r3, n3⟩ := sh_fit hcT hg
    obtain ⟨e2, l2, r2, n2⟩ := sh_fit hcu hgl
    have SS := share_any s zs m hsz
    have ST := share_any T zs m hTz
    have SU := share_any t (shrM s zs m).owed (shrM s zs m).hand htz
    rw [l1, r1, e1] at SS
    rw [l3, r3, e3] at ST
    rw [l2, r2, e2] at SU
    generalize shP s zs m = p1 at SS
    generalize shP T zs m = p3 at ST
    generalize shP t (shrM s zs m).owed (shrM s zs m).hand = p2 at SU
    have hle := less_owed hz8 k1
    generalize shrM T zs m = q3 at *
    generalize shrM t (shrM s zs m).owed (shrM s zs m).hand = q2 at *
    generalize shrM s zs m = q1 at *
    have HSS := hide SS
    have HST := hide ST
    have HSU := hide SU
    have K1 := hide k1
    have K2 := hide k2
    have K3 := hide k3
    have HP := hide hpays
    have HLE := hide hle
    have N1 := hide n1
    have N2 := hide n2
    have N3 := hide n3
    have HZB := hide hzb
    clear SS ST SU k1 k2 k3 hpays hle n1 n2 n3 hcs hcu hcT hg hgl e1 l1 r1 e2 l2 r2 e3 l3 r3 hz8 hzb
    go_enter Try.func9, Try.ntmps9
    go_wp2_with fail
    refine (fit_any s a 8 cap zs m _ hsz (unhide HI) hr).mono ?_
    rintro e w1 ⟨rfl, n1, hw1⟩
    rw [unhide HFS]
    have B1 : Hid (Below w.heap.size w w1) := by
      show Below w.heap.size w w1
      rw [hw1]; exact below_drewN (Below.refl _ _) _
    clear hw1
    go_wp2_with fail
    refine (fit_any t a 8 cap zs m _ htz ((unhide HI).below (unhide B1)) hr).mono ?_
    rintro e w2 ⟨rfl, n2, hw2⟩
    rw [unhide HFU]
    have B2 : Hid (Below w.heap.size w w2) := by
      show Below w.heap.size w w2
      rw [hw2]; exact below_drewN (unhide B1) _
    clear hw2 B1
    go_wp2_with fail
    refine (fit_any T a 8 cap zs m _ hTz ((unhide HI).below (unhide B2)) hr).mono ?_
    rintro e w3 ⟨rfl, n3, hw3⟩
    rw [unhide HFT]
    have B3 : Hid (Below w.heap.size w w3) := by
      show Below w.heap.size w w3
      rw [hw3]; exact below_drewN (unhide B2) _
    clear hw3 B2
    go_wp2_with fail
    refine (lshare_of s zs m _ _ _ _ (unhide HSS) _ _ _ _ ((unhide HI).below (unhide B3)) hr).mono ?_
    rintro e w4 ⟨a4, n4, c4, rfl, hi4, hb4⟩
    have hn4 : n4 = 8 := by rw [← hi4.1]; exact unhide N1
    subst hn4
    have I4 := hide hi4
    have B4 := hide (below_step (unhide B3) hb4)
    clear hi4 hb4 B3 HSS
    go_wp2_with fail
    obtain ⟨W4, hW4⟩ : ∃ W, w4.alloc (.cells #[.slice a4 8 c4, .int .i64 q1.hand, .bool true] 38) = W := ⟨_, rfl⟩
    have hr4 : W4.heap[w4.heap.size]? = some (.cells #[.slice a4 8 c4, .int .i64 q1.hand, .bool true] 38 (0, 0)) := by rw [← hW4]; exact heap_alloc_new _ _
    have hb4 : Below w4.heap.size w4 W4 := by rw [← hW4]; exact (Below.refl _ _).alloc (Nat.le_refl _) _
    rw [hW4]
    have J4 := hide ((unhide I4).below hb4)
    have C4 := hide (below_step (unhide B4) hb4)
    clear hW4 I4 B4 hb4
    obtain ⟨g4, hg4⟩ : ∃ g, w4.heap.size = g := ⟨_, rfl⟩
    rw [hg4] at hr4 ⊢
    clear hg4
    have R4 := hide hr4
    have p0 := cell_of_row W4 g4 0 _ _ _ hr4
    have p1 := cell_of_row W4 g4 1 _ _ _ hr4
    have p2 := cell_of_row W4 g4 2 _ _ _ hr4
    have hg4 : g4 < W4.heap.size := cell_lt hr4
    simp at p0 p1 p2
    clear hr4
    go_wp2_with fail
    refine (left_any a cap zs _ ((unhide HI).below (unhide C4)) a4 c4 q1.paid q1.hand (unhide J4) (unhide K1).pa (fun i => by have h1 := (unhide K1).tot i; have h2 := (unhide K1).ow i; omega) (fun i => (unhide HZB i).2)).mono ?_
    rintro e w5 ⟨g5, rfl, hg5, hi5, hb5⟩
    rw [unhide HLE] at hi5
    have I5 := hide hi5
    have J5 := hide ((unhide J4).below hb5)
    have C5 := hide (below_step (unhide C4) hb5)
    have R5 := hide ((hb5.block g4 (cell_lt (unhide R4))).trans (unhide R4))
    clear hi5 hb5 hg5 J4 C4 R4 p0 p1 p2 hg4
    have p0 := cell_of_row w5 g4 0 _ _ _ (unhide R5)
    have p1 := cell_of_row w5 g4 1 _ _ _ (unhide R5)
    have p2 := cell_of_row w5 g4 2 _ _ _ (unhide R5)
    simp at p0 p1 p2
    go_wp2_with fail
    refine (lshare_of t q1.owed q1.hand _ _ _ _ (unhide HSU) _ _ _ _ (unhide I5) (by omega)).mono ?_
    rintro e w6 ⟨a6, n6, c6, rfl, hi6, hb6⟩
    have hn6 : n6 = 8 := by rw [← hi6.1]; exact unhide N2
    subst hn6
    have I6 := hide hi6
    have J6 := hide ((unhide J5).below hb6)
    have C6 := hide (below_step (unhide C5) hb6)
    have R6 := hide ((hb6.block g4 (cell_lt (unhide R5))).trans (unhide R5))
    clear hi6 hb6 J5 C5 R5 p0 p1 p2 I5 HSU
    go_wp2_with fail
    obtain ⟨W6, hW6⟩ : ∃ W, w6.alloc (.cells #[.slice a6 8 c6, .int .i64 q2.hand, .bool true] 38) = W := ⟨_, rfl⟩
    have hr6 : W6.heap[w6.heap.size]? = some (.cells #[.slice a6 8 c6, .int .i64 q2.hand, .bool true] 38 (0, 0)) := by rw [← hW6]; exact heap_alloc_new _ _
    have hb6 : Below w6.heap.size w6 W6 := by rw [← hW6]; exact (Below.refl _ _).alloc (Nat.le_refl _) _
    rw [hW6]
    have I7 := hide ((unhide I6).below hb6)
    have J7 := hide ((unhide J6).below hb6)
    have C7 := hide (below_step (unhide C6) hb6)
    have R7 := hide ((hb6.block g4 (cell_lt (unhide R6))).trans (unhide R6))
    clear hW6 I6 J6 C6 R6 hb6
    obtain ⟨g6, hg6⟩ : ∃ g, w6.heap.size = g := ⟨_, rfl⟩
    rw [hg6] at hr6 ⊢
    clear hg6
    have Q7 := hide hr6
    clear hr6
    refine (lshare_of T zs m _ _ _ _ (unhide HST) _ _ _ _ ((unhide HI).below (unhide C7)) hr).mono ?_
    rintro e w8 ⟨a8, n8, c8, rfl, hi8, hb8⟩
    have hn8 : n8 = 8 := by rw [← hi8.1]; exact unhide N3
    subst hn8
    have L8 := hide hi8
    have I8 := hide ((unhide I7).below hb8)
    have J8 := hide ((unhide J7).below hb8)
    have C8 := hide (below_step (unhide C7) hb8)
    have R8 := hide ((hb8.block g4 (cell_lt (unhide R7))).trans (unhide R7))
    have Q8 := hide ((hb8.block g6 (cell_lt (unhide Q7))).trans (unhide Q7))
    clear hi8 hb8 I7 J7 C7 R7 Q7 HST
    have q2c := cell_of_row w8 g6 2 _ _ _ (unhide Q8)
    simp at q2c
    have hg6 : g6 < w8.heap.size := cell_lt (unhide Q8)
    go_wp2_with fail
    clear q2c hg6
    obtain ⟨W8, hW8⟩ : ∃ W, w8.alloc (.cells #[.slice a8 8 c8, .int .i64 q3.hand, .bool true] 38) = W := ⟨_, rfl⟩
    have hr8 : W8.heap[w8.heap.size]? = some (.cells #[.slice a8 8 c8, .int .i64 q3.hand, .bool true] 38 (0, 0)) := by rw [← hW8]; exact heap_alloc_new _ _
    have hb8 : Below w8.heap.size w8 W8 := by rw [← hW8]; exact (Below.refl _ _).alloc (Nat.le_refl _) _
    rw [hW8]
    have L9 := hide ((unhide L8).below hb8)
    have I9 := hide ((unhide I8).below hb8)
    have J9 := hide ((unhide J8).below hb8)
    have C9 := hide (below_step (unhide C8) hb8)
    have R9 := hide ((hb8.block g4 (cell_lt (unhide R8))).trans (unhide R8))
    have Q9 := hide ((hb8.block g6 (cell_lt (unhide Q8))).trans (unhide Q8))
    clear hW8 L8 I8 J8 C8 R8 Q8 hb8
    obtain ⟨g8, hg8⟩ : ∃ g, w8.heap.size = g := ⟨_, rfl⟩
    rw [hg8] at hr8 ⊢
    clear hg8
    have T9 := hide hr8
    clear hr8
    obtain ⟨b4, o4, h4e, hc4⟩ := (unhide J9).2 (by omega)
    obtain ⟨b6, o6, h6e, hc6⟩ := (unhide I9).2 (by omega)
    obtain ⟨b8, o8, h8e, hc8⟩ := (unhide L9).2 (by omega)
    subst h4e
    subst h6e
    subst h8e
    have HC4 := hide hc4
    have HC6 := hide hc6
    have HC8 := hide hc8
    clear hc4 hc6 hc8 I9 J9 L9
    have hb4 : b4 < W8.heap.size := cell_blk (unhide HC4 0 (by omega))
    have hb6 : b6 < W8.heap.size := cell_blk (unhide HC6 0 (by omega))
    have hb8 : b8 < W8.heap.size := cell_blk (unhide HC8 0 (by omega))
    go_loopw [16] (fun ii wr => ∃ i : Nat, i ≤ 8 ∧ ii = .int .i64 i ∧ Hid (∃ n, wr = W8.drewN n)) (fun ii _ => 8 - (intOf ii).toNat)
    case atStart => exact ⟨0, by omega, rfl, ⟨0, rfl⟩⟩
    case round =>
      obtain ⟨i, hi, rfl, hw⟩ := hrel
      have hr4 : wr.heap[g4]? = some (.cells #[.slice (some ⟨b4, o4, none⟩) 8 c4, .int .i64 q1.hand, .bool true] 38 (0, 0)) := by
        obtain ⟨n, hn⟩ := unhide hw
        rw [hn]; exact unhide R9
      have hr6 : wr.heap[g6]? = some (.cells #[.slice (some ⟨b6, o6, none⟩) 8 c6, .int .i64 q2.hand, .bool true] 38 (0, 0)) := by
        obtain ⟨n, hn⟩ := unhide hw
        rw [hn]; exact unhide Q9
      have hr8 : wr.heap[g8]? = some (.cells #[.slice (some ⟨b8, o8, none⟩) 8 c8, .int .i64 q3.hand, .bool true] 38 (0, 0)) := by
        obtain ⟨n, hn⟩ := unhide hw
        rw [hn]; exact unhide T9
      have p4 := cell_of_row wr g4 0 _ _ _ hr4
      have p6 := cell_of_row wr g6 0 _ _ _ hr6
      have p8 := cell_of_row wr g8 0 _ _ _ hr8
      have r6 := cell_of_row wr g6 1 _ _ _ hr6
      have r8 := cell_of_row wr g8 1 _ _ _ hr8
      simp at p4 p6 p8 r6 r8
      clear hr4 hr6 hr8
      by_cases hlt : i < 8
      · have c4' : wr.cell? ⟨b4, o4 + i, none⟩ = some (.int .i64 (q1.paid.getD i 0)) := by
          obtain ⟨n, hn⟩ := unhide hw
          rw [hn]; exact unhide HC4 i hlt
        have c6' : wr.cell? ⟨b6, o6 + i, none⟩ = some (.int .i64 (q2.paid.getD i 0)) := by
          obtain ⟨n, hn⟩ := unhide hw
          rw [hn]; exact unhide HC6 i hlt
        have c8' : wr.cell? ⟨b8, o8 + i, none⟩ = some (.int .i64 (q3.paid.getD i 0)) := by
          obtain ⟨n, hn⟩ := unhide hw
          rw [hn]; exact unhide HC8 i hlt
        have hsum := (unhide HP).2 i hlt
        have h1a := (unhide K1).pa i
        have h2a := (unhide K2).pa i
        have h3a := (unhide K3).ow i
        have h3b := (unhide K3).tot i
        have h3c := (unhide K3).o9 i
        obtain ⟨x, hx⟩ : ∃ x, q1.paid.getD i 0 = x := ⟨_, rfl⟩
        obtain ⟨y, hy⟩ : ∃ y, q2.paid.getD i 0 = y := ⟨_, rfl⟩
        obtain ⟨z, hz⟩ : ∃ z, q3.paid.getD i 0 = z := ⟨_, rfl⟩
        rw [hx] at c4' hsum h1a
        rw [hy] at c6' hsum h2a
        rw [hz] at c8' hsum h3b
        have hz9 : x + y ≤ 1000000000 := by omega
        have hwr : IntKind.i64.wrap (x + y) = x + y := wrap_big (by omega) (by omega)
        subst hsum
        have hne : (x + y != x + y) = false := by simp
        clear hx hy hz h3a h3b h3c
        go_wp2_with fail
        go_quiet (fail)
        go_wp2_with fail
        go_roundw
        case rel => exact ⟨i + 1, by omega, by go_num, drewN_more (unhide hw)⟩
        case measure => simp [intOf]; omega
      · have hi8 : i = 8 := by omega
        subst hi8
        have hq := (unhide HP).1
        obtain ⟨x, hx⟩ : ∃ x, q3.hand = x := ⟨_, rfl⟩
        rw [← hq, hx] at r6
        rw [hx] at r8
        have hxx : (x == x) = true := by simp
        clear hx hq
        go_wp2_with fail
        go_ret
        have hb : Below w.heap.size w wr := by
          obtain ⟨n, hn⟩ := unhide hw
          rw [hn]; exact below_drewN (unhide C9) n
        first | exact ⟨rfl, hb⟩ | exact ⟨rfl, below_drewN hb _⟩
  · go_enter Try.func9, Try.ntmps9
    go_wp2_with fail
    refine (fit_any s a len cap zs m _ hsz (unhide HI) hr).mono ?_
    rintro e w1 ⟨rfl, n1, hw1⟩
    rw [unhide HFS]
    have B1 : Hid (Below w.heap.size w w1) := by
      show Below w.heap.size w w1
      rw [hw1]; exact below_drewN (Below.refl _ _) _
    clear hw1
    go_wp2_with fail
    refine (fit_any t a len cap zs m _ htz ((unhide HI).below (unhide B1)) hr).mono ?_
    rintro e w2 ⟨rfl, n2, hw2⟩
    rw [unhide HFU]
    have B2 : Hid (Below w.heap.size w w2) := by
      show Below w.heap.size w w2
      rw [hw2]; exact below_drewN (unhide B1) _
    clear hw2 B1
    go_wp2_with fail
    refine (fit_any T a len cap zs m _ hTz ((unhide HI).below (unhide B2)) hr).mono ?_
    rintro e w3 ⟨rfl, n3, hw3⟩
    rw [unhide HFT]
    have B3 : Hid (Below w.heap.size w w3) := by
      show Below w.heap.size w w3
      rw [hw3]; exact below_drewN (unhide B2) _
    clear hw3 B2
    cases fs
    · go_wp2_with fail
      go_ret
      exact ⟨rfl, unhide B3⟩
    cases fu
    · go_wp2_with fail
      go_ret
      exact ⟨rfl, unhide B3⟩
    cases fT
    · go_wp2_with fail
      go_ret
      exact ⟨rfl, unhide B3⟩
    exact absurd ⟨rfl, rfl, rfl⟩ hall
end Go.Proofs.Ytmdjdpofpkgffaa
