/- Part: the plain part, and the walk. -/
import Derived.Test.YtmdjdpofpkgffaaChoice
import Derived.Test.YtmdjdpofpkgffaaEmbeds
namespace Go.Proofs.Ytmdjdpofpkgffaa
open Go.ChangeShapes Go.WideShapes Go.ChangeAt Go.RowKit
open Split (Pu Keeps payM byt byt_lt byt_ge headM doM numM digM bucM none8 scanF bodyM holdM backM)
set_option linter.unusedVariables false
set_option linter.unusedSimpArgs false

theorem given_less {zs : List Int} {m x : Int} (h : givenE zs m = 0) (h0 : 0 ≤ x) (h9 : x ≤ 1000000000) : givenE zs x = 0 := by
  unfold givenE at h ⊢
  by_cases hl : zs.length = 8
  · rw [if_pos hl] at h ⊢
    by_cases hb : badAt zs < 8
    · rw [if_pos hb] at h; simp at h
    · rw [if_neg hb]
      rw [if_pos (amt_t.2 ⟨h0, h9⟩)]
  · rw [if_neg hl] at h; simp at h

theorem part_sem {T s : ByteArray} {n : Int} (hz : T.size = 4 + s.size + 1) (b0 : byt T 0 = 72) (hn : numM T 1 2 = n)
    (e1 : ∀ i, i < s.size → byt T (4 + i) = byt s i) (c1 : byt T (4 + s.size) = 41)
    (hT : checkE T = 0) (hs : checkE s = 0) (zs : List Int) (m : Int) (hg : givenE zs m = 0) (x : Int) (hx : m * n / 100 = x) :
    (shrM T zs m).hand = (shrM s zs x).hand + (m - x) ∧ (shrM T zs m).paid = (shrM s zs x).paid ∧ 0 ≤ x ∧ x ≤ m := by
  rw [shr_sem hT, shr_sem hs]
  obtain ⟨T1, T2, T3⟩ := own_read hT
  obtain ⟨s1, s2, s3⟩ := own_read hs
  have hc : 0 < T.size ∧ byt T 0 ≠ 41 := ⟨by omega, by omega⟩
  obtain ⟨p1, p2, p3, p4, ho, p6, p7, hcase⟩ := step_places (Nat.zero_le _) T2 hc
  have e80 : byt T 0 ≠ 80 := by omega
  have e67 : ¬ (byt T 0 = 67 ∨ byt T 0 = 73) := by omega
  have e82 : byt T 0 ≠ 82 := by omega
  have hstm : Split.stM T 0 = ⟨72, 0, numM T 1 2, none8, 0⟩ := by simp only [Split.stM, if_neg e80, if_neg e67, if_neg e82, Nat.zero_add]
  have hh : headM T 0 = if digM T 1 2 = 3 ∧ byt T 1 = 48 ∧ byt T 2 = 48 then (2, 1, false) else (digM T 1 2, 1, decide (digM T 1 2 = 3)) := by
    simp only [headM, if_neg e80, if_neg e67, if_neg e82, if_pos b0, Nat.zero_add]
  have hhd : headM T 0 = (3, 1, true) := by
    rw [hh] at ho ⊢
    split at ho
    · exact absurd ho (by simp)
    · rename_i hx
      have hd : digM T 1 2 = 3 := by simpa using ho
      rw [if_neg hx, hd]; simp
  have hB : BlkAt T 3 := by
    rcases hcase with hy | ⟨hy, hB⟩ | ⟨hy, hB, hB2⟩
    · rw [hhd] at hy; simp at hy
    · rw [hhd] at hB; exact hB
    · rw [hhd] at hB; exact hB
  have hso := st_ok ho
  have hn0 := hso.a0
  have hn1 := hso.h (by rw [hstm])
  rw [hstm] at hn0 hn1
  dsimp only at hn0 hn1
  rw [hn] at hn0 hn1
  obtain ⟨_, _, hm0, hm9⟩ := given_ok hg
  have hpb := Split.part_bd m n hm0 hn0 hn1
  rw [hx] at hpb
  obtain ⟨f1, f2⟩ := blk_own hB hs (by omega) e1 c1
  rw [semF_step (Nat.zero_le _) T2 hc]
  have hnx : nxM T 0 = T.size := by
    simp only [nxM, hhd]
    rw [if_neg (by omega), if_pos trivial, f1]; omega
  rw [hnx, semF_stop (by omega)]
  have hst : stpM T (semF T) 0 (pu0 zs m) = backM (semF s 0 (holdM (pu0 zs m) n)) := by
    simp only [stpM, hhd, hstm, hn]
    rw [if_neg (by omega), if_pos trivial, f2]
  rw [hst]
  have hheld : (semF s 0 (holdM (pu0 zs m) n)).held = [] ++ [m - x] := by
    unfold semF
    rw [sem_held s _ _ _ (Nat.zero_le _) s2]
    show [] ++ [m - m * n / 100] = _
    rw [hx]
  rw [back_of hheld]
  have hpe : Peer [] (holdM (pu0 zs m) n) (pu0 zs x) := by
    refine ⟨hx, rfl, by simp [holdM, pu0], by simp [pu0], fun i hi => ?_⟩
    show (List.replicate 8 (0 : Int)).getD i 0 = (List.replicate 8 (0 : Int)).getD i 0 + _
    simp
  have hL := sem_like (s.size + 1) 0 _ _ (Nat.zero_le _) s2 hpe
  refine ⟨?_, ?_, hpb.1, hpb.2⟩
  · show (semF s 0 (holdM (pu0 zs m) n)).hand + (m - x) = _
    unfold semF
    rw [hL.hand]
  · show (semF s 0 (holdM (pu0 zs m) n)).paid = _
    unfold semF
    apply List.ext_getElem?
    intro j
    have h1 := hL.lp
    have h2 := hL.lq
    by_cases hj : j < 8
    · have := hL.paid j hj
      rw [List.getD_eq_getElem?_getD, List.getD_eq_getElem?_getD, List.getElem?_eq_getElem (by omega), List.getElem?_eq_getElem (by omega)] at this
      rw [List.getElem?_eq_getElem (by omega), List.getElem?_eq_getElem (by omega)]
      simpa using this
    · rw [List.getElem?_eq_none (by omega), List.getElem?_eq_none (by omega)]

theorem part_text (n : Int) (h0 : 0 ≤ n) (h9 : n < 100) (s T : ByteArray)
    (hT : ⟨#[72]⟩ ++ strOfNums [48 + n / 10, 48 + n % 10] ++ ⟨#[40]⟩ ++ s ++ ⟨#[41]⟩ = T) :
    T.size = 4 + s.size + 1 ∧ byt T 0 = 72 ∧ numM T 1 2 = n ∧ (∀ i, i < s.size → byt T (4 + i) = byt s i) ∧ byt T (4 + s.size) = 41 := by
  have eI : (⟨#[72]⟩ : ByteArray) = strOfNums [72] := rfl
  have eO : (⟨#[40]⟩ : ByteArray) = strOfNums [40] := rfl
  have eC : (⟨#[41]⟩ : ByteArray) = strOfNums [41] := rfl
  rw [eI, eO, eC, str_app, str_app] at hT
  simp only [List.cons_append, List.nil_append] at hT
  have hbA := str_byt [72, 48 + n / 10, 48 + n % 10, 40] (by simp; omega)
  have hzA := str_size [72, 48 + n / 10, 48 + n % 10, 40]
  have hbC := str_byt [41] (by simp)
  have hzC := str_size [41]
  generalize strOfNums [72, 48 + n / 10, 48 + n % 10, 40] = A at hT hbA hzA
  generalize strOfNums [41] = C at hT hbC hzC
  simp only [List.length_cons, List.length_nil] at hzA hzC hbA hbC
  have z1 : (A ++ s).size = 4 + s.size := by rw [ByteArray.size_append]; omega
  have z2 : (A ++ s ++ C).size = 4 + s.size + 1 := by rw [ByteArray.size_append]; omega
  have lo : ∀ i, i < 4 → byt T i = byt A i := by
    intro i hi
    rw [← hT, byt_app, if_pos (by omega), byt_app, if_pos (by omega)]
  refine ⟨by rw [← hT]; exact z2, ?_, ?_, ?_, ?_⟩
  · rw [lo 0 (by omega), hbA 0 (by omega)]; rfl
  · simp only [numM, Nat.add_zero, Nat.reduceAdd]
    rw [lo 1 (by omega), lo 2 (by omega), hbA 1 (by omega), hbA 2 (by omega)]
    show 10 * (10 * 0 + (48 + n / 10 - 48)) + (48 + n % 10 - 48) = n
    omega
  · intro i hi
    rw [← hT, byt_app, if_pos (by omega), byt_app, if_neg (by omega), hzA, show 4 + i - (0 + 1 + 1 + 1 + 1) = i by omega]
  · rw [← hT, byt_app, if_neg (by omega), z1, Nat.sub_self, hbC 0 (by omega)]; rfl

set_option maxRecDepth 100000 in
set_option maxHeartbeats 4000000 in
theorem part_fit (hu n : Int) (s : ByteArray) (a : Option Addr) (len cap : Nat) (zs : List Int) (m : Int) (w : World) (hn0 : 0 ≤ n) (hn9 : n < 100) (hmod : hu.tmod 100 = n ∨ ∃ y, hu.tmod 100 = y ∧ y < 0 ∧ -100 < y ∧ -(y + 1) = n) (hs : s.size ≤ 140737488351232) (HI : Hid (Ints w a len zs)) (hr : len * 8 ≤ 140737488351232) :
    Calls Try.prog 10 #[.int .i64 hu, .string s, .slice a len cap, .int .i64 m] w fun e w' => e = .returned (.bool true) ∧ Below w.heap.size w w' := by
  have hc := conv_new [48 + n / 10, 48 + n % 10] 2 rfl w
  simp only [List.map_cons, List.map_nil] at hc
  obtain ⟨X1, x1⟩ : ∃ X, (⟨#[72]⟩ ++ strOfNums [48 + n / 10, 48 + n % 10] : ByteArray) = X := ⟨_, rfl⟩
  obtain ⟨X2, x2⟩ : ∃ X, (X1 ++ ⟨#[40]⟩ : ByteArray) = X := ⟨_, rfl⟩
  obtain ⟨X3, x3⟩ : ∃ X, X2 ++ s = X := ⟨_, rfl⟩
  obtain ⟨T, x4⟩ : ∃ X, (X3 ++ ⟨#[41]⟩ : ByteArray) = X := ⟨_, rfl⟩
  have y1 : X1.size = 3 := by rw [← x1, ByteArray.size_append, str_size]; rfl
  have y2 : X2.size = 4 := by rw [← x2, ByteArray.size_append, y1]; rfl
  have y3 : X3.size = 4 + s.size := by rw [← x3, ByteArray.size_append, y2]
  obtain ⟨hz, t0, t1, t2, t3⟩ := part_text n hn0 hn9 s T (by rw [x1, x2, x3, x4])
  have hTz : T.size ≤ 1000000000000000 := by omega
  have hsz : s.size ≤ 1000000000000000 := by omega
  have ST := hide (share_any T zs m hTz)
  have HSEM := hide (fun hT hs zs m hg x hx => part_sem (n := n) hz t0 t1 t2 t3 hT hs zs m hg x hx)
  clear hz t0 t1 t2 t3
  have B2 : Hid (Below w.heap.size w (w.alloc (.cells #[.int .u8 (48 + n / 10), .int .u8 (48 + n % 10)] 5))) := (Below.refl _ _).alloc (Nat.le_refl _) _
  by_cases hfit : checkE T = 0 ∧ givenE zs m = 0
  · obtain ⟨hcT, hg⟩ := hfit
    obtain ⟨eT, lT, rT, nT⟩ := sh_fit hcT hg
    rw [lT, rT, eT] at ST
    have HFT : Hid ((checkE T == 0 && givenE zs m == 0) = true) := by
      show _ = true
      simp [hcT, hg]
    obtain ⟨hz8, hzb, hm0, hm9⟩ := given_ok hg
    have h8 : len = 8 := by rw [← (unhide HI).1, hz8]
    subst h8
    generalize shP T zs m = pT at ST
    obtain ⟨q, hq⟩ : ∃ q, shrM T zs m = q := ⟨_, rfl⟩
    rw [hq] at ST nT
    have HQ := hide hq
    clear hq
    obtain ⟨fs, hfs⟩ : ∃ b, (checkE s == 0 && givenE zs m == 0) = b := ⟨_, rfl⟩
    have HFS := hide hfs
    clear hfs
    have HCG := hide (And.intro hcT hg)
    have HNT := hide nT
    clear eT lT rT nT hcT hg hz8 hzb
    rcases hmod with hx0 | ⟨y, hx0, hy0, hy9, hyn⟩
    · go_enter Try.func10, Try.ntmps10
      go_wp2_with fail
      refine (lshare_of T zs m _ _ _ _ (unhide ST) _ _ _ _ ((unhide HI).below (unhide B2)) hr).mono ?_
      rintro e w3 ⟨a3, n3, c3, rfl, hi3, hb3⟩
      have hn3 : n3 = 8 := by rw [← hi3.1]; exact unhide HNT
      subst hn3
      have I3 := hide hi3
      have B3 := hide (below_step (unhide B2) hb3)
      clear hi3 hb3 B2 ST hc
      go_wp2_with fail
      obtain ⟨W3, hW3⟩ : ∃ W, w3.alloc (.cells #[.slice a3 8 c3, .int .i64 q.hand, .bool true] 38) = W := ⟨_, rfl⟩
      have hr3 : W3.heap[w3.heap.size]? = some (.cells #[.slice a3 8 c3, .int .i64 q.hand, .bool true] 38 (0, 0)) := by rw [← hW3]; exact heap_alloc_new _ _
      have hb3 : Below w3.heap.size w3 W3 := by rw [← hW3]; exact (Below.refl _ _).alloc (Nat.le_refl _) _
      rw [hW3]
      have J3 := hide ((unhide I3).below hb3)
      have C3 := hide (below_step (unhide B3) hb3)
      clear hW3 I3 B3 hb3
      obtain ⟨g3, hg3⟩ : ∃ g, w3.heap.size = g := ⟨_, rfl⟩
      rw [hg3] at hr3 ⊢
      clear hg3
      have R3 := hide hr3
      clear hr3
      refine (fit_any T _ 8 cap zs m _ hTz ((unhide HI).below (unhide C3)) hr).mono ?_
      rintro e w4 ⟨rfl, n4, hw4⟩
      rw [unhide HFT]
      have hb4 : Below W3.heap.size W3 w4 := by rw [hw4]; exact below_drewN (Below.refl _ _) _
      have J4 := hide ((unhide J3).below hb4)
      have C4 := hide (below_step (unhide C3) hb4)
      have R4 := hide ((hb4.block g3 (cell_lt (unhide R3))).trans (unhide R3))
      clear hw4 hb4 J3 C3 R3
      go_wp2_with fail
      refine (fit_any s _ 8 cap zs m _ hsz ((unhide HI).below (unhide C4)) hr).mono ?_
      rintro e w6 ⟨rfl, n6, hw6⟩
      rw [unhide HFS]
      have hb6 : Below w4.heap.size w4 w6 := by rw [hw6]; exact below_drewN (Below.refl _ _) _
      have J6 := hide ((unhide J4).below hb6)
      have C6 := hide (below_step (unhide C4) hb6)
      have R6 := hide ((hb6.block g3 (cell_lt (unhide R4))).trans (unhide R4))
      clear hw6 hb6 J4 C4 R4
      have p0 := cell_of_row w6 g3 0 _ _ _ (unhide R6)
      have p1 := cell_of_row w6 g3 1 _ _ _ (unhide R6)
      have p2 := cell_of_row w6 g3 2 _ _ _ (unhide R6)
      simp at p0 p1 p2
      cases fs
      · go_wp2_with fail
        go_ret
        exact ⟨rfl, unhide C6⟩
      have hcs : checkE s = 0 := by
        have h1 := unhide HFS
        simp at h1
        exact h1.1
      obtain ⟨x, hx⟩ : ∃ x, m * n / 100 = x := ⟨_, rfl⟩
      obtain ⟨s1, s2, s3, s4⟩ := unhide HSEM (unhide HCG).1 hcs zs m (unhide HCG).2 x hx
      rw [unhide HQ] at s1 s2
      have hgx := given_less (unhide HCG).2 s3 (by omega)
      obtain ⟨f1, f2, f3, f4⟩ := sh_fit hcs hgx
      have SX := hide (share_any s zs x hsz)
      rw [f1, f2, f3, ← s2] at SX
      have hsk := (shr_keeps hcs hgx).1
      have hh0 := hsk.h0
      have hhp := hsk.paid_le 0
      have hhq := hsk.pa 0
      obtain ⟨rr, hrr⟩ : ∃ r, (shrM s zs x).hand = r := ⟨_, rfl⟩
      rw [hrr] at SX s1 hh0 hhp
      have hr9 : rr ≤ 1000000000 := by omega
      have S1 := hide s1
      generalize shP s zs x = pp at SX
      have hml : m * n ≤ 1000000000 * 100 := Int.mul_le_mul hm9 (by omega) hn0 (by omega)
      have hml0 : 0 ≤ m * n := Int.mul_nonneg hm0 hn0
      clear s1 s2 hgx f1 f2 f3 f4 hsk hhp hhq hrr hcs HFS
      go_wp2_with fail
      refine (lshare_of s zs x _ _ _ _ (unhide SX) _ _ _ _ ((unhide HI).below (unhide C6)) hr).mono ?_
      rintro e w7 ⟨a7, n7, c7, rfl, hi7, hb7⟩
      have hn7 : n7 = 8 := by rw [← hi7.1]; exact unhide HNT
      subst hn7
      have I7 := hide hi7
      have J7 := hide ((unhide J6).below hb7)
      have C7 := hide (below_step (unhide C6) hb7)
      have R7 := hide ((hb7.block g3 (cell_lt (unhide R6))).trans (unhide R6))
      clear hi7 hb7 p0 p1 p2
      have p0 := cell_of_row w7 g3 0 _ _ _ (unhide R7)
      have p1 := cell_of_row w7 g3 1 _ _ _ (unhide R7)
      have p2 := cell_of_row w7 g3 2 _ _ _ (unhide R7)
      simp at p0 p1 p2
      have hg3 : g3 < w7.heap.size := cell_lt (unhide R7)
      go_wp2_with fail
      rw [show rr + m - x = q.hand by have := unhide S1; omega]
      have HB8 : Hid (Below w7.heap.size w7 ((w7.alloc (.cells #[.slice a7 8 c7, .int .i64 rr, .bool true] 38)).alloc (.cells #[.slice a7 8 c7, .int .i64 q.hand, .bool true] 38))) := ((Below.refl _ _).alloc (Nat.le_refl _) _).alloc (by simp) _
      refine (alike_true a3 c3 a7 c7 q.paid q.hand _ ((unhide J7).below (unhide HB8)) ((unhide I7).below (unhide HB8))).mono ?_
      rintro e w9 ⟨rfl, hb9⟩
      have C9 := hide (below_step (below_step (unhide C7) (unhide HB8)) hb9)
      clear hb9 p0 p1 p2
      go_wp2_with fail
      go_ret
      exact ⟨rfl, unhide C9⟩
    · go_enter Try.func10, Try.ntmps10
      go_wp2_with fail
      refine (lshare_of T zs m _ _ _ _ (unhide ST) _ _ _ _ ((unhide HI).below (unhide B2)) hr).mono ?_
      rintro e w3 ⟨a3, n3, c3, rfl, hi3, hb3⟩
      have hn3 : n3 = 8 := by rw [← hi3.1]; exact unhide HNT
      subst hn3
      have I3 := hide hi3
      have B3 := hide (below_step (unhide B2) hb3)
      clear hi3 hb3 B2 ST hc
      go_wp2_with fail
      obtain ⟨W3, hW3⟩ : ∃ W, w3.alloc (.cells #[.slice a3 8 c3, .int .i64 q.hand, .bool true] 38) = W := ⟨_, rfl⟩
      have hr3 : W3.heap[w3.heap.size]? = some (.cells #[.slice a3 8 c3, .int .i64 q.hand, .bool true] 38 (0, 0)) := by rw [← hW3]; exact heap_alloc_new _ _
      have hb3 : Below w3.heap.size w3 W3 := by rw [← hW3]; exact (Below.refl _ _).alloc (Nat.le_refl _) _
      rw [hW3]
      have J3 := hide ((unhide I3).below hb3)
      have C3 := hide (below_step (unhide B3) hb3)
      clear hW3 I3 B3 hb3
      obtain ⟨g3, hg3⟩ : ∃ g, w3.heap.size = g := ⟨_, rfl⟩
      rw [hg3] at hr3 ⊢
      clear hg3
      have R3 := hide hr3
      clear hr3
      refine (fit_any T _ 8 cap zs m _ hTz ((unhide HI).below (unhide C3)) hr).mono ?_
      rintro e w4 ⟨rfl, n4, hw4⟩
      rw [unhide HFT]
      have hb4 : Below W3.heap.size W3 w4 := by rw [hw4]; exact below_drewN (Below.refl _ _) _
      have J4 := hide ((unhide J3).below hb4)
      have C4 := hide (below_step (unhide C3) hb4)
      have R4 := hide ((hb4.block g3 (cell_lt (unhide R3))).trans (unhide R3))
      clear hw4 hb4 J3 C3 R3
      go_wp2_with fail
      refine (fit_any s _ 8 cap zs m _ hsz ((unhide HI).below (unhide C4)) hr).mono ?_
      rintro e w6 ⟨rfl, n6, hw6⟩
      rw [unhide HFS]
      have hb6 : Below w4.heap.size w4 w6 := by rw [hw6]; exact below_drewN (Below.refl _ _) _
      have J6 := hide ((unhide J4).below hb6)
      have C6 := hide (below_step (unhide C4) hb6)
      have R6 := hide ((hb6.block g3 (cell_lt (unhide R4))).trans (unhide R4))
      clear hw6 hb6 J4 C4 R4
      have p0 := cell_of_row w6 g3 0 _ _ _ (unhide R6)
      have p1 := cell_of_row w6 g3 1 _ _ _ (unhide R6)
      have p2 := cell_of_row w6 g3 2 _ _ _ (unhide R6)
      simp at p0 p1 p2
      cases fs
      · go_wp2_with fail
        go_ret
        exact ⟨rfl, unhide C6⟩
      have hcs : checkE s = 0 := by
        have h1 := unhide HFS
        simp at h1
        exact h1.1
      obtain ⟨x, hx⟩ : ∃ x, m * n / 100 = x := ⟨_, rfl⟩
      obtain ⟨s1, s2, s3, s4⟩ := unhide HSEM (unhide HCG).1 hcs zs m (unhide HCG).2 x hx
      rw [unhide HQ] at s1 s2
      have hgx := given_less (unhide HCG).2 s3 (by omega)
      obtain ⟨f1, f2, f3, f4⟩ := sh_fit hcs hgx
      have SX := hide (share_any s zs x hsz)
      rw [f1, f2, f3, ← s2] at SX
      have hsk := (shr_keeps hcs hgx).1
      have hh0 := hsk.h0
      have hhp := hsk.paid_le 0
      have hhq := hsk.pa 0
      obtain ⟨rr, hrr⟩ : ∃ r, (shrM s zs x).hand = r := ⟨_, rfl⟩
      rw [hrr] at SX s1 hh0 hhp
      have hr9 : rr ≤ 1000000000 := by omega
      have S1 := hide s1
      generalize shP s zs x = pp at SX
      have hml : m * n ≤ 1000000000 * 100 := Int.mul_le_mul hm9 (by omega) hn0 (by omega)
      have hml0 : 0 ≤ m * n := Int.mul_nonneg hm0 hn0
      clear s1 s2 hgx f1 f2 f3 f4 hsk hhp hhq hrr hcs HFS
      go_wp2_with fail
      refine (lshare_of s zs x _ _ _ _ (unhide SX) _ _ _ _ ((unhide HI).below (unhide C6)) hr).mono ?_
      rintro e w7 ⟨a7, n7, c7, rfl, hi7, hb7⟩
      have hn7 : n7 = 8 := by rw [← hi7.1]; exact unhide HNT
      subst hn7
      have I7 := hide hi7
      have J7 := hide ((unhide J6).below hb7)
      have C7 := hide (below_step (unhide C6) hb7)
      have R7 := hide ((hb7.block g3 (cell_lt (unhide R6))).trans (unhide R6))
      clear hi7 hb7 p0 p1 p2
      have p0 := cell_of_row w7 g3 0 _ _ _ (unhide R7)
      have p1 := cell_of_row w7 g3 1 _ _ _ (unhide R7)
      have p2 := cell_of_row w7 g3 2 _ _ _ (unhide R7)
      simp at p0 p1 p2
      have hg3 : g3 < w7.heap.size := cell_lt (unhide R7)
      go_wp2_with fail
      rw [show rr + m - x = q.hand by have := unhide S1; omega]
      have HB8 : Hid (Below w7.heap.size w7 ((w7.alloc (.cells #[.slice a7 8 c7, .int .i64 rr, .bool true] 38)).alloc (.cells #[.slice a7 8 c7, .int .i64 q.hand, .bool true] 38))) := ((Below.refl _ _).alloc (Nat.le_refl _) _).alloc (by simp) _
      refine (alike_true a3 c3 a7 c7 q.paid q.hand _ ((unhide J7).below (unhide HB8)) ((unhide I7).below (unhide HB8))).mono ?_
      rintro e w9 ⟨rfl, hb9⟩
      have C9 := hide (below_step (below_step (unhide C7) (unhide HB8)) hb9)
      clear hb9 p0 p1 p2
      go_wp2_with fail
      go_ret
      exact ⟨rfl, unhide C9⟩
  · obtain ⟨u1, u2⟩ := sh_unfit hfit
    have HU1 := hide u1
    have HU2 := hide u2
    generalize shL T zs m = lT at ST
    generalize shR T zs m = rT at ST
    generalize shP T zs m = pT at ST
    clear u1 u2
    rcases hmod with hx0 | ⟨y, hx0, hy0, hy9, hyn⟩
    · go_enter Try.func10, Try.ntmps10
      go_wp2_with fail
      refine (lshare_of T zs m _ _ _ _ (unhide ST) _ _ _ _ ((unhide HI).below (unhide B2)) hr).mono ?_
      rintro e w3 ⟨a3, n3, c3, rfl, hi3, hb3⟩
      rw [unhide HU1, Bool.false_and]
      have B3 := hide (below_step (unhide B2) hb3)
      clear hi3 hb3 B2 ST hc
      go_wp2_with fail
      obtain ⟨W3, hW3⟩ : ∃ W, w3.alloc (.cells #[.slice a3 n3 c3, .int .i64 rT, .bool false] 38) = W := ⟨_, rfl⟩
      have hr3 : W3.heap[w3.heap.size]? = some (.cells #[.slice a3 n3 c3, .int .i64 rT, .bool false] 38 (0, 0)) := by rw [← hW3]; exact heap_alloc_new _ _
      have hb3 : Below w3.heap.size w3 W3 := by rw [← hW3]; exact (Below.refl _ _).alloc (Nat.le_refl _) _
      rw [hW3]
      have C3 := hide (below_step (unhide B3) hb3)
      clear hW3 B3 hb3
      obtain ⟨g3, hg3⟩ : ∃ g, w3.heap.size = g := ⟨_, rfl⟩
      rw [hg3] at hr3 ⊢
      clear hg3
      have R3 := hide hr3
      clear hr3
      refine (fit_any T _ _ cap zs m _ hTz ((unhide HI).below (unhide C3)) hr).mono ?_
      rintro e w4 ⟨rfl, n4, hw4⟩
      rw [unhide HU2]
      have hb4 : Below W3.heap.size W3 w4 := by rw [hw4]; exact below_drewN (Below.refl _ _) _
      have C4 := hide (below_step (unhide C3) hb4)
      have p2 := cell_of_row w4 g3 2 _ _ _ ((hb4.block g3 (cell_lt (unhide R3))).trans (unhide R3))
      simp at p2
      clear hw4 hb4
      go_wp2_with fail
      go_ret
      exact ⟨rfl, unhide C4⟩
    · go_enter Try.func10, Try.ntmps10
      go_wp2_with fail
      refine (lshare_of T zs m _ _ _ _ (unhide ST) _ _ _ _ ((unhide HI).below (unhide B2)) hr).mono ?_
      rintro e w3 ⟨a3, n3, c3, rfl, hi3, hb3⟩
      rw [unhide HU1, Bool.false_and]
      have B3 := hide (below_step (unhide B2) hb3)
      clear hi3 hb3 B2 ST hc
      go_wp2_with fail
      obtain ⟨W3, hW3⟩ : ∃ W, w3.alloc (.cells #[.slice a3 n3 c3, .int .i64 rT, .bool false] 38) = W := ⟨_, rfl⟩
      have hr3 : W3.heap[w3.heap.size]? = some (.cells #[.slice a3 n3 c3, .int .i64 rT, .bool false] 38 (0, 0)) := by rw [← hW3]; exact heap_alloc_new _ _
      have hb3 : Below w3.heap.size w3 W3 := by rw [← hW3]; exact (Below.refl _ _).alloc (Nat.le_refl _) _
      rw [hW3]
      have C3 := hide (below_step (unhide B3) hb3)
      clear hW3 B3 hb3
      obtain ⟨g3, hg3⟩ : ∃ g, w3.heap.size = g := ⟨_, rfl⟩
      rw [hg3] at hr3 ⊢
      clear hg3
      have R3 := hide hr3
      clear hr3
      refine (fit_any T _ _ cap zs m _ hTz ((unhide HI).below (unhide C3)) hr).mono ?_
      rintro e w4 ⟨rfl, n4, hw4⟩
      rw [unhide HU2]
      have hb4 : Below W3.heap.size W3 w4 := by rw [hw4]; exact below_drewN (Below.refl _ _) _
      have C4 := hide (below_step (unhide C3) hb4)
      have p2 := cell_of_row w4 g3 2 _ _ _ ((hb4.block g3 (cell_lt (unhide R3))).trans (unhide R3))
      simp at p2
      clear hw4 hb4
      go_wp2_with fail
      go_ret
      exact ⟨rfl, unhide C4⟩

theorem part_walk (hu : Int) (s : ByteArray) (a : Option Addr) (len cap : Nat) (zs : List Int) (m : Int) (w : World) (hhu : (Lit.int .i64 hu).wf = true) (hs : s.size ≤ 140737488351232) (h : Ints w a len zs) (hwf : ∀ n ∈ zs, (Lit.int .i64 n).wf = true) (hr : len * 8 ≤ 140737488351232) (hm : (Lit.int .i64 m).wf = true) :
    Calls Try.prog 10 #[.int .i64 hu, .string s, .slice a len cap, .int .i64 m] w fun e w' => e = .returned (.bool true) ∧ Below w.heap.size w w' := by
  have hlt : hu.tmod 100 < 100 := Int.tmod_lt_of_pos _ (by omega)
  have hgt : -100 < hu.tmod 100 := by
    rw [Int.tmod_eq_emod]
    split <;> (simp; omega)
  by_cases hneg : hu.tmod 100 < 0
  · exact part_fit hu (-(hu.tmod 100 + 1)) s a len cap zs m w (by omega) (by omega) (.inr ⟨_, rfl, hneg, hgt, rfl⟩) hs h hr
  · exact part_fit hu (hu.tmod 100) s a len cap zs m w (by omega) (by omega) (.inl rfl) hs h hr
end Go.Proofs.Ytmdjdpofpkgffaa
