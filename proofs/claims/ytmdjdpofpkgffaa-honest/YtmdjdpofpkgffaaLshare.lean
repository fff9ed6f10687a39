/- The law's own share and fit. -/
import Derived.Test.YtmdjdpofpkgffaaEmpty
namespace Go.Proofs.Ytmdjdpofpkgffaa
open Go.ChangeShapes Go.WideShapes Go.ChangeAt Go.RowKit
set_option linter.unusedVariables false
set_option linter.unusedSimpArgs false

theorem fit_empty (a : Option Addr) (len cap : Nat) (zs : List Int) (m : Int) (w : World) (h : Ints w a len zs) (hr : len * 8 ≤ 140737488351232) :
    Calls Try.prog 23 #[.string ⟨#[]⟩, .slice a len cap, .int .i64 m] w fun e w' => e = .returned (.bool (givenE zs m == 0)) ∧ w' = w := by
  go_enter Try.func23, Try.ntmps23
  go_wp2_with fail
  refine (rcheck_empty _).mono ?_
  rintro e w1 ⟨rfl, rfl⟩
  go_wp2_with fail
  refine (given_any _ _ _ zs m _ h hr).mono ?_
  rintro e w2 ⟨rfl, rfl⟩
  generalize hge : givenE zs m = ge at *
  generalize hgp : givenP zs m = gp at *
  have HG := hide (And.intro hge hgp)
  clear hge hgp
  go_wp2_with fail
  go_ret
  exact ⟨by rw [(unhide HG).1]; rfl, rfl⟩


set_option maxHeartbeats 1000000 in
/-- The law's own share, out of Share's. -/
theorem lshare_of (t : ByteArray) (zs : List Int) (m : Int) (L : List Int) (R E P : Int) (hS : ShareIs t zs m L R E P)
    (a : Option Addr) (len cap : Nat) (w : World) (h : Ints w a len zs) (hr : len * 8 ≤ 140737488351232) :
    Calls Try.prog 22 #[.string t, .slice a len cap, .int .i64 m] w fun e w' => ∃ (a' : Option Addr) (n c : Nat), e = .returned (.agg #[.slice a' n c, .int .i64 R, .bool (E == 0 && (n : Int) == 8)]) ∧ Ints w' a' n L ∧ Below w.heap.size w w' := by
  have HI := hide h
  clear h
  go_enter Try.func22, Try.ntmps22
  go_wp2_with fail
  refine (copied_any a len cap zs _ ((unhide HI).below ((Below.refl _ _).alloc (Nat.le_refl _) _)) hr).mono ?_
  rintro e w1 ⟨rfl, hi1, hb1, hl1⟩
  have HI1 := hide hi1
  have HB1 := hide (below_step ((Below.refl _ _).alloc (Nat.le_refl _) _) hb1)
  have hres : w1.heap[w.heap.size]? = some (.cells #[.slice none 0 0, .int .i64 0, .bool false] 38 (0, 0)) := by
    rw [hb1.block _ (by simp)]
    exact heap_alloc_new _ _
  have HR := hide hres
  have hz1 : w.heap.size < w1.heap.size := by simp at hl1; omega
  clear hi1 hb1 hl1 hres
  go_wp2_with fail
  refine (hS _ _ _ w1 (by simpa using unhide HI1) hr).mono ?_
  rintro e w2 ⟨a', n, c, rfl, hi2, hfr2, hb2⟩
  have HI2 := hide hi2
  have HF2 : Hid (∀ b, a' = some b → b.block ≠ w.heap.size) := fun b hb e => by
    have := hfr2 b hb
    omega
  clear hfr2
  have HB2 := hide (below_step (unhide HB1) hb2)
  have hres : w2.heap[w.heap.size]? = some (.cells #[.slice none 0 0, .int .i64 0, .bool false] 38 (0, 0)) := by
    rw [hb2.block _ hz1]
    exact unhide HR
  have hz2 : w.heap.size < w2.heap.size := cell_lt hres
  have hc0 := cell_of_row w2 w.heap.size 0 _ _ _ hres
  have hc1 := cell_of_row w2 w.heap.size 1 _ _ _ hres
  have hc2 := cell_of_row w2 w.heap.size 2 _ _ _ hres
  have hf0 := frozen_of_row w2 w.heap.size 0 _ _ hres
  have hf1 := frozen_of_row w2 w.heap.size 1 _ _ hres
  have hf2 := frozen_of_row w2 w.heap.size 2 _ _ hres
  simp at hc0 hc1 hc2
  clear hi2 hb2 hres HI HR HI1 HB1
  cases hE : (E == 0)
  · go_wp2
    exact bodyPost_ret (v := .agg #[.slice a' n c, .int .i64 R, .bool false]) (by simp [results, Try.results22, go_sem, hc0, hc1, hc2, hz2]) rfl
      ⟨a', n, c, by rw [hE]; rfl, ints_setCell (ints_setCell (ints_setCell (unhide HI2) (unhide HF2)) (unhide HF2)) (unhide HF2),
        (((unhide HB2).setCell (p := ⟨w.heap.size, 0, none⟩) (Nat.le_refl _) _).setCell (p := ⟨w.heap.size, 1, none⟩) (Nat.le_refl _) _).setCell (p := ⟨w.heap.size, 2, none⟩) (Nat.le_refl _) _⟩
  · go_wp2
    exact bodyPost_ret (v := .agg #[.slice a' n c, .int .i64 R, .bool ((n : Int) == 8)]) (by simp [results, Try.results22, go_sem, hc0, hc1, hc2, hz2]) rfl
      ⟨a', n, c, by rw [hE]; rfl, ints_setCell (ints_setCell (ints_setCell (unhide HI2) (unhide HF2)) (unhide HF2)) (unhide HF2),
        (((unhide HB2).setCell (p := ⟨w.heap.size, 0, none⟩) (Nat.le_refl _) _).setCell (p := ⟨w.heap.size, 1, none⟩) (Nat.le_refl _) _).setCell (p := ⟨w.heap.size, 2, none⟩) (Nat.le_refl _) _⟩
end Go.Proofs.Ytmdjdpofpkgffaa
