/- Nothing: the walk. -/
import Derived.Test.YtmdjdpofpkgffaaLshare
import Derived.Deep.RegionWith
import Derived.Deep.OwnRows
namespace Go.Proofs.Ytmdjdpofpkgffaa
open Go.ChangeShapes Go.WideShapes Go.ChangeAt Go.RowKit
set_option linter.unusedVariables false
set_option linter.unusedSimpArgs false

theorem replicate_getD (n i : Nat) : (List.replicate n (0 : Int)).getD i 0 = 0 := by
  simp only [List.getD_eq_getElem?_getD, List.getElem?_replicate]
  split <;> rfl

def zero8 : Array Value := madeCells #[.int .i64 0] 8

theorem make8 (W : World) : (Instr.makeSlice 29 (.int .i64 8) (.int .i64 8)).run Try.prog W = .ok (.slice (some ⟨W.heap.size, 0, none⟩) 8 8) (W.alloc (.cells zero8 3)) :=
  run_make_row' (P := Try.prog) 29 3 (.int .i64 0) 8 Try.underlying29 infoInt rfl .i64 .i64 8 (by omega) (by omega) W

theorem zero8_ints (W' : World) (g : Nat) (h : W'.heap[g]? = some (.cells zero8 3 (0, 0))) : Ints W' (some ⟨g, 0, none⟩) 8 (List.replicate 8 0) := by
  refine ⟨rfl, fun _ => ⟨_, _, rfl, fun i hi => ?_⟩⟩
  rw [cell_of_row W' _ _ _ _ _ h, replicate_getD]
  simp [zero8, madeCells, hi, Nat.mod_one]

theorem alloc2_heap (W : World) (o o' : Obj) : ((W.alloc o).alloc o').drew.heap[W.heap.size + 1]? = some o' := by
  have := heap_alloc_new (W.alloc o) o'
  rwa [show (W.alloc o).heap.size = W.heap.size + 1 by simp] at this

set_option maxHeartbeats 2000000 in
theorem nothing_walk (a : Option Addr) (len cap : Nat) (zs : List Int) (m : Int) (w : World) (h : Ints w a len zs) (hwf : ∀ n ∈ zs, (Lit.int .i64 n).wf = true) (hr : len * 8 ≤ 140737488351232) (hm : (Lit.int .i64 m).wf = true) :
    Calls Try.prog 6 #[.slice a len cap, .int .i64 m] w fun e w' => e = .returned (.bool true) ∧ Below w.heap.size w w' := by
  have HI := hide h
  clear h hwf hm
  have HS := hide (lshare_of _ _ _ _ _ _ _ (share_empty zs m) a len cap w (unhide HI) hr)
  go_enter Try.func6, Try.ntmps6
  go_wp2_with fail
  refine (unhide HS).mono ?_
  rintro e w1 ⟨a', n, c, rfl, hi1, hb1⟩
  clear HS
  have HB1 := hide hb1
  by_cases hg : givenE zs m = 0
  · simp only [hg, if_true] at hi1
    have hn : n = 8 := by have := hi1.1; simp at this; omega
    subst hn
    have HI1 := hide hi1
    have HW := hide ((unhide HI).below (below_step hb1 ((Below.refl _ _).alloc (Nat.le_refl _) (.cells #[.slice a' 8 c, .int .i64 m, .bool true] 38))))
    clear hi1 hb1
    have HG := hide hg
    simp only [hg]
    clear hg
    go_wp2_with fail
    refine (fit_empty a len cap zs m _ (unhide HW) hr).mono ?_
    rintro e w2 ⟨rfl, rfl⟩
    rw [unhide HG]
    go_wp2_with fail
    have hmk := make8
    go_region_with (go_at_call 21; refine (same_any _ _ _ (List.replicate 8 0) _ _ _ (List.replicate 8 0) _ ?_ ?_ (by omega)).mono ?_; exact (unhide HI1).below (by repeat (first | exact Below.refl _ _ | refine Below.drew ?_ | refine Below.alloc ?_ (by simp) _)); exact zero8_ints _ _ (alloc2_heap _ _ _); rintro e w3 ⟨rfl, nq, rfl⟩)
    all_goals
      go_wp2
      go_ret
      exact ⟨by rfl, below_step (unhide HB1) (by repeat (first | exact Below.refl _ _ | refine below_drewN ?_ _ | refine Below.drew ?_ | refine Below.alloc ?_ (by simp) _))⟩
  · have HG := hide hg
    have hgb : (givenE zs m == 0) = false := by simpa using hg
    simp only [hgb]
    have HW := hide ((unhide HI).below (below_step hb1 ((Below.refl _ _).alloc (Nat.le_refl _) (.cells #[.slice a' n c, .int .i64 0, .bool false] 38))))
    clear hi1 hb1 hg hgb
    simp only [unhide HG, if_false, Bool.false_and]
    go_wp2_with fail
    refine (fit_empty a len cap zs m _ (unhide HW) hr).mono ?_
    rintro e w2 ⟨rfl, rfl⟩
    rw [show (givenE zs m == 0) = false by simpa using unhide HG]
    go_wp2_with fail
    go_ret
    exact ⟨rfl, below_step (unhide HB1) ((Below.refl _ _).alloc (Nat.le_refl _) _)⟩
end Go.Proofs.Ytmdjdpofpkgffaa
