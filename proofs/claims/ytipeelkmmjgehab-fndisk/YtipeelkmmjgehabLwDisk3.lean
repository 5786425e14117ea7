/- The walks over the laws' helpers on DiskOut. -/
import Derived.Test.YtipeelkmmjgehabLwDisk2
namespace Go.Proofs.Ytipeelkmmjgehab
open Go Go.RowKit
/-- What a DiskOut is as a value. -/
def doutV (sv cv : Value) (t : ByteArray) (c : Int) : Value := .agg #[sv, cv, .string t, .int .i64 c]
set_option maxRecDepth 100000 in
set_option maxHeartbeats 800000 in
theorem law_eqDiskOut (sa ca sb cb : Value) (t : ByteArray) (c : Int) (la ha lb hb nS : Nat) (S : Nat → ByteArray) (nC : Nat) (A : Nat → Int) (X : Nat → ByteArray) (w : World) (hS : nS ≤ 1048576) (hC : nC ≤ 1048576) (h1 : dskV w (.agg #[sa, ca]) la ha nS (sC S) nC (wF A X)) (h2 : dskV w (.agg #[sb, cb]) lb hb nS (sC S) nC (wF A X)) :
    Calls Try.prog 22 #[.agg #[sa, ca, .string t, .int .i64 c], .agg #[sb, cb, .string t, .int .i64 c]] w fun e w' => e = .returned (.bool true) ∧ Below w.heap.size w w' := by
  have H := hide (And.intro h1 h2)
  clear h1 h2
  go_enter Try.func22, Try.ntmps22
  go_wp2_with fail
  have q0 : Below w.heap.size w ((w.alloc (.cells #[sa, ca, .string t, .int .i64 c] 30)).alloc (.cells #[sb, cb, .string t, .int .i64 c] 30)) := ((Below.refl _ w).alloc (Nat.le_refl _) _).alloc (by simp) _
  refine (law_eqDisk (.agg #[sa, ca]) (.agg #[sb, cb]) la ha lb hb nS S nC A X _ hS hC (H.out.1.below q0) (H.out.2.below q0)).mono ?_
  rintro e w1 ⟨rfl, hb1⟩
  have c2 : w1.cell? ⟨w.heap.size, 2, none⟩ = some (.string t) := (hb1.cell (p := ⟨w.heap.size, 2, none⟩) (by show _ < (World.heap _).size; simp; omega)).trans (by go_simp)
  have c3 : w1.cell? ⟨w.heap.size, 3, none⟩ = some (.int .i64 c) := (hb1.cell (p := ⟨w.heap.size, 3, none⟩) (by show _ < (World.heap _).size; simp; omega)).trans (by go_simp)
  have d2 : w1.cell? ⟨w.heap.size + 1, 2, none⟩ = some (.string t) := (hb1.cell (p := ⟨w.heap.size + 1, 2, none⟩) (by show _ < (World.heap _).size; simp)).trans (by go_simp)
  have d3 : w1.cell? ⟨w.heap.size + 1, 3, none⟩ = some (.int .i64 c) := (hb1.cell (p := ⟨w.heap.size + 1, 3, none⟩) (by show _ < (World.heap _).size; simp)).trans (by go_simp)
  have B1 := hide (q0.trans (hb1.mono (by simp; omega)))
  clear hb1 q0
  go_wp2_with fail
  go_ret
  exact ⟨rfl, B1.out⟩
set_option maxRecDepth 100000 in
set_option maxHeartbeats 800000 in
theorem law_markDiskOut (sv cv : Value) (t : ByteArray) (c : Int) (lo hi nS : Nat) (S : Nat → ByteArray) (nC : Nat) (fC : Nat → Value) (k0 : Nat) (w : World) (hS : nS ≤ 1048576) (hC : nC ≤ 1048576) (hk : k0 ≤ 4194304) (hhi : hi ≤ w.heap.size) (h : dskV w (.agg #[sv, cv]) lo hi nS (sC S) nC fC) :
    Calls Try.prog 24 #[.agg #[sv, cv, .string t, .int .i64 c], .int .i64 k0] w fun e w' => e = .returned (.int .i64 ((k0 + nS + 2 * nC : Nat) : Int)) ∧ dskV w' (.agg #[sv, cv]) lo hi nS (mS k0) nC (mkWr (k0 + nS)) ∧ Only w w' lo hi := by
  have H := hide h
  clear h
  obtain ⟨K2, hK2⟩ : ∃ K2, K2 = k0 + nS + 2 * nC := ⟨_, rfl⟩
  have HK := hide hK2
  rw [← hK2]
  clear hK2
  go_enter Try.func24, Try.ntmps24
  go_wp2_with fail
  have q0 : Below w.heap.size w (w.alloc (.cells #[sv, cv, .string t, .int .i64 c] 30)) := (Below.refl _ w).alloc (Nat.le_refl _) _
  have SM := law_markDisk (.agg #[sv, cv]) lo hi nS S nC fC k0 _ hS hC hk (Nat.le_trans hhi q0.size) (H.out.below q0)
  rw [← HK.out] at SM
  refine SM.mono ?_
  rintro e w1 ⟨rfl, hm1, ho1⟩
  have R1 := hide hm1
  have R2 := hide ((Only.of_below q0).trans ho1)
  clear SM hm1 ho1 q0 H
  go_wp2_with fail
  go_ret
  exact ⟨rfl, R1.out, R2.out⟩
set_option maxRecDepth 100000 in
set_option maxHeartbeats 800000 in
theorem law_heldDiskOut (sv cv : Value) (t : ByteArray) (c : Int) (lo hi nS nC k0 : Nat) (w : World) (hS : nS ≤ 1048576) (hC : nC ≤ 1048576) (hk : k0 ≤ 4194304) (h : dskV w (.agg #[sv, cv]) lo hi nS (mS k0) nC (mkWr (k0 + nS))) :
    Calls Try.prog 25 #[.agg #[sv, cv, .string t, .int .i64 c], .int .i64 k0] w fun e w' => e = .returned (.int .i64 ((k0 + nS + 2 * nC : Nat) : Int)) ∧ Below w.heap.size w w' := by
  have H := hide h
  clear h
  obtain ⟨K2, hK2⟩ : ∃ K2, K2 = k0 + nS + 2 * nC := ⟨_, rfl⟩
  have HK := hide hK2
  rw [← hK2]
  have n2 : ¬ (K2 : Int) < 0 := by omega
  clear hK2
  go_enter Try.func25, Try.ntmps25
  go_wp2_with fail
  have q0 : Below w.heap.size w (w.alloc (.cells #[sv, cv, .string t, .int .i64 c] 30)) := (Below.refl _ w).alloc (Nat.le_refl _) _
  have SM := law_heldDisk (.agg #[sv, cv]) lo hi nS nC k0 _ hS hC hk (H.out.below q0)
  rw [← HK.out] at SM
  refine SM.mono ?_
  rintro e w1 ⟨rfl, hb1⟩
  have B1 := hide (q0.trans (hb1.mono (by simp)))
  clear SM hb1 q0 H
  go_wp2_with fail
  go_ret
  exact ⟨rfl, B1.out⟩
end Go.Proofs.Ytipeelkmmjgehab
