/- Put together: KeyL, BlkOpenL. -/
import Derived.Test.YtconcnndghmdfaaGreatDoorSe42
import Derived.Test.YtconcnndghmdfaaGreatDoorSe44
import Derived.Test.YtconcnndghmdfaaGreatDoorSe46
namespace Go.Proofs.YtconcnndghmdfaaGreatDoor
open Go.RowKit
/-- Where the keys' block stands, and all that was there before. -/
structure KeyL (w : World) (H M : ByteArray) (w2 : World) : Prop where
  b : Below (w.heap.size + 1) (w.alloc (.cells #[.string H, .string M] 36)) w2
theorem KeyL.size {w w2 : World} {H M : ByteArray} (h : KeyL w H M w2) : w.heap.size + 1 ≤ w2.heap.size := by have := h.b.size; simpa using this
theorem KeyL.call {w w1 w2 : World} {H M : ByteArray} (h : KeyL w H M w1) (hb : Below w1.heap.size w1 w2) : KeyL w H M w2 := ⟨h.b.trans (hb.mono h.size)⟩
theorem KeyL.call' {w w1 w2 : World} {H M : ByteArray} (h : KeyL w H M w1) (hb : Below w1.drew.heap.size w1.drew w2) : KeyL w H M w2 := ⟨h.b.drew.trans (hb.mono h.size)⟩
theorem KeyL.c0 {w w2 : World} {H M : ByteArray} (h : KeyL w H M w2) : w2.cell? ⟨w.heap.size, 0, none⟩ = some (.string H) := (keys_cells h.b (Nat.lt_succ_self _) (heap_alloc_new w _)).1
theorem KeyL.c1 {w w2 : World} {H M : ByteArray} (h : KeyL w H M w2) : w2.cell? ⟨w.heap.size, 1, none⟩ = some (.string M) := (keys_cells h.b (Nat.lt_succ_self _) (heap_alloc_new w _)).2.1
theorem KeyL.alloc {w w1 : World} {H M : ByteArray} (h : KeyL w H M w1) (o : Obj) : KeyL w H M (w1.alloc o) := ⟨h.b.alloc h.size o⟩
theorem KeyL.drew {w w1 : World} {H M : ByteArray} (h : KeyL w H M w1) : KeyL w H M w1.drew := ⟨h.b.drew⟩
theorem KeyL.low {w w2 : World} {H M : ByteArray} (h : KeyL w H M w2) : Below w.heap.size w w2 := ((Below.refl _ _).alloc (Nat.le_refl _) _).trans (h.b.mono (Nat.le_succ _))
theorem KeyL.one {w w1 : World} {H M : ByteArray} (h : Below (w.alloc (.cells #[.string H, .string M] 36)).heap.size (w.alloc (.cells #[.string H, .string M] 36)) w1) : KeyL w H M w1 := ⟨by simpa using h⟩
end Go.Proofs.YtconcnndghmdfaaGreatDoor
namespace Go.Proofs.YtconcnndghmdfaaGreatDoor
open Go Go.RowKit
set_option maxRecDepth 100000 in
set_option maxHeartbeats 1600000 in
theorem fnExactBlockOpen_walk (H M : ByteArray) (hH : H.size ≤ maxLen) (hM : M.size ≤ maxLen) (id : Int) (_wi : (Lit.int .i64 id).wf = true) (t : ByteArray) (ht : t.size ≤ maxLen) (w : World) (htab : Tab w) (hl : Laid w) :
    Calls Tryz.prog 5 #[.agg #[.string H, .string M], .int .i64 id, .string t] w fun e w' => e = .returned (.bool true) ∧ Below w.heap.size w w' := by
  have ht : t.size ≤ 9223372036854775807 := ht
  have HT := hide (And.intro htab hl)
  clear htab hl
  by_cases h0 : 1048576 < t.size
  · have d0 : (1048576 : Int) < (t.size : Int) := by omega
    have q0 := hide ((Below.refl w.heap.size w).alloc (Nat.le_refl _) (.cells #[.string H, .string M] 36))
    go_enter Tryz.func5, Tryz.ntmps5
    go_wp2_with fail
    go_ret
    exact ⟨rfl, q0.out⟩
  · have d0 : ¬ (1048576 : Int) < (t.size : Int) := by omega
    by_cases h : 1048576 < H.size + M.size
    · have S0 := hide (fun W => law_szKeys_no H M W hH hM h)
      clear h hH hM
      go_enter Tryz.func5, Tryz.ntmps5
      go_wp2_with fail
      refine (S0.out _).mono ?_
      rintro e w1 ⟨rfl, hb1⟩
      have HB := KeyL.one hb1
      clear hb1 S0
      go_wp2_with fail
      go_ret
      exact ⟨rfl, HB.low⟩
    · have S0 := hide (fun W => law_szKeys_yes H M W (by omega))
      have d1 : ¬ (1048576 : Int) - (H.size : Int) - (M.size : Int) < 0 := by omega
      have ST := hide (fun W => law_toKeys H M W)
      have SK := hide (fun W => spec_blockOpen H M t id W ht)
      have IK := hide (fun W (h : Tab W ∧ Laid W) => imp_blockOpen H M t id W h.1 h.2 ht)
      unfold textO at SK IK
      generalize openS (H, M) id t = r at *
      obtain ⟨X, c⟩ := r
      dsimp only at SK IK
      clear h hH hM
      go_enter Tryz.func5, Tryz.ntmps5
      go_wp2_with fail
      refine (S0.out _).mono ?_
      rintro e w1 ⟨rfl, hb1⟩
      have HB := KeyL.one hb1
      have c0 := HB.c0
      have c1 := HB.c1
      clear hb1 S0
      go_wp2_with fail
      refine (ST.out _).mono ?_
      rintro e w2 ⟨rfl, hb2⟩
      have HB := HB.call hb2
      clear hb2 c0 c1
      go_wp2_with fail
      refine (SK.out _).mono ?_
      rintro e w3 ⟨rfl, hb3⟩
      have HB := HB.call hb3
      have HA := HB.alloc (.cells #[.string X, .int .i64 0, .int .i64 c] 31)
      have HQ := hide (heap_alloc_new w3 (.cells #[.string X, .int .i64 0, .int .i64 c] 31))
      have c0 := HA.c0
      have c1 := HA.c1
      have HA := hide HA
      clear hb3 SK HB
      go_wp2_with fail
      refine (ST.out _).mono ?_
      rintro e w4 ⟨rfl, hb4⟩
      have HQ4 := hide ((hb4.block w3.heap.size (by simp)).trans HQ.out)
      have HB := hide (HA.out.call hb4)
      clear hb4 c0 c1 HQ
      go_wp2_with fail
      refine (IK.out _ ⟨HT.out.1.low HB.out.low, HT.out.2.low HB.out.low⟩).mono ?_
      rintro e w5 ⟨rfl, hb5⟩
      have HQ5 := hide ((hb5.block w3.heap.size ((Array.getElem?_eq_some_iff.1 HQ4.out).1)).trans HQ4.out)
      have HB := hide (HB.out.call hb5)
      clear hb5 HQ4 IK
      have HQ6 := hide ((((Below.refl w5.heap.size w5).alloc (Nat.le_refl _) (.cells #[.string X, .int .i64 0, .int .i64 c] 31)).block w3.heap.size ((Array.getElem?_eq_some_iff.1 HQ5.out).1)).trans HQ5.out)
      have q0 : (w5.alloc (.cells #[.string X, .int .i64 0, .int .i64 c] 31)).cell? ⟨w3.heap.size, 0, none⟩ = some (.string X) := by simp [World.cell?, HQ6.out]
      have q1 : (w5.alloc (.cells #[.string X, .int .i64 0, .int .i64 c] 31)).cell? ⟨w3.heap.size, 1, none⟩ = some (.int .i64 0) := by simp [World.cell?, HQ6.out]
      have q2 : (w5.alloc (.cells #[.string X, .int .i64 0, .int .i64 c] 31)).cell? ⟨w3.heap.size, 2, none⟩ = some (.int .i64 c) := by simp [World.cell?, HQ6.out]
      clear HQ5 HQ6
      go_wp2_with fail
      refine (eqTextOut_same X 0 c _).mono ?_
      rintro e w6 ⟨rfl, hb6⟩
      have HB := hide ((HB.out.alloc _).call hb6)
      clear hb6 q0 q1 q2
      go_wp2_with fail
      go_ret
      exact ⟨rfl, HB.out.low⟩
end Go.Proofs.YtconcnndghmdfaaGreatDoor
