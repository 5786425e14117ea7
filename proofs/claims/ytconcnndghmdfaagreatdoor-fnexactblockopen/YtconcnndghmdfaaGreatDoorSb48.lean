/- Put together: BlkOpenL, TabOf, OpenKeys. -/
import Derived.Test.YtconcnndghmdfaaGreatDoorSb22
import Derived.Test.YtconcnndghmdfaaGreatDoorSb47
import Derived.Test.YtconcnndghmdfaaGreatDoorSb24
import Derived.Lib.LaidTab
import Derived.LaidMore
import Derived.Stop.Joined
import Derived.Test.YtconcnndghmdfaaGreatDoorRows
import Derived.Test.YtconcnndghmdfaaGreatDoorSb1
import Derived.ProofKit
import Derived.OpenShut
import Derived.Deep.Slices
import Derived.Lib.SmallJoins
namespace Go.Proofs.YtconcnndghmdfaaGreatDoor
open Go Go.RowKit
set_option maxRecDepth 100000 in
set_option maxHeartbeats 1600000 in
theorem fnExactBlockOpen_walk (H M : ByteArray) (hH : H.size ≤ maxLen) (hM : M.size ≤ maxLen) (id : Int) (_wi : (Lit.int .i64 id).wf = true) (t : ByteArray) (ht : t.size ≤ maxLen) (w : World) (htab : Tab w) (hl : Laid w) :
    Calls Tryz.prog 5 #[.agg #[.string H, .string M], .int .i64 id, .string t] w fun e w' => e = .returned (.bool true) ∧ Below w.heap.size w w' := by
  have ht : t.size ≤ 9223372036854775807 := ht
  have HT := hide (And.intro htab hl)
  clear htab hl
  by_cases h0 : 1048576 < t.size
  · have d0 : (1048576 : Int) < (t.size : Int) := by omega
    have q0 := hide ((Below.refl w.heap.size w).alloc (Nat.le_refl _) (.cells #[.string H, .string M] 36))
    go_enter Tryz.func5, Tryz.ntmps5
    go_wp2_with fail
    go_ret
    exact ⟨rfl, q0.out⟩
  · have d0 : ¬ (1048576 : Int) < (t.size : Int) := by omega
    by_cases h : 1048576 < H.size + M.size
    · have S0 := hide (fun W => law_szKeys_no H M W hH hM h)
      clear h hH hM
      go_enter Tryz.func5, Tryz.ntmps5
      go_wp2_with fail
      refine (S0.out _).mono ?_
      rintro e w1 ⟨rfl, hb1⟩
      have HB := KeyL.one hb1
      clear hb1 S0
      go_wp2_with fail
      go_ret
      exact ⟨rfl, HB.low⟩
    · have S0 := hide (fun W => law_szKeys_yes H M W (by omega))
      have d1 : ¬ (1048576 : Int) - (H.size : Int) - (M.size : Int) < 0 := by omega
      have ST := hide (fun W => law_toKeys H M W)
      have SK := hide (fun W => spec_blockOpen H M t id W ht)
      have IK := hide (fun W (h : Tab W ∧ Laid W) => imp_blockOpen H M t id W h.1 h.2 ht)
      unfold textO at SK IK
      generalize openS (H, M) id t = r at *
      obtain ⟨X, c⟩ := r
      dsimp only at SK IK
      clear h hH hM
      go_enter Tryz.func5, Tryz.ntmps5
      go_wp2_with fail
      refine (S0.out _).mono ?_
      rintro e w1 ⟨rfl, hb1⟩
      have HB := KeyL.one hb1
      have c0 := HB.c0
      have c1 := HB.c1
      clear hb1 S0
      go_wp2_with fail
      refine (ST.out _).mono ?_
      rintro e w2 ⟨rfl, hb2⟩
      have HB := HB.call hb2
      clear hb2 c0 c1
      go_wp2_with fail
      refine (SK.out _).mono ?_
      rintro e w3 ⟨rfl, hb3⟩
      have HB := HB.call hb3
      have HA := HB.alloc (.cells #[.string X, .int .i64 0, .int .i64 c] 31)
      have HQ := hide (heap_alloc_new w3 (.cells #[.string X, .int .i64 0, .int .i64 c] 31))
      have c0 := HA.c0
      have c1 := HA.c1
      have HA := hide HA
      clear hb3 SK HB
      go_wp2_with fail
      refine (ST.out _).mono ?_
      rintro e w4 ⟨rfl, hb4⟩
      have HQ4 := hide ((hb4.block w3.heap.size (by simp)).trans HQ.out)
      have HB := hide (HA.out.call hb4)
      clear hb4 c0 c1 HQ
      go_wp2_with fail
      refine (IK.out _ ⟨HT.out.1.low HB.out.low, HT.out.2.low HB.out.low⟩).mono ?_
      rintro e w5 ⟨rfl, hb5⟩
      have HQ5 := hide ((hb5.block w3.heap.size ((Array.getElem?_eq_some_iff.1 HQ4.out).1)).trans HQ4.out)
      have HB := hide (HB.out.call hb5)
      clear hb5 HQ4 IK
      have HQ6 := hide ((((Below.refl w5.heap.size w5).alloc (Nat.le_refl _) (.cells #[.string X, .int .i64 0, .int .i64 c] 31)).block w3.heap.size ((Array.getElem?_eq_some_iff.1 HQ5.out).1)).trans HQ5.out)
      have q0 : (w5.alloc (.cells #[.string X, .int .i64 0, .int .i64 c] 31)).cell? ⟨w3.heap.size, 0, none⟩ = some (.string X) := by simp [World.cell?, HQ6.out]
      have q1 : (w5.alloc (.cells #[.string X, .int .i64 0, .int .i64 c] 31)).cell? ⟨w3.heap.size, 1, none⟩ = some (.int .i64 0) := by simp [World.cell?, HQ6.out]
      have q2 : (w5.alloc (.cells #[.string X, .int .i64 0, .int .i64 c] 31)).cell? ⟨w3.heap.size, 2, none⟩ = some (.int .i64 c) := by simp [World.cell?, HQ6.out]
      clear HQ5 HQ6
      go_wp2_with fail
      refine (eqTextOut_same X 0 c _).mono ?_
      rintro e w6 ⟨rfl, hb6⟩
      have HB := hide ((HB.out.alloc _).call hb6)
      clear hb6 q0 q1 q2
      go_wp2_with fail
      go_ret
      exact ⟨rfl, HB.out.low⟩
end Go.Proofs.YtconcnndghmdfaaGreatDoor
namespace Go.Proofs.YtconcnndghmdfaaGreatDoor
open Go.RowKit
theorem gTab : Tryz.prog.globalNamed "loop.example/g00320/impl.roundNums" = some 1 := by kernel_rfl
theorem gTabType : (Tryz.prog.globals[1]?).map (·.type) = some 235 := by kernel_rfl
theorem gTabCells : Tryz.prog.cellsOf 235 = 64 := by kernel_rfl
theorem gTabCell : Tryz.prog.cellsOf 176 = 1 := by kernel_rfl
def tabL : List (String × DataW Unit) := [("loop.example/g00320/impl.roundNums", Rows.laid_loop_example_g00320_impl_roundNums)]
theorem laid_plain {W : World} (h : laidMetH Tryz.prog tabL W) : laidMet Tryz.prog tabL W := by
  rw [MakeChecks.laidMetH_plain _ _ _ (by kernel_rfl)] at h; exact h
theorem tabIs {W : World} (h : laidMet Tryz.prog tabL W) : Lib.TabIs Tryz.prog W "loop.example/g00320/impl.roundNums" .u32 (shaKeys.map fun (n : Nat) => (n : Int)) :=
  Lib.tabIs_of_head (rest := []) gTab gTabType Tryz.underlying235 Tryz.underlying176 gTabCell gTabCells h
theorem tab_of_laid {W : World} (h : laidMet Tryz.prog tabL W) : Tab W := by
  intro j hj
  have hl : (shaKeys.map fun (n : Nat) => (n : Int)).length = 64 := by rw [List.length_map]; rfl
  rw [(tabIs h).cell gTab j (by omega)]
  have hj' : j < shaKeys.length := hj
  rw [List.getD_eq_getElem?_getD, List.getElem?_map, List.getElem?_eq_getElem hj', shaKey, List.getD_eq_getElem?_getD, List.getElem?_eq_getElem hj']
  rfl
theorem size_of_laid {W : World} (h : laidMet Tryz.prog tabL W) : 1 < W.heap.size :=
  block_lt_of_cell (tab_of_laid h 0 (by omega))
end Go.Proofs.YtconcnndghmdfaaGreatDoor
namespace Go.Proofs.YtconcnndghmdfaaGreatDoor
open Go.ChangeShapes Go.WideShapes Go.ChangeAt Go.RowKit Go.Deep Go.Joins
theorem Tryz.cellsLawKeys : Tryz.prog.cellsOf 36 = 2 := by kernel_rfl
set_option maxRecDepth 100000 in
theorem open_keys {H : Type} {enc : TypeId × Value → H} {W : World} {b0 : Nat} {v : Value} {d : DataW H} {p : List MemPlace} (hv : Value.okWide Tryz.prog W .any b0 36 v) (h : DataW.Trod enc Tryz.prog W 0 (fun _ => true) true 36 v d p) :
    ∃ a m : ByteArray, v = .agg #[.string a, .string m] ∧ a.size ≤ maxLen ∧ m.size ≤ maxLen := by
  obtain ⟨c0, c1, y0, y1, n, rfl, _, _, h0, h1⟩ := open_agg2 Tryz.underlying36 (by kernel_rfl) Tryz.cellsLawKeys hv h
  obtain ⟨z0, e0, _, s0⟩ := DataW.trod_string Tryz.underlying9 h0
  obtain ⟨z1, e1, _, s1⟩ := DataW.trod_string Tryz.underlying9 h1
  simp at e0 e1
  subst e0 e1
  exact ⟨z0, z1, rfl, s0, s1⟩
end Go.Proofs.YtconcnndghmdfaaGreatDoor
