/- Put together: SealPb, LwKeys, KeyL, BlkSealL, TabOf, OpenKeys. -/
import Derived.Test.YtconcnndghmdfaaGreatDoorSa50
import Derived.Test.YtconcnndghmdfaaGreatDoorSa5
import Derived.Test.YtconcnndghmdfaaGreatDoorSa1
import Derived.Handy
import Derived.Test.YtconcnndghmdfaaGreatDoorSa23
import Derived.Test.YtconcnndghmdfaaGreatDoorSa25
import Derived.Lib.LaidTab
import Derived.LaidMore
import Derived.Stop.Joined
import Derived.Test.YtconcnndghmdfaaGreatDoorRows
import Derived.ProofKit
import Derived.OpenShut
import Derived.Deep.Slices
import Derived.Lib.SmallJoins
namespace Go.Proofs.YtconcnndghmdfaaGreatDoor
open Go.RowKit
set_option maxRecDepth 100000 in
set_option maxHeartbeats 3200000 in
theorem imp_blockSeal (H M : ByteArray) (id far : Int) (t : ByteArray) (w : World) (htab : Tab w) (ht : t.size ≤ 9223372036854775807) :
    Calls Tryz.prog 7 #[.agg #[.string H, .string M], .int .i64 id, .int .i64 far, .string t] w fun e w' => e = .returned (.string (sealS (H, M) id far t)) ∧ Below w.heap.size w w' := by
  by_cases hk : keysOk (H, M) = true
  · have SK := hide (fun W => by have h := imp_keysRight H M W; rw [hk] at h; exact h)
    by_cases hi : idOk id = true
    · have SI := hide (fun W => by have h := imp_idRight id W; rw [hi] at h; exact h)
      obtain ⟨h0, h1⟩ : 0 ≤ id ∧ id ≤ 2000000 := by unfold idOk at hi; simpa using hi
      by_cases hr : farOk10 far = true
      · have SR := hide (fun W => by have h := imp_farRight far W; rw [hr] at h; exact h)
        obtain ⟨h2, h3⟩ : 0 ≤ far ∧ far ≤ 256 := by unfold farOk10 at hr; simpa using hr
        by_cases h4 : t.size ≤ 4000
        · rw [show sealS (H, M) id far t = sealB (H, M) id far t from if_pos ⟨hk, hi, h2, h3, h4⟩]
          by_cases hf : 0 < far
          · exact imp_sealGoodF H M id far t w htab hk h0 h1 h2 h3 h4 hf
          · exact imp_sealGoodN H M id far t w htab hk h0 h1 h2 h3 h4 hf
        · have d4 : (4000 : Int) < (t.size : Int) := by omega
          have d5 : decide ((4000 : Int) < (t.size : Int)) = true := decide_eq_true d4
          have E := hide (show sealS (H, M) id far t = ⟨#[]⟩ from if_neg (fun h => h4 h.2.2.2.2))
          clear hk hi hr htab
          go_enter Tryz.func7, Tryz.ntmps7
          go_wp2_with fail
          refine (SK.out _).mono ?_
          rintro e w1 ⟨rfl, hb1⟩
          have HB := KeyW.one hb1
          have c0 := HB.c0
          have c1 := HB.c1
          clear hb1 SK
          go_wp2_with fail
          refine (SI.out _).mono ?_
          rintro e w2 ⟨rfl, hb2⟩
          have HB := HB.call hb2
          have c0 := HB.c0
          have c1 := HB.c1
          clear hb2 SI
          go_wp2_with fail
          refine (SR.out _).mono ?_
          rintro e w3 ⟨rfl, hb3⟩
          have HB := HB.call hb3
          have c0 := HB.c0
          have c1 := HB.c1
          clear hb3 SR
          go_wp2_with fail
          go_ret
          exact ⟨by rw [E.out]; first | done | rfl, HB.low⟩
      · have hr' : farOk10 far = false := Bool.eq_false_iff.2 hr
        have SR := hide (fun W => by have h := imp_farRight far W; rw [hr'] at h; exact h)
        have E := hide (show sealS (H, M) id far t = ⟨#[]⟩ from if_neg (fun h => hr (by unfold farOk10; simp; exact ⟨h.2.2.1, h.2.2.2.1⟩)))
        clear hk hi hr hr' htab
        go_enter Tryz.func7, Tryz.ntmps7
        go_wp2_with fail
        refine (SK.out _).mono ?_
        rintro e w1 ⟨rfl, hb1⟩
        have HB := KeyW.one hb1
        have c0 := HB.c0
        have c1 := HB.c1
        clear hb1 SK
        go_wp2_with fail
        refine (SI.out _).mono ?_
        rintro e w2 ⟨rfl, hb2⟩
        have HB := HB.call hb2
        have c0 := HB.c0
        have c1 := HB.c1
        clear hb2 SI
        go_wp2_with fail
        refine (SR.out _).mono ?_
        rintro e w3 ⟨rfl, hb3⟩
        have HB := HB.call hb3
        have c0 := HB.c0
        have c1 := HB.c1
        clear hb3 SR
        go_wp2_with fail
        go_ret
        exact ⟨by rw [E.out]; first | done | rfl, HB.low⟩
    · have hi' : idOk id = false := Bool.eq_false_iff.2 hi
      have SI := hide (fun W => by have h := imp_idRight id W; rw [hi'] at h; exact h)
      have E := hide (show sealS (H, M) id far t = ⟨#[]⟩ from if_neg (fun h => hi h.2.1))
      clear hk hi hi' htab
      go_enter Tryz.func7, Tryz.ntmps7
      go_wp2_with fail
      refine (SK.out _).mono ?_
      rintro e w1 ⟨rfl, hb1⟩
      have HB := KeyW.one hb1
      have c0 := HB.c0
      have c1 := HB.c1
      clear hb1 SK
      go_wp2_with fail
      refine (SI.out _).mono ?_
      rintro e w2 ⟨rfl, hb2⟩
      have HB := HB.call hb2
      have c0 := HB.c0
      have c1 := HB.c1
      clear hb2 SI
      go_wp2_with fail
      go_ret
      exact ⟨by rw [E.out]; first | done | rfl, HB.low⟩
  · have hk' : keysOk (H, M) = false := Bool.eq_false_iff.2 hk
    have SK := hide (fun W => by have h := imp_keysRight H M W; rw [hk'] at h; exact h)
    have E := hide (show sealS (H, M) id far t = ⟨#[]⟩ from if_neg (fun h => hk h.1))
    clear hk hk' htab
    go_enter Tryz.func7, Tryz.ntmps7
    go_wp2_with fail
    refine (SK.out _).mono ?_
    rintro e w1 ⟨rfl, hb1⟩
    have HB := KeyW.one hb1
    have c0 := HB.c0
    have c1 := HB.c1
    clear hb1 SK
    go_wp2_with fail
    go_ret
    exact ⟨by rw [E.out]; first | done | rfl, HB.low⟩
end Go.Proofs.YtconcnndghmdfaaGreatDoor
namespace Go.Proofs.YtconcnndghmdfaaGreatDoor
open Go Go.RowKit
set_option maxRecDepth 100000 in
theorem law_toKeys (H M : ByteArray) (w : World) :
    Calls Tryz.prog 15 #[.agg #[.string H, .string M]] w fun e w' => e = .returned (.agg #[.string H, .string M]) ∧ Below w.heap.size w w' := by
  go_enter Tryz.func15, Tryz.ntmps15
  go_wp2_with fail
  go_returns
  exact ⟨rfl, by go_grown⟩
set_option maxRecDepth 100000 in
theorem law_szKeys_no (H M : ByteArray) (w : World) (hH : H.size ≤ maxLen) (hM : M.size ≤ maxLen) (h : 1048576 < H.size + M.size) :
    Calls Tryz.prog 14 #[.agg #[.string H, .string M], .int .i64 1048576] w fun e w' => e = .returned (.int .i64 (-1)) ∧ Below w.heap.size w w' := by
  have q0 := hide ((Below.refl w.heap.size w).alloc (Nat.le_refl _) (.cells #[.string H, .string M] 36))
  have hH : H.size ≤ 9223372036854775807 := hH
  have hM : M.size ≤ 9223372036854775807 := hM
  by_cases h1 : 1048576 < H.size
  · have d1 : (1048576 : Int) - (H.size : Int) < 0 := by omega
    go_enter Tryz.func14, Tryz.ntmps14
    go_wp2_with fail
    go_ret
    exact ⟨rfl, q0.out⟩
  · have d1 : ¬ (1048576 : Int) - (H.size : Int) < 0 := by omega
    have d2 : (1048576 : Int) - (H.size : Int) - (M.size : Int) < 0 := by omega
    go_enter Tryz.func14, Tryz.ntmps14
    go_wp2_with fail
    go_ret
    exact ⟨rfl, q0.out⟩
set_option maxRecDepth 100000 in
theorem law_szKeys_yes (H M : ByteArray) (w : World) (h : H.size + M.size ≤ 1048576) :
    Calls Tryz.prog 14 #[.agg #[.string H, .string M], .int .i64 1048576] w fun e w' => e = .returned (.int .i64 (1048576 - (H.size : Int) - (M.size : Int))) ∧ Below w.heap.size w w' := by
  have q0 := hide ((Below.refl w.heap.size w).alloc (Nat.le_refl _) (.cells #[.string H, .string M] 36))
  have d1 : ¬ (1048576 : Int) - (H.size : Int) < 0 := by omega
  have d2 : ¬ (1048576 : Int) - (H.size : Int) - (M.size : Int) < 0 := by omega
  go_enter Tryz.func14, Tryz.ntmps14
  go_wp2_with fail
  go_ret
  exact ⟨rfl, q0.out⟩
end Go.Proofs.YtconcnndghmdfaaGreatDoor
namespace Go.Proofs.YtconcnndghmdfaaGreatDoor
open Go.RowKit
/-- Where the keys' block stands, and all that was there before. -/
structure KeyL (w : World) (H M : ByteArray) (w2 : World) : Prop where
  b : Below (w.heap.size + 1) (w.alloc (.cells #[.string H, .string M] 36)) w2
theorem KeyL.size {w w2 : World} {H M : ByteArray} (h : KeyL w H M w2) : w.heap.size + 1 ≤ w2.heap.size := by have := h.b.size; simpa using this
theorem KeyL.call {w w1 w2 : World} {H M : ByteArray} (h : KeyL w H M w1) (hb : Below w1.heap.size w1 w2) : KeyL w H M w2 := ⟨h.b.trans (hb.mono h.size)⟩
theorem KeyL.call' {w w1 w2 : World} {H M : ByteArray} (h : KeyL w H M w1) (hb : Below w1.drew.heap.size w1.drew w2) : KeyL w H M w2 := ⟨h.b.drew.trans (hb.mono h.size)⟩
theorem KeyL.c0 {w w2 : World} {H M : ByteArray} (h : KeyL w H M w2) : w2.cell? ⟨w.heap.size, 0, none⟩ = some (.string H) := (keys_cells h.b (Nat.lt_succ_self _) (heap_alloc_new w _)).1
theorem KeyL.c1 {w w2 : World} {H M : ByteArray} (h : KeyL w H M w2) : w2.cell? ⟨w.heap.size, 1, none⟩ = some (.string M) := (keys_cells h.b (Nat.lt_succ_self _) (heap_alloc_new w _)).2.1
theorem KeyL.alloc {w w1 : World} {H M : ByteArray} (h : KeyL w H M w1) (o : Obj) : KeyL w H M (w1.alloc o) := ⟨h.b.alloc h.size o⟩
theorem KeyL.drew {w w1 : World} {H M : ByteArray} (h : KeyL w H M w1) : KeyL w H M w1.drew := ⟨h.b.drew⟩
theorem KeyL.low {w w2 : World} {H M : ByteArray} (h : KeyL w H M w2) : Below w.heap.size w w2 := ((Below.refl _ _).alloc (Nat.le_refl _) _).trans (h.b.mono (Nat.le_succ _))
theorem KeyL.one {w w1 : World} {H M : ByteArray} (h : Below (w.alloc (.cells #[.string H, .string M] 36)).heap.size (w.alloc (.cells #[.string H, .string M] 36)) w1) : KeyL w H M w1 := ⟨by simpa using h⟩
end Go.Proofs.YtconcnndghmdfaaGreatDoor
namespace Go.Proofs.YtconcnndghmdfaaGreatDoor
open Go Go.RowKit
set_option maxRecDepth 100000 in
set_option maxHeartbeats 1600000 in
theorem fnExactBlockSeal_walk (H M : ByteArray) (hH : H.size ≤ maxLen) (hM : M.size ≤ maxLen) (id : Int) (_wi : (Lit.int .i64 id).wf = true) (far : Int) (_wf : (Lit.int .i64 far).wf = true) (t : ByteArray) (ht : t.size ≤ maxLen) (w : World) (htab : Tab w) (_hz : 1 < w.heap.size) :
    Calls Tryz.prog 4 #[.agg #[.string H, .string M], .int .i64 id, .int .i64 far, .string t] w fun e w' => e = .returned (.bool true) ∧ Below w.heap.size w w' := by
  have ht : t.size ≤ 9223372036854775807 := ht
  have HT := hide htab
  clear htab
  by_cases h0 : 1048576 < t.size
  · have d0 : (1048576 : Int) < (t.size : Int) := by omega
    have q0 := hide ((Below.refl w.heap.size w).alloc (Nat.le_refl _) (.cells #[.string H, .string M] 36))
    go_enter Tryz.func4, Tryz.ntmps4
    go_wp2_with fail
    go_ret
    exact ⟨rfl, q0.out⟩
  · have d0 : ¬ (1048576 : Int) < (t.size : Int) := by omega
    by_cases h : 1048576 < H.size + M.size
    · have S0 := hide (fun W => law_szKeys_no H M W hH hM h)
      clear h hH hM
      go_enter Tryz.func4, Tryz.ntmps4
      go_wp2_with fail
      refine (S0.out _).mono ?_
      rintro e w1 ⟨rfl, hb1⟩
      have HB := KeyL.one hb1
      clear hb1 S0
      go_wp2_with fail
      go_ret
      exact ⟨rfl, HB.low⟩
    · have S0 := hide (fun W => law_szKeys_yes H M W (by omega))
      have d1 : ¬ (1048576 : Int) - (H.size : Int) - (M.size : Int) < 0 := by omega
      have ST := hide (fun W => law_toKeys H M W)
      have SK := hide (fun W => spec_blockSeal H M id far t W ht)
      have IK := hide (fun W (h : Tab W) => imp_blockSeal H M id far t W h ht)
      generalize sealS (H, M) id far t = r at *
      clear h hH hM
      go_enter Tryz.func4, Tryz.ntmps4
      go_wp2_with fail
      refine (S0.out _).mono ?_
      rintro e w1 ⟨rfl, hb1⟩
      have HB := KeyL.one hb1
      have c0 := HB.c0
      have c1 := HB.c1
      clear hb1 S0
      go_wp2_with fail
      refine (ST.out _).mono ?_
      rintro e w2 ⟨rfl, hb2⟩
      have HB := HB.call hb2
      clear hb2 c0 c1
      go_wp2_with fail
      refine (SK.out _).mono ?_
      rintro e w3 ⟨rfl, hb3⟩
      have HB := HB.call hb3
      have c0 := HB.c0
      have c1 := HB.c1
      clear hb3 SK
      go_wp2_with fail
      refine (ST.out _).mono ?_
      rintro e w4 ⟨rfl, hb4⟩
      have HB := HB.call hb4
      clear hb4 c0 c1
      go_wp2_with fail
      refine (IK.out _ (HT.out.low HB.low)).mono ?_
      rintro e w5 ⟨rfl, hb5⟩
      have HB := HB.call hb5
      clear hb5
      go_wp2_with fail
      go_ret
      exact ⟨rfl, HB.low⟩
end Go.Proofs.YtconcnndghmdfaaGreatDoor
namespace Go.Proofs.YtconcnndghmdfaaGreatDoor
open Go.RowKit
theorem gTab : Tryz.prog.globalNamed "loop.example/g00320/impl.roundNums" = some 1 := by kernel_rfl
theorem gTabType : (Tryz.prog.globals[1]?).map (·.type) = some 235 := by kernel_rfl
theorem gTabCells : Tryz.prog.cellsOf 235 = 64 := by kernel_rfl
theorem gTabCell : Tryz.prog.cellsOf 176 = 1 := by kernel_rfl
def tabL : List (String × DataW Unit) := [("loop.example/g00320/impl.roundNums", Rows.laid_loop_example_g00320_impl_roundNums)]
theorem laid_plain {W : World} (h : laidMetH Tryz.prog tabL W) : laidMet Tryz.prog tabL W := by
  rw [MakeChecks.laidMetH_plain _ _ _ (by kernel_rfl)] at h; exact h
theorem tabIs {W : World} (h : laidMet Tryz.prog tabL W) : Lib.TabIs Tryz.prog W "loop.example/g00320/impl.roundNums" .u32 (shaKeys.map fun (n : Nat) => (n : Int)) :=
  Lib.tabIs_of_head (rest := []) gTab gTabType Tryz.underlying235 Tryz.underlying176 gTabCell gTabCells h
theorem tab_of_laid {W : World} (h : laidMet Tryz.prog tabL W) : Tab W := by
  intro j hj
  have hl : (shaKeys.map fun (n : Nat) => (n : Int)).length = 64 := by rw [List.length_map]; rfl
  rw [(tabIs h).cell gTab j (by omega)]
  have hj' : j < shaKeys.length := hj
  rw [List.getD_eq_getElem?_getD, List.getElem?_map, List.getElem?_eq_getElem hj', shaKey, List.getD_eq_getElem?_getD, List.getElem?_eq_getElem hj']
  rfl
theorem size_of_laid {W : World} (h : laidMet Tryz.prog tabL W) : 1 < W.heap.size :=
  block_lt_of_cell (tab_of_laid h 0 (by omega))
end Go.Proofs.YtconcnndghmdfaaGreatDoor
namespace Go.Proofs.YtconcnndghmdfaaGreatDoor
open Go.ChangeShapes Go.WideShapes Go.ChangeAt Go.RowKit Go.Deep Go.Joins
theorem Tryz.cellsLawKeys : Tryz.prog.cellsOf 36 = 2 := by kernel_rfl
set_option maxRecDepth 100000 in
theorem open_keys {H : Type} {enc : TypeId × Value → H} {W : World} {b0 : Nat} {v : Value} {d : DataW H} {p : List MemPlace} (hv : Value.okWide Tryz.prog W .any b0 36 v) (h : DataW.Trod enc Tryz.prog W 0 (fun _ => true) true 36 v d p) :
    ∃ a m : ByteArray, v = .agg #[.string a, .string m] ∧ a.size ≤ maxLen ∧ m.size ≤ maxLen := by
  obtain ⟨c0, c1, y0, y1, n, rfl, _, _, h0, h1⟩ := open_agg2 Tryz.underlying36 (by kernel_rfl) Tryz.cellsLawKeys hv h
  obtain ⟨z0, e0, _, s0⟩ := DataW.trod_string Tryz.underlying9 h0
  obtain ⟨z1, e1, _, s1⟩ := DataW.trod_string Tryz.underlying9 h1
  simp at e0 e1
  subst e0 e1
  exact ⟨z0, z1, rfl, s0, s1⟩
end Go.Proofs.YtconcnndghmdfaaGreatDoor
