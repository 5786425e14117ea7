/- The walks over the laws' toInt64S, eqInt64S, markInt64S. -/
import Derived.Test.YtnehnhclhokahaaRows
import Derived.Test.YtnehnhclhokahaaLwV
import Derived.Test.YtnehnhclhokahaaRangeDec
import Derived.BigRegion
import Derived.BigQuiet
import Derived.Deep.QuietTactic
namespace Go.Proofs.Ytnehnhclhokahaa
open Go.RowKit
def i64F (l : List Int) (j : Nat) : Value := .int .i64 (l.getD j 0)
theorem valV.ctx {w : World} {v : Value} {l : List Int} (h : valV w v l.length (i64F l)) : CtxAt w w.heap.size v l := by
  obtain ⟨ao, cap, rfl, hcap, h | ⟨g, rfl, hl, hc⟩⟩ := h
  · exact ⟨ao, cap, rfl, hcap, .inl (List.length_eq_zero_iff.1 h)⟩
  · refine ⟨_, cap, rfl, hcap, .inr ⟨g, 0, rfl, hl, fun j x hx => ?_⟩⟩
    have hj := (List.getElem?_eq_some_iff.1 hx).1
    rw [Nat.zero_add, (hc j hj).1, i64F, List.getD_eq_getElem?_getD, hx]; rfl
theorem Try.infoI64 : (Try.prog.info? 2).map (fun i => (i.zero, i.size, i.bytes)) = some (some (.int .i64 0), 1, 8) := by kernel_rfl
set_option maxRecDepth 100000 in
set_option maxHeartbeats 400000 in
theorem law_toI64 (v : Value) (l : List Int) (w : World) (hlen : l.length ≤ 1048576) (hb : CtxAt w w.heap.size v l) :
    Calls Try.prog 15 #[v] w fun e w' => ∃ o, e = .returned o ∧ valV w' o l.length (i64F l) ∧ within o w.heap.size w'.heap.size ∧ Below w.heap.size w w' := by
  obtain ⟨a, cap, rfl, hcap, hbits⟩ := hb
  have HB := hide hbits
  clear hbits
  obtain ⟨n, hn⟩ : ∃ n, n = l.length := ⟨_, rfl⟩
  rw [← hn] at hlen hcap ⊢
  have HN := hide hn
  have hcap' : (n : Int) ≤ (cap : Int) := by omega
  have hmk : ∀ w : World, (Instr.makeSlice 26 (.int .i64 (n : Int)) (.int .i64 (n : Int))).run Try.prog w = .ok (.slice (some ⟨w.heap.size, 0, none⟩) n n) (w.alloc (.cells (madeCells #[.int .i64 0] n) 2)) := run_make_row' (P := Try.prog) 26 2 (.int .i64 0) 8 Try.underlying26 Try.infoI64 rfl .i64 .i64 n (by omega) (by omega)
  clear hn
  go_enter Try.func15, Try.ntmps15
  go_wp2_with fail
  clear hmk
  go_loopw [4] (fun i wx => ∃ (k : Nat) (f : Nat → Value), k ≤ n ∧ i = .int .i64 k ∧ Hid (∀ j, j < k → f j = i64F l j) ∧ wx.rowIs w.heap.size 2 n f ∧ Below w.heap.size w wx) (fun i _ => n - (intOf i).toNat)
  case atStart => exact ⟨0, fun _ => .int .i64 0, by omega, rfl, fun j hj => by omega, World.rowIs_made _ _ _ _, (Below.refl _ _).alloc (Nat.le_refl _) _⟩
  case round =>
    obtain ⟨k, f, hk, rfl, hf, hrw, hbl⟩ := hrel
    by_cases hlt : k < n
    · have hlt' : (k : Int) < (n : Int) := by omega
      obtain ⟨x, hx⟩ : ∃ x, l[k]? = some x := ⟨_, List.getElem?_eq_getElem (by rw [← HN.out]; exact hlt)⟩
      obtain h0 | ⟨r, o, rfl, hr, hcells⟩ := HB.out
      · rw [h0] at hx; simp at hx
      have x1 := (hbl.cell (p := ⟨r, o + k, none⟩) hr).trans (hcells k x hx)
      have HX := hide (show i64F l k = .int .i64 x by rw [i64F, List.getD_eq_getElem?_getD, hx]; rfl)
      have ck := hrw.cell (i := k) hlt
      have hfz := hrw.frozen k
      clear hcells hx
      go_wp2_with fail
      go_roundw
      case rel =>
        refine ⟨k + 1, _, by omega, by go_num, fun j hj => ?_, hrw.set k _, hbl.setCell (Nat.le_refl _) _⟩
        by_cases e : j = k
        · rw [if_pos e, e, HX.out]
        · rw [if_neg e]; exact hf.out j (by omega)
      case measure => simp [intOf]; omega
    · have hlt' : ¬ (k : Int) < (n : Int) := by omega
      have hfin := hide (valV.of_row (cap := n) hrw (Nat.le_refl n) (Nat.le_refl n) (k := i64F l) (fun j hj => (hf.out j (by omega)).symm))
      have hlt9 := hrw.lt
      clear hf hrw
      go_wp2_with fail
      go_ret
      exact ⟨_, rfl, hfin.out, fun k hk => by cases hk; exact ⟨Nat.le_refl _, hlt9⟩, hbl⟩
set_option maxRecDepth 100000 in
set_option maxHeartbeats 400000 in
theorem law_eqI64 (va vb : Value) (n : Nat) (z : Nat → Int) (w : World) (hn : n ≤ 1048576) (ha : valV w va n (fun j => .int .i64 (z j))) (hb : valV w vb n (fun j => .int .i64 (z j))) :
    Calls Try.prog 17 #[va, vb] w fun e w' => e = .returned (.bool true) ∧ Below w.heap.size w w' := by
  obtain ⟨aa, ca, rfl, hca, hA⟩ := ha
  obtain ⟨ab, cb, rfl, hcb, hB⟩ := hb
  have HA := hide hA
  have HB := hide hB
  clear hA hB
  go_enter Try.func17, Try.ntmps17
  go_wp2_with fail
  go_loopw [5] (fun i wx => ∃ k : Nat, k ≤ n ∧ i = .int .i64 k ∧ Below w.heap.size w wx) (fun i _ => n - (intOf i).toNat)
  case atStart => exact ⟨0, Nat.zero_le _, rfl, Below.refl _ _⟩
  case round =>
    obtain ⟨k, hk, rfl, hbl⟩ := hrel
    by_cases hlt : k < n
    · have hlt' : decide ((k : Int) < (n : Int)) = true := decide_eq_true (by omega)
      have hlt2 : (k : Int) < (n : Int) := by omega
      obtain h0 | ⟨ga, rfl, hga, hca⟩ := HA.out
      · omega
      obtain h0 | ⟨gb, rfl, hgb, hcb⟩ := HB.out
      · omega
      have c1 : wr.cell? ⟨ga, k, none⟩ = some (.int .i64 (z k)) := (hbl.cell (p := ⟨ga, k, none⟩) hga).trans (hca k hlt).1
      have c2 : wr.cell? ⟨gb, k, none⟩ = some (.int .i64 (z k)) := (hbl.cell (p := ⟨gb, k, none⟩) hgb).trans (hcb k hlt).1
      clear hca hcb HA HB
      generalize z k = X at *
      go_wp2_with fail
      go_region
      go_wp2_with fail
      go_roundw
      case rel => exact ⟨k + 1, by omega, by go_num, hbl.drew⟩
      case measure => simp [intOf]; omega
    · have hlt' : decide ((k : Int) < (n : Int)) = false := decide_eq_false (by omega)
      go_wp2_with fail
      go_ret
      exact ⟨rfl, hbl⟩
set_option maxRecDepth 100000 in
set_option maxHeartbeats 400000 in
theorem law_markI64 (v : Value) (n k0 : Nat) (f : Nat → Value) (w : World) (hn : n ≤ 1048576) (hk0 : k0 ≤ 1048576) (ha : valV w v n f) :
    Calls Try.prog 18 #[v, .int .i64 k0] w fun e w' => e = .returned (.int .i64 ((k0 + n : Nat) : Int)) ∧ valV w' v n (fun j => .int .i64 ((k0 + j : Nat) : Int)) ∧ w.grownBy w' v.ownBlock := by
  obtain ⟨ao, cap, rfl, hcap, hA⟩ := ha
  have hcap' : (n : Int) ≤ (cap : Int) := by omega
  by_cases hn0 : n = 0
  · subst hn0
    clear hA
    go_enter Try.func18, Try.ntmps18
    go_wp2_with fail
    go_loopw [1, 5] (fun k i wx => k = .int .i64 k0 ∧ i = .int .i64 0 ∧ w = wx) (fun _ _ _ => 0)
    case atStart => exact ⟨rfl, rfl, rfl⟩
    case round =>
      obtain ⟨rfl, rfl, rfl⟩ := hrel
      go_wp2_with fail
      go_ret
      exact ⟨rfl, ⟨ao, cap, rfl, hcap, .inl rfl⟩, ⟨rfl, rfl, rfl, Nat.le_refl _, fun _ _ _ => rfl⟩⟩
  · obtain h0 | ⟨g, rfl, hg, hc⟩ := hA
    · exact absurd h0 hn0
    have HC := hide hc
    clear hc
    go_enter Try.func18, Try.ntmps18
    go_wp2_with fail
    go_loopw [1, 5] (fun k i wx => ∃ (m : Nat) (h : Nat → Value), m ≤ n ∧ i = .int .i64 m ∧ k = .int .i64 ((k0 + m : Nat) : Int) ∧ Hid (∀ j, j < m → h j = .int .i64 ((k0 + j : Nat) : Int)) ∧ g < wx.heap.size ∧ Hid (∀ j, j < n → wx.cell? ⟨g, j, none⟩ = some (h j) ∧ wx.frozen? ⟨g, j, none⟩ = false) ∧ w.grownBy wx (some g)) (fun _ i _ => n - (intOf i).toNat)
    case atStart => exact ⟨0, f, Nat.zero_le _, rfl, rfl, fun j hj => by omega, hg, HC, ⟨rfl, rfl, rfl, Nat.le_refl _, fun _ _ _ => rfl⟩⟩
    case round =>
      obtain ⟨m, h, hm, rfl, rfl, hh, hg2, hc, hgr⟩ := hrel
      obtain ⟨km, ekm⟩ : ∃ q, q = k0 + m := ⟨_, rfl⟩
      rw [← ekm]
      by_cases hlt : m < n
      · have hlt' : decide ((m : Int) < (n : Int)) = true := decide_eq_true (by omega)
        have hlt2 : (m : Int) < (n : Int) := by omega
        have hkm : (km : Int) ≤ 2097152 := by omega
        have HKM := hide ekm
        have cm := (hc.out m hlt).1
        have fm := (hc.out m hlt).2
        clear ekm
        go_wp2_with fail
        refine ⟨⟨m + 1, fun j => if j = m then .int .i64 (km : Int) else h j, by omega, by go_num, by rw [HKM.out]; exact congrArg _ (by omega), fun j hj => ?_, by simpa [World.setCell] using hg2, fun j hj => ⟨?_, ?_⟩, grownBy_set hgr _⟩, by simp [intOf]; omega⟩
        · show (if j = m then Value.int .i64 (km : Int) else h j) = _
          by_cases e : j = m
          · rw [if_pos e, HKM.out, e]
          · rw [if_neg e]; exact hh.out j (by omega)
        · show _ = some (if j = m then Value.int .i64 (km : Int) else h j)
          by_cases e : j = m
          · rw [if_pos e, e]; exact World.cell?_setCell_same _ _ _ cm
          · rw [if_neg e, World.cell?_setCell_other _ _ _ _ (by intro e2; injection e2 with _ e3; exact e e3.symm)]
            exact (hc.out j hj).1
        · rw [World.frozen?_setCell]; exact (hc.out j hj).2
      · have hlt' : decide ((m : Int) < (n : Int)) = false := decide_eq_false (by omega)
        have hmn : m = n := by omega
        subst hmn
        have HKM := hide ekm
        clear ekm
        go_wp2_with fail
        go_ret
        exact ⟨by rw [HKM.out]; rfl, ⟨_, cap, rfl, hcap, .inr ⟨g, rfl, hg2, fun j hj => by show _ = some (Value.int .i64 ((k0 + j : Nat) : Int)) ∧ _; rw [← hh.out j hj]; exact hc.out j hj⟩⟩, hgr⟩
end Go.Proofs.Ytnehnhclhokahaa
