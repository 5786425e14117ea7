/- The walks over the model's l05Chances and carry. -/
import Derived.Test.YtdoodkabmeojmaaDoorRows
import Derived.Test.YtdoodkabmeojmaaDoorRangeC
import Derived.Test.YtdoodkabmeojmaaDoorRowC
import Derived.Test.YtdoodkabmeojmaaDoorSrc
import Derived.OwnWalk
import Derived.Deep.AppendLies
import Derived.BigRegion
import Derived.BigQuiet
import Derived.Deep.RegionHeld3
namespace Go.Proofs.YtdoodkabmeojmaaDoor
open Go.RowKit
def u64V (f : Nat → Nat) (j : Nat) : Value := .int .u64 (f j : Nat)
theorem set_u64 {wr : World} {g t n k : Nat} {f : Nat → Nat} {X : Nat} (h : wr.rowIs g t n (u64V f)) : (wr.setCell ⟨g, k, none⟩ (.int .u64 (X : Int))).rowIs g t n (u64V fun j => if j = k then X else f j) := by
  refine (h.set k _).congr ?_
  intro i _
  simp only [u64V]
  split <;> rfl
theorem Tryd.infoU64 : (Tryd.prog.info? 53).map (fun i => (i.zero, i.size, i.bytes)) = some (some (.int .u64 0), 1, 8) := by kernel_rfl
set_option maxRecDepth 100000 in
set_option maxHeartbeats 400000 in
theorem spec_chances (w : World) :
    Calls Tryd.prog 61 #[] w fun e w' => e = .returned (.slice (some ⟨w.heap.size, 0, none⟩) 1600 1600) ∧ w'.rowIs w.heap.size 53 1600 (u64V fun _ => 1024) ∧ Below w.heap.size w w' := by
  have hmk : ∀ w : World, (Instr.makeSlice 114 (.int .i64 1600) (.int .i64 1600)).run Tryd.prog w = .ok (.slice (some ⟨w.heap.size, 0, none⟩) 1600 1600) (w.alloc (.cells (madeCells #[.int .u64 0] 1600) 53)) := run_make_row' (P := Tryd.prog) 114 53 (.int .u64 0) 8 (by kernel_rfl) Tryd.infoU64 rfl .i64 .i64 1600 (by omega) (by omega)
  go_enter Tryd.func61, Tryd.ntmps61
  go_wp2_with fail
  clear hmk
  go_loopw [2] (fun i wx => ∃ (k : Nat) (f : Nat → Nat), k ≤ 1600 ∧ i = .int .i64 k ∧ Hid (∀ j, j < k → f j = 1024) ∧ wx.rowIs w.heap.size 53 1600 (u64V f) ∧ Below w.heap.size w wx) (fun i _ => 1600 - (intOf i).toNat)
  case atStart => exact ⟨0, fun _ => 0, by omega, rfl, fun j hj => by omega, World.rowIs_made _ _ _ _, (Below.refl _ _).alloc (Nat.le_refl _) _⟩
  case round =>
    obtain ⟨k, f, hk, rfl, hf, hrw, hbl⟩ := hrel
    by_cases hlt : k < 1600
    · have ck := hrw.cell (i := k) hlt
      have hfz := hrw.frozen k
      have hlt' : (k : Int) < 1600 := by omega
      go_wp2_with fail
      refine ⟨⟨k + 1, fun j => if j = k then 1024 else f j, by omega, by go_num, fun j hj => ?_, set_u64 hrw, hbl.setCell (Nat.le_refl _) _⟩, by simp [intOf]; omega⟩
      show (if j = k then 1024 else f j) = _
      by_cases e : j = k
      · rw [if_pos e]
      · rw [if_neg e]; exact hf.out j (by omega)
    · have hr2 : wr.rowIs w.heap.size 53 1600 (u64V fun _ => 1024) := hrw.congr fun i hi => by rw [u64V, u64V, hf.out i (by omega)]
      have hlt' : ¬ (k : Int) < 1600 := by omega
      go_wp2_with fail
      go_ret
      exact ⟨rfl, hr2, hbl⟩
/-- What a coder's block holds. -/
def codV (ov : Value) (low size gc j : Nat) : Value := if j = 0 then ov else if j = 1 then .int .u64 (low : Nat) else if j = 2 then .int .u64 (size : Nat) else .slice (some ⟨gc, 0, none⟩) 1600 1600
theorem cod_out {w : World} {g T low size gc : Nat} {ov : Value} (h : w.rowIs g T 4 (codV ov low size gc)) : w.cell? ⟨g, 0, none⟩ = some ov := h.cell (i := 0) (by omega)
theorem cod_low {w : World} {g T low size gc : Nat} {ov : Value} (h : w.rowIs g T 4 (codV ov low size gc)) : w.cell? ⟨g, 1, none⟩ = some (.int .u64 (low : Nat)) := h.cell (i := 1) (by omega)
theorem cod_size {w : World} {g T low size gc : Nat} {ov : Value} (h : w.rowIs g T 4 (codV ov low size gc)) : w.cell? ⟨g, 2, none⟩ = some (.int .u64 (size : Nat)) := h.cell (i := 2) (by omega)
theorem cod_ch {w : World} {g T low size gc : Nat} {ov : Value} (h : w.rowIs g T 4 (codV ov low size gc)) : w.cell? ⟨g, 3, none⟩ = some (.slice (some ⟨gc, 0, none⟩) 1600 1600) := h.cell (i := 3) (by omega)
/-- A list of bytes that a call has gathered. -/
def ownB (w : World) (base : Nat) (v : Value) (n : Nat) (f : Nat → UInt8) : Prop := w.ownsRow base 5 1 v n ((List.range n).map fun j => byteV (f j))
theorem grownBy_setB {w w1 : World} {g i : Nat} (h1 : w.grownBy w1 (some g)) (v : Value) : w.grownBy (w1.setCell ⟨g, i, none⟩ v) (some g) := grownBy_set h1 v
theorem ownB.congr {w : World} {base : Nat} {v : Value} {n : Nat} {f h : Nat → UInt8} (a : ownB w base v n f) (e : ∀ j, j < n → f j = h j) : ownB w base v n h := by
  unfold ownB at a ⊢
  rwa [List.map_congr_left (fun j hj => by rw [e j (List.mem_range.1 hj)])] at a
theorem ownB.cell {w : World} {base g n cap : Nat} {f : Nat → UInt8} (a : ownB w base (.slice (some ⟨g, 0, none⟩) n cap) n f) (j : Nat) (hj : j < n) : w.cell? ⟨g, j, none⟩ = some (.int .u8 ((f j).toNat : Int)) := by
  rw [World.ownsRow.cellAt a j (by omega), List.getElem?_map, List.getElem?_range hj]; rfl
theorem ownB.set {w : World} {base g n cap k X : Nat} {f : Nat → UInt8} {Y : UInt8} (a : ownB w base (.slice (some ⟨g, 0, none⟩) n cap) n f) (hk : k < n) (hX : X = Y.toNat) : ownB (w.setCell ⟨g, k, none⟩ (.int .u8 (X : Int))) base (.slice (some ⟨g, 0, none⟩) n cap) n (fun j => if j = k then Y else f j) := by
  subst hX
  have h := (World.ownsRow.stored a k (.int .u8 (Y.toNat : Int))).1
  unfold ownB
  have e : (((List.range n).map fun j => byteV (f j)).set k (.int .u8 (Y.toNat : Int))) = (List.range n).map fun j => byteV (if j = k then Y else f j) := by
    apply List.ext_getElem?
    intro j
    rw [List.getElem?_set]
    by_cases hj : j < n
    · rw [List.getElem?_map, List.getElem?_map, List.getElem?_range hj]
      by_cases e : k = j
      · subst e
        rw [if_pos rfl, if_pos (by simpa using hk)]
        show _ = some (byteV (if k = k then Y else f k))
        rw [if_pos rfl]; rfl
      · rw [if_neg e]
        show some (byteV (f j)) = some (byteV (if j = k then Y else f j))
        rw [if_neg (fun x => e x.symm)]
    · rw [if_neg (by omega), List.getElem?_eq_none (by simp; omega), List.getElem?_eq_none (by simp; omega)]
  rw [← e]; exact h
set_option maxRecDepth 100000 in
set_option maxHeartbeats 800000 in
theorem spec_carry (base g gc go n cap low size V : Nat) (w : World) (hn : 0 < n) (hn2 : n ≤ 100000) (hV : V + 1 < 256 ^ n) (hrow : w.rowIs g 117 4 (codV (.slice (some ⟨go, 0, none⟩) n cap) low size gc)) (hown : ownB w base (.slice (some ⟨go, 0, none⟩) n cap) n (byN n V)) (hne : go ≠ g) :
    Calls Tryd.prog 75 #[.pointer (some ⟨g, 0, none⟩)] w fun e w' => e = .returned (.tuple #[]) ∧ ownB w' base (.slice (some ⟨go, 0, none⟩) n cap) n (byN n (V + 1)) ∧ w.grownBy w' (some go) := by
  have c0 := cod_out hrow
  have hHR := hide hrow
  clear hrow
  have hcap : n ≤ cap := by
    obtain ⟨_, ⟨h, _⟩ | ⟨g', cap', cur, h, _, _, h2, _⟩⟩ := hown
    · cases h
    · cases h; exact h2
  have hcap2 : (n : Int) ≤ (cap : Int) := by omega
  go_enter Tryd.func75, Tryd.ntmps75
  go_wp2_with fail
  clear c0
  go_loopw [2] (fun i wx => ∃ (k : Nat) (f : Nat → UInt8), k ≤ n ∧ i = .int .i64 ((n : Int) - 1 - (k : Int)) ∧ Hid (∀ j, j < n → f j = cutZ n V k j) ∧ Hid (V % 256 ^ k = 256 ^ k - 1) ∧ Hid (ownB wx base (.slice (some ⟨go, 0, none⟩) n cap) n f) ∧ Hid (w.grownBy wx (some go))) (fun i _ => (intOf i + 1).toNat)
  case atStart => exact ⟨0, byN n V, by omega, by go_num, fun j hj => by rw [cutZ, if_neg (by omega)], by unfold Hid; rw [Nat.pow_zero, Nat.mod_one], hown, ⟨rfl, rfl, rfl, Nat.le_refl _, fun _ _ _ => rfl⟩⟩
  case round =>
    obtain ⟨k, f, hk, rfl, hf, hm, how, hgr⟩ := hrel
    have hrow := hHR.out.of_block (hgr.out.block g hHR.out.lt (by simp; omega))
    by_cases hlt : k < n
    · obtain ⟨i, ei⟩ : ∃ i, i = n - 1 - k := ⟨_, rfl⟩
      have e1 : (n : Int) - 1 - (k : Int) = (i : Int) := by omega
      rw [e1]
      have hi : i < n := by omega
      have hi' : (i : Int) < (n : Int) := by omega
      have c0 := cod_out hrow
      have ci := how.out.cell i hi
      have fi := World.ownsRow.frozenAt how.out i
      obtain ⟨b, hb⟩ : ∃ b, b = V / 256 ^ k % 256 := ⟨_, rfl⟩
      have hfi : f i = UInt8.ofNat b := by rw [hf.out i hi, cutZ, if_neg (by omega), byN, show n - 1 - i = k by omega, hb]
      have hb8 : b < 256 := by omega
      rw [hfi, show ((UInt8.ofNat b).toNat : Int) = (b : Int) by rw [UInt8.toNat_ofNat']; omega] at ci
      by_cases h255 : b = 255
      · obtain ⟨b1, hb1⟩ : ∃ x : Nat, x = 0 := ⟨_, rfl⟩
        have hw : IntKind.u8.wrap ((b : Int) + 1) = (b1 : Int) := by rw [IntKind.wrap_u8]; omega
        have HI := hide ei
        have HB := hide hb
        have H255 := hide h255
        have HB1 := hide hb1
        clear ei hb e1 hfi h255 hb1
        go_wp2_with fail
        go_region
        have how2 := how.out.set (Y := UInt8.ofNat b1) hi (show b1 = (UInt8.ofNat b1).toNat by have := HB1.out; have := H255.out; rw [UInt8.toNat_ofNat']; omega)
        have hgr2 := hide (grownBy_setB (i := i) hgr.out (.int .u8 (b1 : Int)))
        have c0' : (wr.setCell ⟨go, i, none⟩ (.int .u8 (b1 : Int))).cell? ⟨g, 0, none⟩ = some (.slice (some ⟨go, 0, none⟩) n cap) := cell_far hne c0
        have ci' : (wr.setCell ⟨go, i, none⟩ (.int .u8 (b1 : Int))).cell? ⟨go, i, none⟩ = some (.int .u8 (b1 : Int)) := World.cell?_setCell_same _ _ _ ci
        have HOW := hide how2
        clear how2 how hgr ci fi c0 hw hrow
        have hb1' : ((b1 : Int) == 0) = true := by have := HB1.out; simp; omega
        have hf' := hide (show ∀ j, j < n → (if j = i then UInt8.ofNat b1 else f j) = cutZ n V (k + 1) j from fun j hj => by
          have hI := HI.out
          by_cases e : j = i
          · rw [if_pos e, cutZ, if_pos (by omega), HB1.out]; rfl
          · rw [if_neg e, hf.out j hj, cutZ, cutZ]
            by_cases e2 : n - k ≤ j
            · rw [if_pos e2, if_pos (by omega)]
            · rw [if_neg e2, if_neg (by omega)])
        have hm' := hide (carry_more V k hm.out (by rw [← HB.out]; exact H255.out))
        have hi1 : (i : Int) - 1 = (n : Int) - 1 - ((k + 1 : Nat) : Int) := by have := HI.out; omega
        have HI1 := hide hi1
        clear hi1 hf hm
        go_wp2_with fail
        go_roundw
        case rel => exact ⟨k + 1, _, by omega, by rw [← HI1.out], hf', hm', HOW, grownBy_drew hgr2.out⟩
        case measure => simp [intOf]
      · obtain ⟨b1, hb1⟩ : ∃ x : Nat, x = b + 1 := ⟨_, rfl⟩
        have hw : IntKind.u8.wrap ((b : Int) + 1) = (b1 : Int) := by rw [IntKind.wrap_u8]; omega
        have HI := hide ei
        have HB := hide hb
        have H255 := hide h255
        have HB1 := hide hb1
        clear ei hb e1 hfi h255 hb1
        go_wp2_with fail
        go_region
        have how2 := how.out.set (Y := UInt8.ofNat b1) hi (show b1 = (UInt8.ofNat b1).toNat by have := HB1.out; have := H255.out; rw [UInt8.toNat_ofNat']; omega)
        have hgr2 := hide (grownBy_setB (i := i) hgr.out (.int .u8 (b1 : Int)))
        have c0' : (wr.setCell ⟨go, i, none⟩ (.int .u8 (b1 : Int))).cell? ⟨g, 0, none⟩ = some (.slice (some ⟨go, 0, none⟩) n cap) := cell_far hne c0
        have ci' : (wr.setCell ⟨go, i, none⟩ (.int .u8 (b1 : Int))).cell? ⟨go, i, none⟩ = some (.int .u8 (b1 : Int)) := World.cell?_setCell_same _ _ _ ci
        have HOW := hide how2
        clear how2 how hgr ci fi c0 hw hrow
        have hb1' : ((b1 : Int) == 0) = false := by have := HB1.out; simp; omega
        have hf' := (show ∀ j, j < n → (if j = i then UInt8.ofNat b1 else f j) = byN n (V + 1) j from fun j hj => by
          have hI := HI.out
          rw [carry_by n V k j hlt hj hm.out (by rw [← HB.out]; exact H255.out), ← HB.out, ← hI]
          by_cases e : j = i
          · rw [if_pos e, if_pos e, HB1.out]
          · rw [if_neg e, if_neg e, hf.out j hj])
        have how3 := hide (HOW.out.congr hf')
        clear hf' HOW hf hm
        go_wp2_with fail
        exact bodyPost_ret (v := .tuple #[]) (by simp [results, Tryd.results75]) rfl ⟨rfl, how3.out, grownBy_drew hgr2.out⟩
    · exact absurd (carry_never n V hV (by rw [show n = k by omega]; exact hm.out)) id
end Go.Proofs.YtdoodkabmeojmaaDoor
