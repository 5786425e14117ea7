/- Put together: RangeS, Arr, HeldOne. -/
import Derived.Test.YtconcnndghmdfaaGreatDoorSf9
import Derived.Deep.MidRow
import Derived.Deep.WholeRow
import Derived.Deep.RegionHeldLaw
namespace Go.Proofs.YtconcnndghmdfaaGreatDoor
open Go.RowKit
def u64V (f : Nat → Nat) (j : Nat) : Value := .int .u64 (f j : Nat)
theorem set_u64 {wr : World} {g t n k : Nat} {f : Nat → Nat} {X : Nat} (h : wr.rowIs g t n (u64V f)) : (wr.setCell ⟨g, k, none⟩ (.int .u64 (X : Int))).rowIs g t n (u64V fun j => if j = k then X else f j) := by
 refine (h.set k _).congr ?_
 intro i _
 simp only [u64V]
 split <;> rfl
theorem Tryz.infoU64 : (Tryz.prog.info? 58).map (fun i => (i.zero, i.size, i.bytes)) = some (some (.int .u64 0), 1, 8) := by kernel_rfl
set_option maxRecDepth 100000 in
set_option maxHeartbeats 400000 in
theorem spec_chances (w : World) :
 Calls Tryz.prog 124 #[] w fun e w' => e = .returned (.slice (some ⟨w.heap.size, 0, none⟩) 1600 1600) ∧ w'.rowIs w.heap.size 58 1600 (u64V fun _ => 1024) ∧ Below w.heap.size w w' := by
 have hmk : ∀ w : World, (Instr.makeSlice 168 (.int .i64 1600) (.int .i64 1600)).run Tryz.prog w = .ok (.slice (some ⟨w.heap.size, 0, none⟩) 1600 1600) (w.alloc (.cells (madeCells #[.int .u64 0] 1600) 58)) := run_make_row' (P := Tryz.prog) 168 58 (.int .u64 0) 8 (by kernel_rfl) Tryz.infoU64 rfl .i64 .i64 1600 (by omega) (by omega)
 go_enter Tryz.func124, Tryz.ntmps124
 go_wp2_with fail
 clear hmk
 go_loopw [2] (fun i wx => ∃ (k : Nat) (f : Nat → Nat), k ≤ 1600 ∧ i = .int .i64 k ∧ Hid (∀ j, j < k → f j = 1024) ∧ wx.rowIs w.heap.size 58 1600 (u64V f) ∧ Below w.heap.size w wx) (fun i _ => 1600 - (intOf i).toNat)
 case atStart => exact ⟨0, fun _ => 0, by omega, rfl, fun j hj => by omega, World.rowIs_made _ _ _ _, (Below.refl _ _).alloc (Nat.le_refl _) _⟩
 case round =>
  obtain ⟨k, f, hk, rfl, hf, hrw, hbl⟩ := hrel
  by_cases hlt : k < 1600
  · have ck := hrw.cell (i := k) hlt
    have hfz := hrw.frozen k
    have hlt' : (k : Int) < 1600 := by omega
    go_wp2_with fail
    refine ⟨⟨k + 1, fun j => if j = k then 1024 else f j, by omega, by go_num, fun j hj => ?_, set_u64 hrw, hbl.setCell (Nat.le_refl _) _⟩, by simp [intOf]; omega⟩
    show (if j = k then 1024 else f j) = _
    by_cases e : j = k
    · rw [if_pos e]
    · rw [if_neg e]; exact hf.out j (by omega)
  · have hr2 : wr.rowIs w.heap.size 58 1600 (u64V fun _ => 1024) := hrw.congr fun i hi => by rw [u64V, u64V, hf.out i (by omega)]
    have hlt' : ¬ (k : Int) < 1600 := by omega
    go_wp2_with fail
    go_ret
    exact ⟨rfl, hr2, hbl⟩
def codV (ov : Value) (low size gc j : Nat) : Value := if j = 0 then ov else if j = 1 then .int .u64 (low : Nat) else if j = 2 then .int .u64 (size : Nat) else .slice (some ⟨gc, 0, none⟩) 1600 1600
theorem cod_out {w : World} {g T low size gc : Nat} {ov : Value} (h : w.rowIs g T 4 (codV ov low size gc)) : w.cell? ⟨g, 0, none⟩ = some ov := h.cell (i := 0) (by omega)
theorem cod_low {w : World} {g T low size gc : Nat} {ov : Value} (h : w.rowIs g T 4 (codV ov low size gc)) : w.cell? ⟨g, 1, none⟩ = some (.int .u64 (low : Nat)) := h.cell (i := 1) (by omega)
theorem cod_size {w : World} {g T low size gc : Nat} {ov : Value} (h : w.rowIs g T 4 (codV ov low size gc)) : w.cell? ⟨g, 2, none⟩ = some (.int .u64 (size : Nat)) := h.cell (i := 2) (by omega)
theorem cod_ch {w : World} {g T low size gc : Nat} {ov : Value} (h : w.rowIs g T 4 (codV ov low size gc)) : w.cell? ⟨g, 3, none⟩ = some (.slice (some ⟨gc, 0, none⟩) 1600 1600) := h.cell (i := 3) (by omega)
def ownB (w : World) (base : Nat) (v : Value) (n : Nat) (f : Nat → UInt8) : Prop := w.ownsRow base 5 1 v n ((List.range n).map fun j => byteV (f j))
theorem grownBy_setB {w w1 : World} {g i : Nat} (h1 : w.grownBy w1 (some g)) (v : Value) : w.grownBy (w1.setCell ⟨g, i, none⟩ v) (some g) := grownBy_set h1 v
theorem ownB.congr {w : World} {base : Nat} {v : Value} {n : Nat} {f h : Nat → UInt8} (a : ownB w base v n f) (e : ∀ j, j < n → f j = h j) : ownB w base v n h := by
 unfold ownB at a ⊢
 rwa [List.map_congr_left (fun j hj => by rw [e j (List.mem_range.1 hj)])] at a
theorem ownB.cell {w : World} {base g n cap : Nat} {f : Nat → UInt8} (a : ownB w base (.slice (some ⟨g, 0, none⟩) n cap) n f) (j : Nat) (hj : j < n) : w.cell? ⟨g, j, none⟩ = some (.int .u8 ((f j).toNat : Int)) := by
 rw [World.ownsRow.cellAt a j (by omega), List.getElem?_map, List.getElem?_range hj]; rfl
theorem ownB.set {w : World} {base g n cap k X : Nat} {f : Nat → UInt8} {Y : UInt8} (a : ownB w base (.slice (some ⟨g, 0, none⟩) n cap) n f) (hk : k < n) (hX : X = Y.toNat) : ownB (w.setCell ⟨g, k, none⟩ (.int .u8 (X : Int))) base (.slice (some ⟨g, 0, none⟩) n cap) n (fun j => if j = k then Y else f j) := by
 subst hX
 have h := (World.ownsRow.stored a k (.int .u8 (Y.toNat : Int))).1
 unfold ownB
 have e : (((List.range n).map fun j => byteV (f j)).set k (.int .u8 (Y.toNat : Int))) = (List.range n).map fun j => byteV (if j = k then Y else f j) := by
  apply List.ext_getElem?
  intro j
  rw [List.getElem?_set]
  by_cases hj : j < n
  · rw [List.getElem?_map, List.getElem?_map, List.getElem?_range hj]
    by_cases e : k = j
    · subst e
      rw [if_pos rfl, if_pos (by simpa using hk)]
      show _ = some (byteV (if k = k then Y else f k))
      rw [if_pos rfl]; rfl
    · rw [if_neg e]
      show some (byteV (f j)) = some (byteV (if j = k then Y else f j))
      rw [if_neg (fun x => e x.symm)]
  · rw [if_neg (by omega), List.getElem?_eq_none (by simp; omega), List.getElem?_eq_none (by simp; omega)]
 rw [← e]; exact h
set_option maxRecDepth 100000 in
set_option maxHeartbeats 800000 in
theorem spec_carry (base g gc go n cap low size V : Nat) (w : World) (hn : 0 < n) (hn2 : n ≤ 100000) (hV : V + 1 < 256 ^ n) (hrow : w.rowIs g 171 4 (codV (.slice (some ⟨go, 0, none⟩) n cap) low size gc)) (hown : ownB w base (.slice (some ⟨go, 0, none⟩) n cap) n (byN n V)) (hne : go ≠ g) :
 Calls Tryz.prog 143 #[.pointer (some ⟨g, 0, none⟩)] w fun e w' => e = .returned (.tuple #[]) ∧ ownB w' base (.slice (some ⟨go, 0, none⟩) n cap) n (byN n (V + 1)) ∧ w.grownBy w' (some go) := by
 have c0 := cod_out hrow
 have hHR := hide hrow
 clear hrow
 have hcap : n ≤ cap := by
  obtain ⟨_, ⟨h, _⟩ | ⟨g', cap', cur, h, _, _, h2, _⟩⟩ := hown
  · cases h
  · cases h; exact h2
 have hcap2 : (n : Int) ≤ (cap : Int) := by omega
 go_enter Tryz.func143, Tryz.ntmps143
 go_wp2_with fail
 clear c0
 go_loopw [2] (fun i wx => ∃ (k : Nat) (f : Nat → UInt8), k ≤ n ∧ i = .int .i64 ((n : Int) - 1 - (k : Int)) ∧ Hid (∀ j, j < n → f j = cutZ n V k j) ∧ Hid (V % 256 ^ k = 256 ^ k - 1) ∧ Hid (ownB wx base (.slice (some ⟨go, 0, none⟩) n cap) n f) ∧ Hid (w.grownBy wx (some go))) (fun i _ => (intOf i + 1).toNat)
 case atStart => exact ⟨0, byN n V, by omega, by go_num, fun j hj => by rw [cutZ, if_neg (by omega)], by unfold Hid; rw [Nat.pow_zero, Nat.mod_one], hown, ⟨rfl, rfl, rfl, Nat.le_refl _, fun _ _ _ => rfl⟩⟩
 case round =>
  obtain ⟨k, f, hk, rfl, hf, hm, how, hgr⟩ := hrel
  have hrow := hHR.out.of_block (hgr.out.block g hHR.out.lt (by simp; omega))
  by_cases hlt : k < n
  · obtain ⟨i, ei⟩ : ∃ i, i = n - 1 - k := ⟨_, rfl⟩
    have e1 : (n : Int) - 1 - (k : Int) = (i : Int) := by omega
    rw [e1]
    have hi : i < n := by omega
    have hi' : (i : Int) < (n : Int) := by omega
    have c0 := cod_out hrow
    have ci := how.out.cell i hi
    have fi := World.ownsRow.frozenAt how.out i
    obtain ⟨b, hb⟩ : ∃ b, b = V / 256 ^ k % 256 := ⟨_, rfl⟩
    have hfi : f i = UInt8.ofNat b := by rw [hf.out i hi, cutZ, if_neg (by omega), byN, show n - 1 - i = k by omega, hb]
    have hb8 : b < 256 := by omega
    rw [hfi, show ((UInt8.ofNat b).toNat : Int) = (b : Int) by rw [UInt8.toNat_ofNat']; omega] at ci
    by_cases h255 : b = 255
    · obtain ⟨b1, hb1⟩ : ∃ x : Nat, x = 0 := ⟨_, rfl⟩
      have hw : IntKind.u8.wrap ((b : Int) + 1) = (b1 : Int) := by rw [IntKind.wrap_u8]; omega
      have HI := hide ei
      have HB := hide hb
      have H255 := hide h255
      have HB1 := hide hb1
      clear ei hb e1 hfi h255 hb1
      go_wp2_with fail
      go_region
      have how2 := how.out.set (Y := UInt8.ofNat b1) hi (show b1 = (UInt8.ofNat b1).toNat by have := HB1.out; have := H255.out; rw [UInt8.toNat_ofNat']; omega)
      have hgr2 := hide (grownBy_setB (i := i) hgr.out (.int .u8 (b1 : Int)))
      have c0' : (wr.setCell ⟨go, i, none⟩ (.int .u8 (b1 : Int))).cell? ⟨g, 0, none⟩ = some (.slice (some ⟨go, 0, none⟩) n cap) := cell_far hne c0
      have ci' : (wr.setCell ⟨go, i, none⟩ (.int .u8 (b1 : Int))).cell? ⟨go, i, none⟩ = some (.int .u8 (b1 : Int)) := World.cell?_setCell_same _ _ _ ci
      have HOW := hide how2
      clear how2 how hgr ci fi c0 hw hrow
      have hb1' : ((b1 : Int) == 0) = true := by have := HB1.out; simp; omega
      have hf' := hide (show ∀ j, j < n → (if j = i then UInt8.ofNat b1 else f j) = cutZ n V (k + 1) j from fun j hj => by
       have hI := HI.out
       by_cases e : j = i
       · rw [if_pos e, cutZ, if_pos (by omega), HB1.out]; rfl
       · rw [if_neg e, hf.out j hj, cutZ, cutZ]
         by_cases e2 : n - k ≤ j
         · rw [if_pos e2, if_pos (by omega)]
         · rw [if_neg e2, if_neg (by omega)])
      have hm' := hide (carry_more V k hm.out (by rw [← HB.out]; exact H255.out))
      have hi1 : (i : Int) - 1 = (n : Int) - 1 - ((k + 1 : Nat) : Int) := by have := HI.out; omega
      have HI1 := hide hi1
      clear hi1 hf hm
      go_wp2_with fail
      go_roundw
      case rel => exact ⟨k + 1, _, by omega, by rw [← HI1.out], hf', hm', HOW, grownBy_drew hgr2.out⟩
      case measure => simp [intOf]
    · obtain ⟨b1, hb1⟩ : ∃ x : Nat, x = b + 1 := ⟨_, rfl⟩
      have hw : IntKind.u8.wrap ((b : Int) + 1) = (b1 : Int) := by rw [IntKind.wrap_u8]; omega
      have HI := hide ei
      have HB := hide hb
      have H255 := hide h255
      have HB1 := hide hb1
      clear ei hb e1 hfi h255 hb1
      go_wp2_with fail
      go_region
      have how2 := how.out.set (Y := UInt8.ofNat b1) hi (show b1 = (UInt8.ofNat b1).toNat by have := HB1.out; have := H255.out; rw [UInt8.toNat_ofNat']; omega)
      have hgr2 := hide (grownBy_setB (i := i) hgr.out (.int .u8 (b1 : Int)))
      have c0' : (wr.setCell ⟨go, i, none⟩ (.int .u8 (b1 : Int))).cell? ⟨g, 0, none⟩ = some (.slice (some ⟨go, 0, none⟩) n cap) := cell_far hne c0
      have ci' : (wr.setCell ⟨go, i, none⟩ (.int .u8 (b1 : Int))).cell? ⟨go, i, none⟩ = some (.int .u8 (b1 : Int)) := World.cell?_setCell_same _ _ _ ci
      have HOW := hide how2
      clear how2 how hgr ci fi c0 hw hrow
      have hb1' : ((b1 : Int) == 0) = false := by have := HB1.out; simp; omega
      have hf' := (show ∀ j, j < n → (if j = i then UInt8.ofNat b1 else f j) = byN n (V + 1) j from fun j hj => by
       have hI := HI.out
       rw [carry_by n V k j hlt hj hm.out (by rw [← HB.out]; exact H255.out), ← HB.out, ← hI]
       by_cases e : j = i
       · rw [if_pos e, if_pos e, HB1.out]
       · rw [if_neg e, if_neg e, hf.out j hj])
      have how3 := hide (HOW.out.congr hf')
      clear hf' HOW hf hm
      go_wp2_with fail
      exact bodyPost_ret (v := .tuple #[]) (by simp [results, Tryz.results143]) rfl ⟨rfl, how3.out, grownBy_drew hgr2.out⟩
  · exact absurd (carry_never n V hV (by rw [show n = k by omega]; exact hm.out)) id
end Go.Proofs.YtconcnndghmdfaaGreatDoor
namespace Go.Proofs.YtconcnndghmdfaaGreatDoor
open Go Go.RowKit
def bL (n : Nat) (f : Nat → UInt8) : List Value := (List.range n).map (u8V f)
theorem bL_len (n : Nat) (f : Nat → UInt8) : (bL n f).length = n := by simp [bL]
theorem bL_at (n : Nat) (f : Nat → UInt8) (j : Nat) (h : j < n) : (bL n f)[j]? = some (u8V f j) := by simp [bL, h]
theorem bL_get {n : Nat} {f : Nat → UInt8} {j : Nat} {v : Value} (h : (bL n f)[j]? = some v) : j < n ∧ v = u8V f j := by
 have hj : j < n := by
  have := (List.getElem?_eq_some_iff.1 h).1
  rwa [bL_len] at this
 rw [bL_at n f j hj] at h
 exact ⟨hj, (Option.some.inj h).symm⟩
theorem bL_one (n : Nat) (f : Nat → UInt8) : ∀ v ∈ bL n f, v.oneCell' = true := by
 intro v hv
 obtain ⟨j, _, rfl⟩ := List.mem_map.1 hv
 rfl
theorem bL_all (n : Nat) (f : Nat → UInt8) : (bL n f).toArray.all (·.oneCell') = true := all_oneCell_toArray (bL_one n f)
theorem bL_size (n : Nat) (f : Nat → UInt8) : (bL n f).toArray.size = n := by rw [List.size_toArray, bL_len]
theorem row_heap {w : World} {g t n : Nat} {f : Nat → UInt8} (h : w.rowIs g t n (u8V f)) : w.heap[g]? = some (.cells (bL n f).toArray t (0, 0)) := by
 obtain ⟨c, hb, hn, hc⟩ := h
 have e : c = (bL n f).toArray := by
  apply Array.ext_getElem?
  intro i
  by_cases hi : i < n
  · rw [hc i hi, List.getElem?_toArray, bL_at n f i hi]
  · rw [Array.getElem?_eq_none (by omega), Array.getElem?_eq_none (by rw [bL_size]; omega)]
 rw [hb, e]
theorem row_of_heap {w : World} {g t n : Nat} {f : Nat → UInt8} (h : w.heap[g]? = some (.cells (bL n f).toArray t (0, 0))) : w.rowIs g t n (u8V f) :=
 ⟨_, h, bL_size n f, fun i hi => by rw [List.getElem?_toArray, bL_at n f i hi]⟩
theorem row_alloc (w : World) (t n : Nat) (f : Nat → UInt8) : (w.alloc (.cells (bL n f).toArray t)).rowIs w.heap.size t n (u8V f) := row_of_heap (heap_alloc_new w _)
theorem row_alloc_set (w : World) (t n k : Nat) (f : Nat → UInt8) (Y : UInt8) (X : Int) (hX : X = (Y.toNat : Int)) : (w.alloc (.cells ((bL n f).set k (.int .u8 X)).toArray t)).rowIs w.heap.size t n (u8V fun j => if j = k then Y else f j) := by
 subst hX
 refine ⟨_, heap_alloc_new w _, by rw [List.size_toArray, List.length_set, bL_len], fun i hi => ?_⟩
 rw [List.getElem?_toArray, List.getElem?_set, bL_len]
 by_cases e : k = i
 · subst e; rw [if_pos rfl, if_pos hi, u8V, if_pos rfl]
 · rw [if_neg e, bL_at n f i hi, u8V, u8V, if_neg (fun h => e h.symm)]
theorem row_range {w : World} {g t N n o : Nat} {f k : Nat → UInt8} (h : w.rowIs g t N (u8V f)) (hn : o + n ≤ N) (hk : ∀ j, j < n → k j = f (o + j)) : w.rangeAt g o (bL n k) := by
 intro j v hv
 obtain ⟨hj, rfl⟩ := bL_get hv
 rw [h.cell (i := o + j) (by omega), u8V, u8V, hk j hj]
theorem row_range0 {w : World} {g t n : Nat} {f : Nat → UInt8} (h : w.rowIs g t n (u8V f)) : w.rangeAt g 0 (bL n f) := row_range h (by omega) (fun j _ => by rw [Nat.zero_add])
theorem row_there {w : World} {g t N n o : Nat} {f : Nat → UInt8} (h : w.rowIs g t N (u8V f)) (hn : o + n ≤ N) : w.there g o n := fun j hj => ⟨by rw [h.cell (i := o + j) (by omega)]; rfl, h.frozen _⟩
theorem setCells_far (b : Nat) : ∀ (vs : List Value) (o : Nat) (w : World) (k : Nat), k ≠ b → (w.setCells b o vs).heap[k]? = w.heap[k]?
 | [], _, _, _, _ => rfl
 | v :: vs, o, w, k, h => by
   rw [World.setCells, setCells_far b vs (o + 1) _ k h]
   exact Below.heap_setCell _ _ _ _ h
theorem row_setCells_other {w : World} {g t n b o : Nat} {f : Nat → Value} {vs : List Value} (h : w.rowIs g t n f) (d : g ≠ b) : (w.setCells b o vs).rowIs g t n f := h.of_block (setCells_far b vs o w g d)
theorem setCells_heap (b : Nat) (t : Nat) (fr : Nat × Nat) : ∀ (vs : List Value) (o : Nat) (w : World) (c : Array Value), w.heap[b]? = some (.cells c t fr) → ∃ c', (w.setCells b o vs).heap[b]? = some (.cells c' t fr) ∧ c'.size = c.size
 | [], _, _, c, h => ⟨c, h, rfl⟩
 | v :: vs, o, w, c, h => by
   have h1 : (w.setCell ⟨b, o, none⟩ v).heap[b]? = some (.cells (c.setIfInBounds o v) t fr) := by simp [World.setCell, Array.getElem?_modify, h]
   obtain ⟨c', h2, h3⟩ := setCells_heap b t fr vs (o + 1) _ _ h1
   exact ⟨c', h2, by rw [h3]; simp⟩
theorem row_setCells {w : World} {g t N n o : Nat} {f k : Nat → UInt8} (h : w.rowIs g t N (u8V f)) (hn : o + n ≤ N) : (w.setCells g o (bL n k)).rowIs g t N (u8V fun j => if o ≤ j ∧ j < o + n then k (j - o) else f j) := by
 have hh := row_heap h
 obtain ⟨c', h2, h3⟩ := setCells_heap g t (0, 0) (bL n k) o w _ hh
 rw [bL_size] at h3
 refine ⟨c', h2, h3, fun i hi => ?_⟩
 have hcell := cell_of_row _ g i c' t (0, 0) h2
 rw [← hcell]
 by_cases e : o ≤ i ∧ i < o + n
 · have hin := World.cell?_setCells_in g (bL n k) o w (fun j hj => by rw [bL_len] at hj; rw [h.cell (i := o + j) (by omega)]; rfl) (i - o) (by rw [bL_len]; omega)
   rw [show o + (i - o) = i by omega] at hin
   rw [hin]
   have e2 := bL_at n k (i - o) (by omega)
   rw [List.getElem?_eq_getElem (by rw [bL_len]; omega)] at e2
   rw [e2, u8V, u8V, if_pos e]
 · rw [World.cell?_setCells_out g _ o w ⟨g, i, none⟩ (fun _ _ => by rw [bL_len]; show i < o ∨ o + n ≤ i; omega), h.cell hi, u8V, u8V, if_neg e]
theorem row_setCells0 {w : World} {g t n : Nat} {f k : Nat → UInt8} (h : w.rowIs g t n (u8V f)) : (w.setCells g 0 (bL n k)).rowIs g t n (u8V k) :=
 (row_setCells h (by omega)).congr fun i hi => by rw [u8V, u8V, if_pos ⟨by omega, by omega⟩, Nat.sub_zero]
theorem below_setCells' {B : Nat} {a w : World} {b o : Nat} {vs : List Value} (h : Below B a w) (hb : B ≤ b) : Below B a (w.setCells b o vs) := below_setCells vs o w b h hb
theorem size_setCells : ∀ (vs : List Value) (o : Nat) (w : World) (b : Nat), (w.setCells b o vs).heap.size = w.heap.size
 | [], _, _, _ => rfl
 | v :: vs, o, w, b => by rw [World.setCells, size_setCells vs (o + 1) _ b]; simp [World.setCell]
theorem extract_bL {N n o : Nat} {f k : Nat → UInt8} (hn : o + n ≤ N) (hk : ∀ j, j < n → k j = f (o + j)) : (bL N f).toArray.extract o (o + n) = (bL n k).toArray := by
 apply Array.ext_getElem?
 intro i
 rw [Array.getElem?_extract, bL_size]
 by_cases hi : i < n
 · rw [if_pos (by omega), List.getElem?_toArray, List.getElem?_toArray, bL_at N f _ (by omega), bL_at n k i hi, u8V, u8V, hk i hi]
 · rw [if_neg (by omega), Array.getElem?_eq_none (by rw [bL_size]; omega)]
theorem run_index_part {P : Program} (t e n m N : Nat) (f k : Nat → UInt8) (d : TypeDesc) (i : Nat) (ht : P.underlying t = some (.array n e)) (he : P.underlying e = some d) (hd : d.isRow = true) (hs : (P.info? e).map (·.size) = some m) (hi : i < n) (hN : N = n * m) (hk : ∀ j, j < m → k j = f (m * i + j)) (w : World) :
 (Instr.index t (.agg (bL N f).toArray) (.int .i64 (i : Int))).run P w = .ok (.agg (bL m k).toArray) w := by
 obtain ⟨inf, hinf, hsz⟩ := Option.map_eq_some_iff.1 hs
 have hle : i * m + m ≤ N := by
  subst hN
  have := Nat.mul_le_mul_right m (show i + 1 ≤ n by omega)
  rw [Nat.add_mul, Nat.one_mul] at this; exact this
 have hx : List.take m (List.drop (i * m) (bL N f)) = bL m k := by
  have h := congrArg Array.toList (extract_bL (k := k) hle (fun j hj => by rw [hk j hj, Nat.mul_comm]))
  simpa using h
 have hagg : (isAgg e).run P w = .ok true w := by
  unfold isAgg
  rw [Sem.run_bind, run_underlying he w]
  cases d <;> simp_all
 simp [Instr.index, asIntOf, run_underlying ht, hi, Go.part, hagg, sizeOf, typeInfo, hinf, hsz, hx]
theorem step_copy_B {P : Program} {ops : Array Oper} {o : Oper} {a : Act} {w : World} {K : Act → World → Prop} {Q : Exit → Act → World → Prop} {E : Prop} (hgd : o.guard = none) (d s : Operand) (dT sT : TypeId)
 (ho : o.op = .call { callee := .builtin .copy, args := #[d, s], argTypes := #[dT, sT] }) (elem : TypeId) (hu : P.underlying dT = some (.slice elem)) (hsz : (P.info? elem).map (·.size) = some 1)
 (g off dLen dCap h p sLen sCap : Nat) (hd : a.eval d = .slice (some ⟨g, off, none⟩) dLen dCap) (hs : a.eval s = .slice (some ⟨h, p, none⟩) sLen sCap)
 (m : Nat) (k : Nat → UInt8) (hm : m = Nat.min sLen dLen) (hsrc : w.rangeAt h p (bL m k)) (hdst : w.there g off m)
 (hK : K (a.put o.dst (goInt m)) (w.setCells g off (bL m k))) :
 if Region.wanted o (yielded ops a.tmps) = true then Oper.wp P o a w K Q else E := by
 have hw : Region.wanted o (yielded ops a.tmps) = true := by simp [Region.wanted, hgd]
 rw [if_pos hw]
 have hrun := run_copy_cells (P := P) w dT sT o.type elem g off dLen dCap ⟨h, p, none⟩ sLen sCap (bL m k) hu hsz (by rw [bL_len, hm]) (fun j v hv => by rw [Addr.add_mid]; exact hsrc j v hv) (fun j hj => (hdst j (by rwa [bL_len] at hj)).1) (fun j hj => (hdst j (by rwa [bL_len] at hj)).2) (bL_one _ _)
 rw [bL_len] at hrun
 unfold Oper.wp
 simp [execOp, ho, resolve, invoke, builtin, hd, hs, hrun, Result.andThen]
 exact hK
theorem run_copy_str {P : Program} (w : World) (dT sT ty elem g off dLen dCap : Nat) (s : ByteArray) (m : Nat) (k : Nat → UInt8) (hu : P.underlying dT = some (.slice elem)) (hsz : (P.info? elem).map (·.size) = some 1)
 (hm : m = Nat.min s.size dLen) (hsrc : ∀ j, j < m → s.data.toList[j]? = some (k j)) (hdst : w.there g off m) :
 (Builtin.copy_ #[dT, sT] ty #[.slice (some ⟨g, off, none⟩) dLen dCap, .string s]).run P w = .ok (goInt m) (w.setCells g off (bL m k)) := by
 have hst := run_storeCells_cells (P := P) g off (bL m k) 0 w (fun j hj => by rw [Nat.add_zero]; exact (hdst j (by rwa [bL_len] at hj)).1) (fun j hj => by rw [Nat.add_zero]; exact (hdst j (by rwa [bL_len] at hj)).2) (bL_one _ _)
 have htk : List.take m (List.map (fun b : UInt8 => Value.int IntKind.u8 (b.toNat : Int)) s.data.toList) = bL m k := by
  apply List.ext_getElem?
  intro j
  have hle : m ≤ s.data.toList.length := by
   have e : s.data.toList.length = s.size := rfl
   rw [e, hm]; exact Nat.min_le_left _ _
  by_cases hj : j < m
  · rw [List.getElem?_take_of_lt hj, List.getElem?_map, hsrc j hj, bL_at m k j hj]; rfl
  · rw [List.getElem?_eq_none (by rw [List.length_take]; omega), List.getElem?_eq_none (by rw [bL_len]; omega)]
 simp only [Nat.add_zero] at hst
 cases hq : P.info? elem with
 | none => simp [hq] at hsz
 | some i =>
   simp [Builtin.copy_, run_underlying hu, Builtin.lenOf, Builtin.firstCells, sizeOf, typeInfo, hq, ← hm]
   rw [htk, hst]
   simp [Result.andThen]
theorem step_copy_S {P : Program} {ops : Array Oper} {o : Oper} {a : Act} {w : World} {K : Act → World → Prop} {Q : Exit → Act → World → Prop} {E : Prop} (hgd : o.guard = none) (d s : Operand) (dT sT : TypeId)
 (ho : o.op = .call { callee := .builtin .copy, args := #[d, s], argTypes := #[dT, sT] }) (elem : TypeId) (hu : P.underlying dT = some (.slice elem)) (hsz : (P.info? elem).map (·.size) = some 1)
 (g off dLen dCap : Nat) (t : ByteArray) (hd : a.eval d = .slice (some ⟨g, off, none⟩) dLen dCap) (hs : a.eval s = .string t)
 (m : Nat) (k : Nat → UInt8) (hm : m = Nat.min t.size dLen) (hsrc : ∀ j, j < m → t.data.toList[j]? = some (k j)) (hdst : w.there g off m)
 (hK : K (a.put o.dst (goInt m)) (w.setCells g off (bL m k))) :
 if Region.wanted o (yielded ops a.tmps) = true then Oper.wp P o a w K Q else E := by
 have hw : Region.wanted o (yielded ops a.tmps) = true := by simp [Region.wanted, hgd]
 rw [if_pos hw]
 have hrun := run_copy_str (P := P) w dT sT o.type elem g off dLen dCap t m k hu hsz hm hsrc hdst
 unfold Oper.wp
 simp [execOp, ho, resolve, invoke, builtin, hd, hs, hrun, Result.andThen]
 exact hK
theorem wpList_load_B {P : Program} {ops : Array Oper} {rest : List Oper} {op : Oper} {a : Act} {w : World} {Q : Exit → Act → World → Prop} (hgd : op.guard = none) (ty : TypeId) (x : Operand) (ho : op.op = .load ty x)
 (g o : Nat) (hx : a.eval x = .pointer (some ⟨g, o, none⟩)) (t N n : Nat) (f k : Nat → UInt8) (d : TypeDesc) (hrow : w.rowIs g t N (u8V f)) (hn : o + n ≤ N) (hk : ∀ j, j < n → k j = f (o + j))
 (hu : P.underlying ty = some d) (hd : d.isRow = true) (hi : (P.info? ty).map (·.size) = some n)
 (h : wpList P ops Q rest (a.put op.dst (.agg (bL n k).toArray)) w) : wpList P ops Q (op :: rest) a w :=
 wpList_load_mid hgd ty x ho g o hx (bL n k) d (row_range hrow hn hk) hu hd (by rw [bL_len]; exact hi) h
theorem wpList_store_B {P : Program} {ops : Array Oper} {rest : List Oper} {op : Oper} {a : Act} {w : World} {Q : Exit → Act → World → Prop} (hgd : op.guard = none) (ty : TypeId) (x y : Operand) (ho : op.op = .store ty x y)
 (g o n : Nat) (k : Nat → UInt8) (hx : a.eval x = .pointer (some ⟨g, o, none⟩)) (hy : a.eval y = .agg (bL n k).toArray) (ht : w.there g o n) (hi : (P.info? ty).map (·.size) = some n)
 (h : wpList P ops Q rest (a.put op.dst undef) (w.setCells g o (bL n k))) : wpList P ops Q (op :: rest) a w :=
 wpList_store_mid hgd ty x y ho g o (bL n k).toArray hx hy (by rw [bL_size]; exact ht) (by rw [bL_size]; exact hi) (bL_all n k) h
theorem ret_B {P : Program} {fn : Func} {p : Tmp} {ty : TypeId} (h : fn.results = #[.cell p ty]) (tmps : Array Value) (w : World) (g n : Nat) (t : TypeId) (k : Nat → UInt8) (d : TypeDesc)
 (hp : tmps.getD p undef = .pointer (some ⟨g, 0, none⟩)) (hrow : w.rowIs g t n (u8V k)) (hu : P.underlying ty = some d) (hd : d.isRow = true) (hi : (P.info? ty).map (·.size) = some n) :
 (results fn tmps).run P w = .ok (.agg (bL n k).toArray) w :=
 results_cell_row h tmps w g t _ (0, 0) d hp (row_heap hrow) hu (by cases d <;> simp_all) (by rw [bL_size]; exact hi)
theorem ext_size (b : ByteArray) (p n : Nat) (hn : b.size = n) (_hp : p ≤ n) : (b.extract p n).size = n - p := by rw [ByteArray.size_extract, hn, Nat.min_self]
theorem ext_at (b : ByteArray) (p n : Nat) (hn : b.size = n) (j : Nat) (hj : p + j < n) : (b.extract p n).data.toList[j]? = some (bF b (p + j)) := by
 have h := bF_at b n hn (p + j) hj
 rw [ByteArray.data_extract, Array.getElem?_toList, Array.getElem?_extract, if_pos (by have e : b.data.size = b.size := rfl; omega), ← Array.getElem?_toList]
 exact h
section
variable {P : Program} {md : Region.Mode} {ops : Array Oper} {Q : Exit → Act → World → Prop} {S : World → Prop}
theorem takeD {i : Nat} {oi : Oper} {v : Value} {fuel : Nat} {listed : Array Bool} {a : Act} {w : World} (d : Option Nat) (hi : ops[i]? = some oi) (hd : oi.dst = d)
 (hs : Region.noSelect ops = true) (hf : Region.free md ops listed i = true) (hr : (Region.ready md ops listed).contains i = true)
 (hQ : ∀ c a w, Q (.panic c) (a.put d v) w → Q (.panic c) a w) (hy : YieldsIf P ops S oi v a) (hS : S w)
 (h : wpAnyH P md ops Q S fuel (listed.setIfInBounds i true) (a.put d v) w) : wpAnyH P md ops Q S (fuel + 1) listed a w := by
 subst hd
 exact wpAnyH_take hi hs hf hr hQ hy hS h
theorem oneLoad {i : Nat} {o : Oper} {fuel : Nat} {listed : Array Bool} {a : Act} {w : World} (d : Option Nat) (hr : Region.ready md ops listed = [i]) (ho : ops[i]? = some o) (hd : o.dst = d) (hgd : o.guard = none)
 (ty : TypeId) (x : Operand) (hop : o.op = .load ty x) (g off n : Nat) (hx : a.eval x = .pointer (some ⟨g, off, none⟩)) (k : Nat → UInt8) (dsc : TypeDesc) (hc : w.rangeAt g off (bL n k)) (hu : P.underlying ty = some dsc) (hdr : dsc.isRow = true) (hi : (P.info? ty).map (·.size) = some n) (hS : S w)
 (h : wpAnyH P md ops Q S fuel (listed.setIfInBounds i true) (a.put d (.agg (bL n k).toArray)) w) : wpAnyH P md ops Q S (fuel + 1) listed a w := by
 subst hd
 refine wpAnyH_ready hr (by simp) (AllReadyH.cons ho (fun K hK => ?_) AllReadyH.nil)
 rw [if_pos (by simp [Region.wanted, hgd])]
 exact wp_load_mid ty x hop g off hx (bL n k) dsc hc hu hdr (by rw [bL_len]; exact hi) (hK.out _ _ hS (fun _ => h))
theorem oneStore {i : Nat} {o : Oper} {fuel : Nat} {listed : Array Bool} {a : Act} {w : World} (d : Option Nat) (hr : Region.ready md ops listed = [i]) (ho : ops[i]? = some o) (hd : o.dst = d) (hgd : o.guard = none)
 (ty : TypeId) (x y : Operand) (hop : o.op = .store ty x y) (g off n : Nat) (k : Nat → UInt8) (hx : a.eval x = .pointer (some ⟨g, off, none⟩)) (hy : a.eval y = .agg (bL n k).toArray) (ht : w.there g off n) (hi : (P.info? ty).map (·.size) = some n) (hS : S (w.setCells g off (bL n k)))
 (h : wpAnyH P md ops Q S fuel (listed.setIfInBounds i true) (a.put d undef) (w.setCells g off (bL n k))) : wpAnyH P md ops Q S (fuel + 1) listed a w := by
 subst hd
 refine wpAnyH_ready hr (by simp) (AllReadyH.cons ho (fun K hK => ?_) AllReadyH.nil)
 rw [if_pos (by simp [Region.wanted, hgd])]
 exact wp_store_mid ty x y hop g off (bL n k).toArray hx hy (by rw [bL_size]; exact ht) (by rw [bL_size]; exact hi) (bL_all n k) (hK.out _ _ hS (fun _ => h))
theorem yieldsB {o : Oper} {a : Act} (hw : Region.wanted o (yielded ops a.tmps) = true) (ty : TypeId) (x : Operand) (ho : o.op = .load ty x) (g off n : Nat) (hx : a.eval x = .pointer (some ⟨g, off, none⟩)) (k : Nat → UInt8) (dsc : TypeDesc) (hS : ∀ w, S w → w.rangeAt g off (bL n k))
 (hu : P.underlying ty = some dsc) (hd : dsc.isRow = true) (hi : (P.info? ty).map (·.size) = some n) : YieldsIf P ops S o (.agg (bL n k).toArray) a :=
 yieldsIf_load_mid hw ty x ho g off hx (bL n k) dsc hS hu hd (by rw [bL_len]; exact hi)
theorem step_copy_BD {o : Oper} {a : Act} {w : World} {K : Act → World → Prop} {E : Prop} (dd : Option Nat) (hdd : o.dst = dd) (hgd : o.guard = none) (d s : Operand) (dT sT : TypeId)
 (ho : o.op = .call { callee := .builtin .copy, args := #[d, s], argTypes := #[dT, sT] }) (elem : TypeId) (hu : P.underlying dT = some (.slice elem)) (hsz : (P.info? elem).map (·.size) = some 1)
 (g off dLen dCap h p sLen sCap : Nat) (hd : a.eval d = .slice (some ⟨g, off, none⟩) dLen dCap) (hs : a.eval s = .slice (some ⟨h, p, none⟩) sLen sCap)
 (m : Nat) (k : Nat → UInt8) (hm : m = Nat.min sLen dLen) (hsrc : w.rangeAt h p (bL m k)) (hdst : w.there g off m)
 (hK : K (a.put dd (goInt m)) (w.setCells g off (bL m k))) :
 if Region.wanted o (yielded ops a.tmps) = true then Oper.wp P o a w K Q else E := by
 subst hdd
 exact step_copy_B hgd d s dT sT ho elem hu hsz g off dLen dCap h p sLen sCap hd hs m k hm hsrc hdst hK
theorem step_copy_SD {o : Oper} {a : Act} {w : World} {K : Act → World → Prop} {E : Prop} (dd : Option Nat) (hdd : o.dst = dd) (hgd : o.guard = none) (d s : Operand) (dT sT : TypeId)
 (ho : o.op = .call { callee := .builtin .copy, args := #[d, s], argTypes := #[dT, sT] }) (elem : TypeId) (hu : P.underlying dT = some (.slice elem)) (hsz : (P.info? elem).map (·.size) = some 1)
 (g off dLen dCap : Nat) (t : ByteArray) (hd : a.eval d = .slice (some ⟨g, off, none⟩) dLen dCap) (hs : a.eval s = .string t)
 (m : Nat) (k : Nat → UInt8) (hm : m = Nat.min t.size dLen) (hsrc : ∀ j, j < m → t.data.toList[j]? = some (k j)) (hdst : w.there g off m)
 (hK : K (a.put dd (goInt m)) (w.setCells g off (bL m k))) :
 if Region.wanted o (yielded ops a.tmps) = true then Oper.wp P o a w K Q else E := by
 subst hdd
 exact step_copy_S hgd d s dT sT ho elem hu hsz g off dLen dCap t hd hs m k hm hsrc hdst hK
end
end Go.Proofs.YtconcnndghmdfaaGreatDoor
