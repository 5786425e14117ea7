/- The walks over the program's firstState and digestOf. -/
import Derived.Test.YtconcnndghmdfaaDoorImpEnd
namespace Go.Proofs.YtconcnndghmdfaaDoor
open Go.RowKit
set_option maxRecDepth 100000 in
set_option maxHeartbeats 1600000 in
theorem first (w : World) :
    Calls Tryd.prog 16 #[] w fun e w' => e = .returned (.agg #[.int .u32 1779033703, .int .u32 3144134277, .int .u32 1013904242, .int .u32 2773480762, .int .u32 1359893119, .int .u32 2600822924, .int .u32 528734635, .int .u32 1541459225]) ∧ Below w.heap.size w w' := by
  go_enter Tryd.func16, Tryd.ntmps16
  go_wp2_with fail
  refine bodyPost_ret (results_cell_row Tryd.results16 _ _ w.heap.size _ _ _ _ rfl (heap_alloc_new w _) Tryd.underlying35 rfl (by kernel_rfl)) rfl ⟨rfl, (Below.refl _ _).alloc (Nat.le_refl _) _⟩
def joinB (ps : List ByteArray) : List UInt8 := ps.flatMap fun p => p.data.toList
theorem joinB_take (ps : List ByteArray) (k : Nat) (p : ByteArray) (h : ps[k]? = some p) : joinB (ps.take (k + 1)) = joinB (ps.take k) ++ p.data.toList := by
  unfold joinB
  rw [List.take_add_one, h]
  simp
theorem joinB_len (ps : List ByteArray) (h : ∀ (j : Nat) (t : ByteArray), ps[j]? = some t → t.size ≤ 1048576) : ∀ k, (joinB (ps.take k)).length ≤ 1048576 * k
  | 0 => by simp [joinB]
  | k + 1 => by
    have ih := joinB_len ps h k
    cases e : ps[k]? with
    | none => rw [List.take_add_one, e, Option.toList_none, List.append_nil]; omega
    | some t =>
      rw [joinB_take ps k t e, List.length_append]
      have h1 := h k t e
      have h2 : t.data.toList.length = t.size := rfl
      omega
theorem first_at (w : World) (base : Nat) : HAt (w.alloc (.cells #[.int .u32 1779033703, .int .u32 3144134277, .int .u32 1013904242, .int .u32 2773480762, .int .u32 1359893119, .int .u32 2600822924, .int .u32 528734635, .int .u32 1541459225, .slice none 0 0, .int .u64 0] 40)) base w.heap.size [] 0 := by
  refine ⟨.slice none 0 0, World.rowIs_alloc w _ _ _ ?_, .inl ⟨rfl, rfl⟩, Nat.le_refl _⟩
  intro i hi
  have hi8 : i < 10 := hi
  match i, hi8 with
  | 0, _ => rfl
  | 1, _ => rfl
  | 2, _ => rfl
  | 3, _ => rfl
  | 4, _ => rfl
  | 5, _ => rfl
  | 6, _ => rfl
  | 7, _ => rfl
  | 8, _ => rfl
  | 9, _ => rfl
set_option maxRecDepth 100000 in
set_option maxHeartbeats 1600000 in
theorem ofParts (p n c : Nat) (ps : List ByteArray) (w : World) (hn : ps.length = n) (hn4 : n ≤ 4) (hp : p < w.heap.size) (hps : ∀ (j : Nat) (t : ByteArray), ps[j]? = some t → t.size ≤ 1048576 ∧ w.cell? ⟨p, j, none⟩ = some (.string t)) (htab : Tab w) :
    Calls Tryd.prog 12 #[.slice (some ⟨p, 0, none⟩) n c] w fun e w' => e = .returned (.string (digestT ⟨(joinB ps).toArray⟩)) ∧ Below w.heap.size w w' := by
  have HP := hide hps
  have HT := hide htab
  clear hps htab
  go_enter Tryd.func12, Tryd.ntmps12
  go_wp2_with fail
  refine (first _).mono ?_
  rintro e w1 ⟨rfl, hB1⟩
  go_wp2_with fail
  have hB2 : Below w.heap.size w (w1.alloc (.cells #[.int .u32 1779033703, .int .u32 3144134277, .int .u32 1013904242, .int .u32 2773480762, .int .u32 1359893119, .int .u32 2600822924, .int .u32 528734635, .int .u32 1541459225, .slice none 0 0, .int .u64 0] 40)) := hB1.alloc hB1.size _
  have hH2 := first_at w1 w.heap.size
  have hs1 := hB1.size
  obtain ⟨g, hg⟩ : ∃ g, g = w1.heap.size := ⟨_, rfl⟩
  rw [← hg] at hs1 hH2 ⊢
  have HL := hide (joinB_len ps (fun j t h => (HP.out j t h).1))
  clear hg hB1
  go_loopw [10] (fun i wx => ∃ k : Nat, k ≤ n ∧ i = .int .i64 k ∧ HAt wx w.heap.size g (joinB (ps.take k)) ((joinB (ps.take k)).length / 64) ∧ Below w.heap.size w wx) (fun i _ => n - (intOf i).toNat)
  case atStart => exact ⟨0, Nat.zero_le _, rfl, by rw [List.take_zero]; exact hH2, hB2⟩
  case round =>
    clear hH2 hB2
    obtain ⟨k, hk, rfl, hH, hB⟩ := hrel
    by_cases hlt : k < n
    · have hlt' : (k : Int) < (n : Int) := by omega
      obtain ⟨t, ht⟩ : ∃ t, ps[k]? = some t := ⟨_, List.getElem?_eq_getElem (by omega)⟩
      have ck : wr.cell? ⟨p, k, none⟩ = some (.string t) := (hB.cell (p := ⟨p, k, none⟩) hp).trans (HP.out k t ht).2
      have hts := (HP.out k t ht).1
      have hJ := hide (joinB_take ps k t ht)
      have hT := hide (HT.out.below hB HT.out.lt)
      clear ht
      go_wp2_with fail
      refine (add' w.heap.size g (joinB (ps.take k)) (joinB (ps.take (k + 1))) t wr hJ.out hH hT.out HT.out.lt hs1 (by have := HL.out k; omega)).mono ?_
      rintro e w2 ⟨rfl, hH2, hB2⟩
      have hB3 := hB.trans hB2
      clear hH hB hB2 ck
      go_wp2_with fail
      exact ⟨⟨k + 1, by omega, by go_num, hH2, hB3⟩, by simp [intOf]; omega⟩
    · have hlt' : ¬ (k : Int) < (n : Int) := by omega
      have hE : ps.take k = ps := List.take_of_length_le (by omega)
      rw [hE] at hH
      have hT := hide (HT.out.below hB HT.out.lt)
      have HL2 := hide (show (joinB ps).length ≤ 1073741824 by have := HL.out k; rw [hE] at this; omega)
      clear hE
      go_wp2_with fail
      refine (ends w.heap.size g (joinB ps) wr hH hT.out HT.out.lt hs1 HL2.out).mono ?_
      rintro e w2 ⟨rfl, hB2⟩
      have hB3 := hB.trans hB2
      clear hH hB hB2
      go_wp2_with fail
      go_ret
      exact ⟨rfl, hB3⟩
end Go.Proofs.YtconcnndghmdfaaDoor
