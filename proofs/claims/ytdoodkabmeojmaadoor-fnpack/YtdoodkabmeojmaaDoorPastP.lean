/- The program's past: newPast, cut, alike walked. -/
import Derived.Test.YtdoodkabmeojmaaDoorRowC
import Derived.Test.YtdoodkabmeojmaaDoorArr
import Derived.Test.YtdoodkabmeojmaaDoorMatchF
import Derived.Test.YtdoodkabmeojmaaDoorRows
namespace Go.Proofs.YtdoodkabmeojmaaDoor
open Go Go.RowKit
/-- What a *past lies as: the block p holds the text's bytes (T, N of them, in block tb) and the map's block mb. -/
structure Pst (w : World) (p tb mb N cap : Nat) (T : Nat → UInt8) : Prop where
  c0 : w.cell? ⟨p, 0, none⟩ = some (.slice (some ⟨tb, 0, none⟩) N cap)
  c1 : w.cell? ⟨p, 1, none⟩ = some (.map (some mb))
  row : rowC w tb N T
  cap : N ≤ cap
  lt : p < w.heap.size
theorem Pst.of_blocks {w w' : World} {p tb mb N cap : Nat} {T : Nat → UInt8} (h : Pst w p tb mb N cap T) (hs : w.heap.size ≤ w'.heap.size) (hp : w'.heap[p]? = w.heap[p]?) (ht : w'.heap[tb]? = w.heap[tb]?) : Pst w' p tb mb N cap T :=
  ⟨(World.cell?_of_block (w := w) (a := ⟨p, 0, none⟩) hp).trans h.c0, (World.cell?_of_block (w := w) (a := ⟨p, 1, none⟩) hp).trans h.c1, h.row.of_block (Nat.lt_of_lt_of_le h.row.1 hs) ht, h.cap, Nat.lt_of_lt_of_le h.lt hs⟩
theorem Pst.below {w w' : World} {p tb mb N cap : Nat} {T : Nat → UInt8} (h : Pst w p tb mb N cap T) (hb : Below w.heap.size w w') : Pst w' p tb mb N cap T :=
  h.of_blocks hb.size (hb.block p h.lt) (hb.block tb h.row.1)
theorem Pst.alloc {w : World} {p tb mb N cap : Nat} {T : Nat → UInt8} (h : Pst w p tb mb N cap T) (o : Obj) : Pst (w.alloc o) p tb mb N cap T := h.below ((Below.refl _ _).alloc (Nat.le_refl _) _)
theorem Pst.drew {w : World} {p tb mb N cap : Nat} {T : Nat → UInt8} (h : Pst w p tb mb N cap T) : Pst w.drew p tb mb N cap T := ⟨h.c0, h.c1, h.row.drew, h.cap, h.lt⟩
set_option maxRecDepth 100000 in
set_option maxHeartbeats 800000 in
theorem imp_newPast (t : ByteArray) (w : World) :
    Calls Tryd.prog 30 #[.string t] w fun e w' => ∃ cap, e = .returned (.pointer (some ⟨w.heap.size + 2, 0, none⟩)) ∧ Pst w' (w.heap.size + 2) w.heap.size (w.heap.size + 1) t.size cap (bF t) ∧ w'.heap[w.heap.size + 1]? = some (.map #[] 0) ∧ w'.heap.size = w.heap.size + 3 ∧ Below w.heap.size w w' := by
  have hcv := fun (w : World) => run_bytes_of_string (P := Tryd.prog) w 9 22 5 t Tryd.underlying9 Tryd.underlying22 Tryd.underlying5
  have hmm := @run_makeMap Tryd.prog
  have hcap := grownCap_ge w t.size 0 5
  have hrow0 := hasRow.of_text w w.heap.size 5 (grownCap w t.size 0 5) t hcap (Nat.le_refl _)
  have hbl0 := hide ((Below.refl w.heap.size w).alloc (Nat.le_refl _) (.cells (bytesRow t (grownCap w t.size 0 5)) 5 ((bytesRow t (grownCap w t.size 0 5)).size, (bytesRow t (grownCap w t.size 0 5)).size + 1)))
  have HR0 := hide (rowC.of_text hrow0 (bF_at t t.size rfl))
  have HC := hide hcap
  clear hrow0 hcap
  go_enter Tryd.func30, Tryd.ntmps30
  go_wp2_with fail
  go_ret
  generalize hW : (w.alloc (.cells (bytesRow t (grownCap w t.size 0 5)) 5 ((bytesRow t (grownCap w t.size 0 5)).size, (bytesRow t (grownCap w t.size 0 5)).size + 1))) = W at *
  have hWs : W.heap.size = w.heap.size + 1 := by rw [← hW]; simp
  refine ⟨_, rfl, ⟨?_, ?_, ?_, HC.out, by simp [hWs]⟩, ?_, by simp [hWs], ((hbl0.out.alloc hbl0.out.size _).alloc (by simp; have := hbl0.out.size; omega) _).drew⟩
  · have e : w.heap.size + 2 = (W.alloc (.map #[] 0)).heap.size := by simp [hWs]
    rw [e, World.cell?_drew]; simp
  · have e : w.heap.size + 2 = (W.alloc (.map #[] 0)).heap.size := by simp [hWs]
    rw [e, World.cell?_drew]; simp
  · exact ((HR0.out.alloc _).alloc _).drew
  · show ((W.alloc (.map #[] 0)).alloc _).heap[w.heap.size + 1]? = _
    rw [Below.heap_alloc _ _ _ (by simp [hWs])]
    rw [← hWs]; exact heap_alloc_new W _
set_option maxRecDepth 100000 in
set_option maxHeartbeats 800000 in
theorem imp_cut (p tb mb N cap fr many : Nat) (T : Nat → UInt8) (w : World) (h : Pst w p tb mb N cap T) (hN : N ≤ 4000) (hm1 : 1 ≤ many) (hm : fr + many ≤ N) :
    Calls Tryd.prog 52 #[.pointer (some ⟨p, 0, none⟩), .int .i64 (fr : Int), .int .i64 (many : Int)] w fun e w' => e = .returned (.slice (some ⟨tb, fr, none⟩) many many) ∧ w' = w := by
  have c0 := h.c0
  have hcap := h.cap
  obtain ⟨q, hq⟩ : ∃ q, q = fr + many := ⟨_, rfl⟩
  have s1 : (fr : Int) + (many : Int) = (q : Int) := by omega
  have s1w : IntKind.i64.wrap ((fr : Int) + (many : Int)) = (q : Int) := by simp only [IntKind.wrap_i64]; omega
  have h1 : (fr : Int) ≤ (q : Int) := by omega
  have h2 : (q : Int) ≤ (cap : Int) := by omega
  have h3 : q - fr = many := by omega
  have hq4 : (q : Int) ≤ 4000 := by omega
  have hm0 : many ≠ 0 := by omega
  clear h hm hq
  go_enter Tryd.func52, Tryd.ntmps52
  go_wp2_with fail
  go_ret
  exact ⟨rfl, rfl⟩
/-- How many bytes are alike, m at most. -/
def alikeG (A B : Nat → UInt8) : Nat → Nat → Nat
  | 0, n => n
  | k + 1, n => if B n = A n then alikeG A B k (n + 1) else n
set_option maxRecDepth 100000 in
set_option maxHeartbeats 800000 in
theorem imp_alike (tb a b m N : Nat) (T : Nat → UInt8) (w : World) (h : rowC w tb N T) (ha : a + m ≤ N) (hb : b + m ≤ N) (hN : N ≤ 4000) :
    Calls Tryd.prog 54 #[.slice (some ⟨tb, a, none⟩) m m, .slice (some ⟨tb, b, none⟩) m m] w fun e w' => e = .returned (.int .i64 (alikeG (fun j => T (a + j)) (fun j => T (b + j)) m 0 : Nat)) ∧ w' = w := by
  go_enter Tryd.func54, Tryd.ntmps54
  go_wp2_with fail
  go_loopw [9] (fun i wx => ∃ k : Nat, k ≤ m ∧ i = .int .i64 (k : Int) ∧ Hid (alikeG (fun j => T (a + j)) (fun j => T (b + j)) (m - k) k = alikeG (fun j => T (a + j)) (fun j => T (b + j)) m 0) ∧ wx = w) (fun i _ => m - (intOf i).toNat)
  case atStart => exact ⟨0, by omega, rfl, rfl, rfl⟩
  case round =>
    obtain ⟨k, hk, rfl, hl, rfl⟩ := hrel
    by_cases hlt : k < m
    · have hlt' : (k : Int) < (m : Int) := by omega
      have c1 := (h.2 (a + k) (by omega)).1
      have c2 := (h.2 (b + k) (by omega)).1
      have hm4 : (m : Int) ≤ 4000 := by omega
      by_cases he : T (b + k) = T (a + k)
      · have hd : (((T (b + k)).toNat : Int) != ((T (a + k)).toNat : Int)) = false := by rw [he]; simp
        have HL := hide (show alikeG (fun j => T (a + j)) (fun j => T (b + j)) (m - (k + 1)) (k + 1) = alikeG (fun j => T (a + j)) (fun j => T (b + j)) m 0 by
          rw [← hl.out, show m - k = (m - (k + 1)) + 1 by omega]
          show _ = if T (b + k) = T (a + k) then _ else _
          rw [if_pos he])
        clear he hl
        go_wp2_with fail
        go_roundw
        case rel => exact ⟨k + 1, by omega, by go_num, HL, trivial⟩
        case measure => simp [intOf]; omega
      · have hd : (((T (b + k)).toNat : Int) != ((T (a + k)).toNat : Int)) = true := by
          simp only [bne_iff_ne, ne_eq, Int.natCast_inj]
          exact fun e => he (UInt8.toNat_inj.1 e)
        have HL := hide (show alikeG (fun j => T (a + j)) (fun j => T (b + j)) m 0 = k by
          rw [← hl.out, show m - k = (m - (k + 1)) + 1 by omega]
          show (if T (b + k) = T (a + k) then _ else _) = _
          rw [if_neg he])
        clear he hl
        go_wp2_with fail
        go_ret
        exact ⟨by rw [HL.out]; rfl, rfl⟩
    · have hlt' : ¬ (k : Int) < (m : Int) := by omega
      have hm4 : (m : Int) ≤ 4000 := by omega
      have HL := hide (show alikeG (fun j => T (a + j)) (fun j => T (b + j)) m 0 = m by
        rw [← hl.out, show k = m by omega, Nat.sub_self]
        rfl)
      clear hl
      go_wp2_with fail
      go_ret
      exact ⟨by rw [HL.out]; rfl, rfl⟩
end Go.Proofs.YtdoodkabmeojmaaDoor
