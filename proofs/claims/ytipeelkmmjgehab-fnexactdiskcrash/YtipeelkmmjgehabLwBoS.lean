/- The walk over the laws' toBoolS; truth values in memory. -/
import Derived.Test.YtipeelkmmjgehabLwBo0
import Derived.Test.YtipeelkmmjgehabLwDisk2
import Derived.Test.YtipeelkmmjgehabDskK
namespace Go.Proofs.Ytipeelkmmjgehab
open Go Go.RowKit
theorem Try.infoBoo : (Try.prog.info? 4).map (fun i => (i.zero, i.size, i.bytes)) = some (some (.bool false), 1, 1) := by kernel_rfl
theorem make_Bo (n : Nat) (hn : n ≤ 1048576) (w : World) : (Instr.makeSlice 35 (.int .i64 (n : Int)) (.int .i64 (n : Int))).run Try.prog w = .ok (.slice (some ⟨w.heap.size, 0, none⟩) n n) (w.alloc (.cells (madeCells #[.bool false] (n * 1)) 4)) := by
  obtain ⟨i, hi, hz, hs, hb⟩ := info_parts Try.infoBoo
  have h := run_make (P := Try.prog) w 35 4 i _ Try.underlying35 hi hz .i64 .i64 n n (by omega) (by omega) (by rw [hb]; omega) (by omega)
  rw [hs] at h
  exact h
theorem valM.toV {w : World} {v : Value} {n : Nat} {f : Nat → Value} (h : valM 1 w v n f) : valV w v n f := by
  obtain ⟨ao, cap, rfl, hcap, h | ⟨g, rfl, hl, hc⟩⟩ := h
  · exact ⟨ao, cap, rfl, hcap, .inl h⟩
  · exact ⟨_, cap, rfl, hcap, .inr ⟨g, rfl, hl, fun j hj => hc j (by omega)⟩⟩
theorem valV.booI {w : World} {v : Value} {n : Nat} {K : Nat → Bool} (h : valV w v n (fun j => .bool (K j))) : booI w w.heap.size v n K := by
  obtain ⟨ao, cap, rfl, hcap, h | ⟨g, rfl, hl, hc⟩⟩ := h
  · exact ⟨ao, cap, rfl, hcap, .inl h⟩
  · exact ⟨_, cap, rfl, hcap, .inr ⟨g, 0, rfl, hl, fun j hj => by rw [Nat.zero_add]; exact (hc j hj).1⟩⟩
theorem valV.only {w w' : World} {v : Value} {n lo hi a b : Nat} {f : Nat → Value} (h : valV w v n f) (ho : Only w w' lo hi) (hw : within v a b) (hd : b ≤ lo ∨ hi ≤ a) : valV w' v n f := by
  obtain ⟨ao, cap, rfl, hcap, h | ⟨g, rfl, hl, hc⟩⟩ := h
  · exact ⟨ao, cap, rfl, hcap, .inl h⟩
  · have hg := hw g rfl
    have e := ho.block g hl (by omega)
    exact ⟨_, cap, rfl, hcap, .inr ⟨g, rfl, Nat.lt_of_lt_of_le hl ho.size, fun j hj => by rw [World.cell?_of_block (w := w) (a := ⟨g, j, none⟩) e, frozen_blk e]; exact hc j hj⟩⟩
theorem valV.shape {w : World} {v : Value} {n : Nat} {f : Nat → Value} (h : valV w v n f) : ∃ a c, v = .slice a n c := by
  obtain ⟨a, c, e, _⟩ := h
  exact ⟨a, c, e⟩
set_option maxRecDepth 100000 in
set_option maxHeartbeats 800000 in
theorem law_toBoM (v : Value) (n : Nat) (F : Nat → Bool) (w : World) (hlen : n ≤ 1048576) (hb : booI w w.heap.size v n F) :
    Calls Try.prog 29 #[v] w fun e w' => ∃ o, e = .returned o ∧ valM 1 w' o n (fun j => .bool (F j)) ∧ within o w.heap.size w'.heap.size ∧ Below w.heap.size w w' := by
  obtain ⟨a, cap, rfl, hcap, hbits⟩ := hb
  have HB := hide hbits
  clear hbits
  have hcap' : (n : Int) ≤ (cap : Int) := by omega
  have hmk := make_Bo n hlen
  go_enter Try.func29, Try.ntmps29
  go_wp2_with fail
  clear hmk
  obtain ⟨f0, hf0⟩ := made_rc w #[.bool false] (n * 1) 4
  have HF0 := hide hf0
  clear hf0
  go_loopw [4] (fun i wx => ∃ (k : Nat) (f : Nat → Value), k ≤ n ∧ i = .int .i64 k ∧ Hid (∀ j, j < k → f j = .bool (F j)) ∧ Hid (rc wx w.heap.size (n * 1) f) ∧ Hid (Below w.heap.size w wx)) (fun i _ => n - (intOf i).toNat)
  case atStart => exact ⟨0, f0, by omega, rfl, fun j hj => by omega, by simpa using HF0, (Below.refl _ _).alloc (Nat.le_refl _) _⟩
  case round =>
    obtain ⟨k, f, hk, rfl, hf, hrw, hbl⟩ := hrel
    by_cases hlt : k < n
    · have hlt' : (k : Int) < (n : Int) := by omega
      obtain h0 | ⟨r, o, rfl, hr, hcells⟩ := HB.out
      · omega
      obtain ⟨x, hx⟩ : ∃ x, x = F k := ⟨_, rfl⟩
      have y : wr.cell? ⟨r, o + k, none⟩ = some (.bool x) := by rw [hx]; exact (hbl.out.cell (p := ⟨r, o + k, none⟩) hr).trans (hcells k hlt)
      obtain ⟨g0, z0⟩ := hrw.out.at_ k (by omega)
      have R2 := hide (hrw.out.set k (.bool x))
      have B2 := hide (below_set hbl.out w.heap.size k (Nat.le_refl _) (.bool x))
      have hf2 := hide (show ∀ j, j < k + 1 → (fun y => if y = k then Value.bool x else f y) j = .bool (F j) from fun j hj => by
        show (if j = k then Value.bool x else f j) = _
        by_cases e : j = k
        · rw [if_pos e, hx, e]
        · rw [if_neg e]; exact hf.out j (by omega))
      clear hcells HB hx hf hrw hbl
      go_wp2_with fail
      go_roundw
      case rel => exact ⟨k + 1, _, by omega, by go_num, hf2, R2, B2⟩
      case measure => simp [intOf]; omega
    · have hlt' : ¬ (k : Int) < (n : Int) := by omega
      have hkn : k = n := by omega
      have hfin := hide (show valM 1 wr (.slice (some ⟨w.heap.size, 0, none⟩) n n) n (fun j => .bool (F j)) from hrw.out.val (Nat.le_refl _) (fun x hx => hf.out x (by omega)))
      have HL9 := hide hrw.out.lt
      clear hf hrw hkn
      go_wp2_with fail
      go_ret
      exact ⟨_, rfl, hfin.out, fun k e => by cases e; exact ⟨Nat.le_refl _, HL9.out⟩, hbl.out⟩
theorem law_toBo (v : Value) (n : Nat) (F : Nat → Bool) (w : World) (hlen : n ≤ 1048576) (hb : booI w w.heap.size v n F) :
    Calls Try.prog 29 #[v] w fun e w' => ∃ o, e = .returned o ∧ valV w' o n (fun j => .bool (F j)) ∧ within o w.heap.size w'.heap.size ∧ Below w.heap.size w w' :=
  (law_toBoM v n F w hlen hb).mono fun _ _ ⟨o, h1, h2, h3⟩ => ⟨o, h1, h2.toV, h3⟩
end Go.Proofs.Ytipeelkmmjgehab
