/- The walks over the laws' toStringS, szStringS; eqStringS, markStringS, heldStringS over valM. -/
import Derived.Test.YtipeelkmmjgehabRows
import Derived.Test.YtipeelkmmjgehabSli
import Derived.Test.YtipeelkmmjgehabMark
import Derived.BigRegion
namespace Go.Proofs.Ytipeelkmmjgehab
open Go Go.RowKit
/-- The cells of texts. -/
def sC (F : Nat → ByteArray) (x : Nat) : Value := .string (F x)
theorem Try.infoStr : (Try.prog.info? 9).map (fun i => (i.zero, i.size, i.bytes)) = some (some (.string ⟨#[]⟩), 1, 16) := by kernel_rfl
theorem make_Str (n : Nat) (hn : n ≤ 1048576) (w : World) : (Instr.makeSlice 23 (.int .i64 (n : Int)) (.int .i64 (n : Int))).run Try.prog w = .ok (.slice (some ⟨w.heap.size, 0, none⟩) n n) (w.alloc (.cells (madeCells #[.string ⟨#[]⟩] (n * 1)) 9)) := by
  obtain ⟨i, hi, hz, hs, hb⟩ := info_parts Try.infoStr
  have h := run_make (P := Try.prog) w 23 9 i _ Try.underlying23 hi hz .i64 .i64 n n (by omega) (by omega) (by rw [hb]; omega) (by omega)
  rw [hs] at h
  exact h
/-- Texts in memory, below B. -/
def strI (w : World) (B : Nat) (v : Value) (n : Nat) (F : Nat → ByteArray) : Prop :=
  ∃ a cap, v = .slice a n cap ∧ n ≤ cap ∧ (n = 0 ∨ ∃ r o, a = some ⟨r, o, none⟩ ∧ r < B ∧ ∀ j, j < n → w.cell? ⟨r, o + j, none⟩ = some (.string (F j)))
theorem strI.below {w w' : World} {B : Nat} {v : Value} {n : Nat} {F : Nat → ByteArray} (h : strI w B v n F) (hb : Below B w w') : strI w' B v n F := by
  obtain ⟨a, cap, rfl, hc, h | ⟨r, o, rfl, hr, hcell⟩⟩ := h
  · exact ⟨a, cap, rfl, hc, .inl h⟩
  · exact ⟨_, cap, rfl, hc, .inr ⟨r, o, rfl, hr, fun j hj => (hb.cell (p := ⟨r, o + j, none⟩) hr).trans (hcell j hj)⟩⟩
theorem strI.wide {w : World} {B C : Nat} {v : Value} {n : Nat} {F : Nat → ByteArray} (h : strI w B v n F) (hb : B ≤ C) : strI w C v n F := by
  obtain ⟨a, cap, rfl, hc, h | ⟨r, o, rfl, hr, hcell⟩⟩ := h
  · exact ⟨a, cap, rfl, hc, .inl h⟩
  · exact ⟨_, cap, rfl, hc, .inr ⟨r, o, rfl, by omega, hcell⟩⟩
theorem valM.str {w : World} {v : Value} {n : Nat} {F : Nat → ByteArray} (h : valM 1 w v n (sC F)) : strV w v n F := by
  obtain ⟨ao, cap, rfl, hcap, h | ⟨g, rfl, hl, hc⟩⟩ := h
  · exact ⟨ao, cap, rfl, .inl h⟩
  · exact ⟨_, cap, rfl, .inr ⟨g, rfl, hl, fun j hj => hc j (by omega)⟩⟩
theorem valM.strI {w : World} {v : Value} {n : Nat} {F : Nat → ByteArray} (h : valM 1 w v n (sC F)) : strI w w.heap.size v n F := by
  obtain ⟨ao, cap, rfl, hcap, h | ⟨g, rfl, hl, hc⟩⟩ := h
  · exact ⟨ao, cap, rfl, hcap, .inl h⟩
  · exact ⟨_, cap, rfl, hcap, .inr ⟨g, 0, rfl, hl, fun j hj => by rw [Nat.zero_add]; exact (hc j (by omega)).1⟩⟩
theorem strV.valM {w w' : World} {v : Value} {n : Nat} {f : Nat → Value} {F : Nat → ByteArray} (h : valM 1 w v n f) (h2 : strV w' v n F) : valM 1 w' v n (sC F) := by
  obtain ⟨ao, cap, rfl, hcap, _⟩ := h
  obtain ⟨a2, c2, e, h2⟩ := h2
  cases e
  refine ⟨ao, cap, rfl, hcap, ?_⟩
  rcases h2 with h2 | ⟨g, rfl, hl, hc⟩
  · exact .inl h2
  · exact .inr ⟨g, rfl, hl, fun j hj => hc j (by omega)⟩
theorem valM.toStr {w : World} {v : Value} {n : Nat} {f : Nat → Value} (h : valM 1 w v n f) (F : Nat → ByteArray) (e : ∀ j, j < n → f j = .string (F j)) : strV w v n F := (h.congr (k := sC F) (fun j hj => e j (by omega))).str
set_option maxRecDepth 100000 in
set_option maxHeartbeats 800000 in
theorem law_toStrS (v : Value) (n : Nat) (F : Nat → ByteArray) (w : World) (hlen : n ≤ 1048576) (hb : strI w w.heap.size v n F) :
    Calls Try.prog 51 #[v] w fun e w' => ∃ o, e = .returned o ∧ valM 1 w' o n (sC F) ∧ within o w.heap.size w'.heap.size ∧ Below w.heap.size w w' := by
  obtain ⟨a, cap, rfl, hcap, hbits⟩ := hb
  have HB := hide hbits
  clear hbits
  have hcap' : (n : Int) ≤ (cap : Int) := by omega
  have hmk := make_Str n hlen
  go_enter Try.func51, Try.ntmps51
  go_wp2_with fail
  clear hmk
  obtain ⟨f0, hf0⟩ := made_rc w #[.string ⟨#[]⟩] (n * 1) 9
  have HF0 := hide hf0
  clear hf0
  go_loopw [4] (fun i wx => ∃ (k : Nat) (f : Nat → Value), k ≤ n ∧ i = .int .i64 k ∧ Hid (∀ j, j < k → f j = .string (F j)) ∧ Hid (rc wx w.heap.size (n * 1) f) ∧ Hid (Below w.heap.size w wx)) (fun i _ => n - (intOf i).toNat)
  case atStart => exact ⟨0, f0, by omega, rfl, fun j hj => by omega, by simpa using HF0, (Below.refl _ _).alloc (Nat.le_refl _) _⟩
  case round =>
    obtain ⟨k, f, hk, rfl, hf, hrw, hbl⟩ := hrel
    by_cases hlt : k < n
    · have hlt' : (k : Int) < (n : Int) := by omega
      obtain h0 | ⟨r, o, rfl, hr, hcells⟩ := HB.out
      · omega
      obtain ⟨x, hx⟩ : ∃ x, x = F k := ⟨_, rfl⟩
      have y : wr.cell? ⟨r, o + k, none⟩ = some (.string x) := by rw [hx]; exact (hbl.out.cell (p := ⟨r, o + k, none⟩) hr).trans (hcells k hlt)
      obtain ⟨g0, z0⟩ := hrw.out.at_ k (by omega)
      have R2 := hide (hrw.out.set k (.string x))
      have B2 := hide (below_set hbl.out w.heap.size k (Nat.le_refl _) (.string x))
      have hf2 := hide (show ∀ j, j < k + 1 → (fun y => if y = k then Value.string x else f y) j = .string (F j) from fun j hj => by
        show (if j = k then Value.string x else f j) = _
        by_cases e : j = k
        · rw [if_pos e, hx, e]
        · rw [if_neg e]; exact hf.out j (by omega))
      clear hcells HB hx hf hrw hbl
      go_wp2_with fail
      go_roundw
      case rel => exact ⟨k + 1, _, by omega, by go_num, hf2, R2, B2⟩
      case measure => simp [intOf]; omega
    · have hlt' : ¬ (k : Int) < (n : Int) := by omega
      have hkn : k = n := by omega
      have hfin := hide (show valM 1 wr (.slice (some ⟨w.heap.size, 0, none⟩) n n) n (sC F) from hrw.out.val (Nat.le_refl _) (fun x hx => hf.out x (by omega)))
      have HL9 := hide hrw.out.lt
      clear hf hrw hkn
      go_wp2_with fail
      go_ret
      exact ⟨_, rfl, hfin.out, fun k e => by cases e; exact ⟨Nat.le_refl _, HL9.out⟩, hbl.out⟩
set_option maxRecDepth 100000 in
set_option maxHeartbeats 800000 in
theorem law_szStrS (v : Value) (n : Nat) (F : Nat → ByteArray) (L : Int) (w : World) (h0 : 0 ≤ L) (hL : L ≤ 1048576) (hn : n ≤ 9223372036854775807) (hs : ∀ j, j < n → (F j).size ≤ 9223372036854775807) (hb : strI w w.heap.size v n F) :
    Calls Try.prog 49 #[v, .int .i64 L] w fun e w' => ∃ r : Int, e = .returned (.int .i64 r) ∧ (r = -1 ∨ (0 ≤ r ∧ r ≤ L - (n : Int) ∧ ∀ j, j < n → (F j).size ≤ 1048576)) ∧ w = w' := by
  obtain ⟨a, cap, rfl, hcap, hbits⟩ := hb
  have HB := hide hbits
  clear hbits
  have hcap' : (n : Int) ≤ (cap : Int) := by omega
  by_cases b0 : L - (n : Int) < 0
  · go_enter Try.func49, Try.ntmps49
    go_wp2_with fail
    go_ret
    exact ⟨_, rfl, .inl rfl, rfl⟩
  · have b0' : 0 ≤ L - (n : Int) := by omega
    go_enter Try.func49, Try.ntmps49
    go_wp2_with fail
    go_loopw [1, 5] (fun lv i wx => ∃ (k : Nat) (l : Int), k ≤ n ∧ i = .int .i64 k ∧ lv = .int .i64 l ∧ 0 ≤ l ∧ l ≤ L - (n : Int) ∧ Hid (∀ j, j < k → (F j).size ≤ 1048576) ∧ w = wx) (fun _ i _ => n - (intOf i).toNat)
    case atStart => exact ⟨0, _, Nat.zero_le _, rfl, rfl, b0', Int.le_refl _, (fun j hj => by omega), rfl⟩
    case round =>
      obtain ⟨k, l, hk, rfl, rfl, hl0, hl1, hsz, rfl⟩ := hrel
      by_cases hlt : k < n
      · have hlt' : (k : Int) < (n : Int) := by omega
        obtain h00 | ⟨r, o, rfl, hr, hcells⟩ := HB.out
        · omega
        obtain ⟨x, hx⟩ : ∃ x, x = F k := ⟨_, rfl⟩
        have y : w.cell? ⟨r, o + k, none⟩ = some (.string x) := by rw [hx]; exact hcells k hlt
        have g0 : x.size ≤ 9223372036854775807 := by rw [hx]; exact hs k hlt
        have HX := hide hx
        clear hcells HB hx hs
        by_cases b1 : l - (x.size : Int) < 0
        · go_wp2_with fail
          go_ret
          exact ⟨_, rfl, .inl rfl, rfl⟩
        · have b1' : 0 ≤ l - (x.size : Int) := by omega
          have hx1 : x.size ≤ 1048576 := by omega
          have R9 := hide (show ∀ j, j < k + 1 → (F j).size ≤ 1048576 from fun j hj => by
            by_cases e : j = k
            · rw [e, ← HX.out]; exact hx1
            · exact hsz.out j (by omega))
          clear hsz HX hx1
          go_wp2_with fail
          go_roundw
          case rel => exact ⟨k + 1, l - (x.size : Int), by omega, by go_num, rfl, b1', by omega, R9, trivial⟩
          case measure => simp [intOf]; omega
      · have hlt' : ¬ (k : Int) < (n : Int) := by omega
        have hkn : n = k := by omega
        subst hkn
        go_wp2_with fail
        go_ret
        exact ⟨_, rfl, .inr ⟨hl0, hl1, hsz.out⟩, rfl⟩
end Go.Proofs.Ytipeelkmmjgehab
