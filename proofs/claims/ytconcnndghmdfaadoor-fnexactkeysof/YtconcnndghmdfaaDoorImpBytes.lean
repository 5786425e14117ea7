/- The walk over the program's bytes: a state told as 32 bytes. -/
import Derived.Test.YtconcnndghmdfaaDoorImpTake
import Derived.Test.YtconcnndghmdfaaDoorShaA
import Derived.Test.YtconcnndghmdfaaDoorShaP
namespace Go.Proofs.YtconcnndghmdfaaDoor
open Go.RowKit
theorem outB_at (st : Nat → Nat) (j : Nat) (hj : j < 4) : ∀ n i, i < n → (outB st n)[4 * i + j]? = (wordB (st i))[j]?
  | n + 1, i, h => by
    rw [← outB_succ]
    by_cases e : i < n
    · rw [List.getElem?_append_left (by rw [outB_len]; omega)]; exact outB_at st j hj n i e
    · have : i = n := by omega
      subst this
      rw [List.getElem?_append_right (by rw [outB_len]; omega), outB_len, show 4 * i + j - 4 * i = j by omega]
theorem wordB_at (x j : Nat) (hj : j < 4) : (wordB x)[j]? = some (UInt8.ofNat (x / 2 ^ (24 - 8 * j) % 256)) := by
  match j, hj with
  | 0, _ => rfl
  | 1, _ => rfl
  | 2, _ => rfl
  | 3, _ => simp [wordB]
set_option maxRecDepth 100000 in
set_option maxHeartbeats 1600000 in
theorem tell (g : Nat) (st : Nat → Nat) (rv mv : Value) (w : World) (hst : ∀ j, st j < 4294967296) (hrow : w.rowIs g 40 10 (hashV st rv mv)) :
    Calls Tryd.prog 23 #[.pointer (some ⟨g, 0, none⟩)] w fun e w' => e = .returned (.string ⟨(outB st 8).toArray⟩) ∧ Below w.heap.size w w' := by
  have hlt := hrow.lt
  have HR := hide hrow
  clear hrow
  go_enter Tryd.func23, Tryd.ntmps23
  go_wp2_with fail
  go_loopw [8] (fun i wx => ∃ (k : Nat) (f : Nat → UInt8), k ≤ 8 ∧ i = .int .i64 k ∧ Hid (∀ p, p < 4 * k → (outB st 8)[p]? = some (f p)) ∧ wx.rowIs w.heap.size 59 32 (u8V f) ∧ Below w.heap.size w wx) (fun i _ => 8 - (intOf i).toNat)
  case atStart => exact ⟨0, fun _ => 0, by omega, rfl, fun p hp => by omega, zeros8_row 32 w _ _ rfl, (Below.refl _ _).alloc (Nat.le_refl _) _⟩
  case round =>
    obtain ⟨k, f, hk, rfl, hf, hrw, hbl⟩ := hrel
    by_cases hlt8 : k < 8
    · have ck : wr.cell? ⟨g, k, none⟩ = some (.int .u32 (st k : Nat)) := (hbl.cell (p := ⟨g, k, none⟩) hlt).trans (hash_cell HR.out k hlt8)
      have hsk := hst k
      obtain ⟨S, hS⟩ : ∃ S, S = st k := ⟨_, rfl⟩
      rw [← hS] at ck hsk
      have HS := hide hS
      clear hS
      have hsk' : (S : Int) ≤ 4294967295 := by omega
      go_wp2_with fail
      go_region
      go_wp2_with fail
      go_loopw [14] (fun i wx => ∃ (m : Nat) (f : Nat → UInt8), m ≤ 4 ∧ i = .int .i64 m ∧ Hid (∀ p, p < 4 * k + m → (outB st 8)[p]? = some (f p)) ∧ wx.rowIs w.heap.size 59 32 (u8V f) ∧ Below w.heap.size w wx) (fun i _ => 4 - (intOf i).toNat)
      case atStart => exact ⟨0, f, by omega, rfl, fun p hp => hf.out p (by omega), hrw, hbl.drew⟩
      case round =>
        clear hf hrw hbl ck
        obtain ⟨m, f, hm, rfl, hf, hrw, hbl⟩ := hrel
        by_cases hlt4 : m < 4
        · obtain ⟨q0, e0⟩ : ∃ q, q = 4 * k := ⟨_, rfl⟩
          obtain ⟨q, e⟩ : ∃ q, q = 4 * k + m := ⟨_, rfl⟩
          obtain ⟨z, ez⟩ : ∃ q, q = 24 - 8 * m := ⟨_, rfl⟩
          obtain ⟨y, ey⟩ : ∃ q, q = 8 * m := ⟨_, rfl⟩
          have m0 : IntKind.i64.wrap (4 * (k : Int)) = (q0 : Int) := by simp only [IntKind.wrap_i64]; omega
          have m1 : IntKind.i64.wrap ((q0 : Int) + (m : Int)) = (q : Int) := by simp only [IntKind.wrap_i64]; omega
          have m2 : IntKind.i64.wrap (8 * (m : Int)) = (y : Int) := by simp only [IntKind.wrap_i64]; omega
          have m3 : IntKind.i64.wrap (24 - (y : Int)) = (z : Int) := by simp only [IntKind.wrap_i64]; omega
          have nq : (q : Int) < 32 := by omega
          have hz : z ≤ 24 := by omega
          have hz' : (z : Int) ≤ 24 := by omega
          have cq := hrw.cell (i := q) (by omega)
          have hfz := hrw.frozen q
          have HE := hide e
          have HZ := hide ez
          have hq32 : q < 32 := by omega
          clear e0 e ez ey
          go_wp2_with fail
          obtain ⟨Y, hY⟩ : ∃ Y : UInt8, Y = UInt8.ofNat (S / 2 ^ z % 256) := ⟨_, rfl⟩
          have hv : ((S : Int) / 2 ^ z % 256) = ((Y.toNat : Nat) : Int) := by
            rw [hY, ofNat_byte _ (by omega)]; simp
          rw [hv]
          refine ⟨⟨m + 1, fun j => if j = q then Y else f j, by omega, by go_num, fun p hp => ?_, set_byte hrw rfl, hbl.setCell (Nat.le_refl _) _⟩, by simp [intOf]; omega⟩
          by_cases e : p = q
          · show _ = some (if p = q then Y else f p)
            rw [if_pos e, e, HE.out, outB_at st m hlt4 8 k hlt8, wordB_at _ _ hlt4, hY, HS.out, HZ.out]
          · show _ = some (if p = q then Y else f p)
            rw [if_neg e]; exact hf.out p (by have := HE.out; omega)
        · go_wp2_with fail
          exact ⟨⟨k + 1, f, by omega, by go_num, fun p hp => hf.out p (by omega), hrw, hbl⟩, by simp [intOf]; omega⟩
    · have hcv := conv_row (P := Tryd.prog) (cap := 32) hrw (fun j hj => hf.out j (by omega)) (by rw [outB_len]) Tryd.underlying37 Tryd.underlying5 Tryd.underlying9
      go_wp2_with fail
      go_ret
      exact ⟨rfl, hbl⟩
end Go.Proofs.YtconcnndghmdfaaDoor
