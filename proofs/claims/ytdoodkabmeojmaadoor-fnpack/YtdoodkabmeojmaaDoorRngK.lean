/- The walk over the program's carry. -/
import Derived.Test.YtdoodkabmeojmaaDoorRngC
import Derived.Test.YtdoodkabmeojmaaDoorRangeB
import Derived.Test.YtdoodkabmeojmaaDoorRangeM
namespace Go.Proofs.YtdoodkabmeojmaaDoor
open Go.RowKit
set_option maxRecDepth 100000 in
set_option maxHeartbeats 800000 in
theorem imp_carry (base g go n cap low size V : Nat) (ch : Nat → Nat) (w : World) (hn : 0 < n) (hn2 : n ≤ 100000) (hV : V + 1 < 256 ^ n) (hrow : w.rowIs g 64 1603 (cdF size ch low (.slice (some ⟨go, 0, none⟩) n cap))) (hown : ownB w base (.slice (some ⟨go, 0, none⟩) n cap) n (byN n V)) (hne : go ≠ g) :
    Calls Tryd.prog 74 #[.pointer (some ⟨g, 0, none⟩)] w fun e w' => e = .returned (.tuple #[]) ∧ ownB w' base (.slice (some ⟨go, 0, none⟩) n cap) n (byN n (V + 1)) ∧ w.grownBy w' (some go) := by
  have c0 := (cd_cells hrow).2.2.1
  have hHR := hide hrow
  clear hrow
  have hcap : n ≤ cap := by
    obtain ⟨_, ⟨h, _⟩ | ⟨g', cap', cur, h, _, _, h2, _⟩⟩ := hown
    · cases h
    · cases h; exact h2
  have hcap2 : (n : Int) ≤ (cap : Int) := by omega
  go_enter Tryd.func74, Tryd.ntmps74
  go_wp2_with fail
  clear c0
  go_loopw [2] (fun i wx => ∃ (k : Nat) (f : Nat → UInt8), k ≤ n ∧ i = .int .i64 ((n : Int) - 1 - (k : Int)) ∧ Hid (∀ j, j < n → f j = cutZ n V k j) ∧ Hid (V % 256 ^ k = 256 ^ k - 1) ∧ Hid (ownB wx base (.slice (some ⟨go, 0, none⟩) n cap) n f) ∧ Hid (w.grownBy wx (some go))) (fun i _ => (intOf i + 1).toNat)
  case atStart => exact ⟨0, byN n V, by omega, by go_num, fun j hj => by rw [cutZ, if_neg (by omega)], by unfold Hid; rw [Nat.pow_zero, Nat.mod_one], hown, ⟨rfl, rfl, rfl, Nat.le_refl _, fun _ _ _ => rfl⟩⟩
  case round =>
    obtain ⟨k, f, hk, rfl, hf, hm, how, hgr⟩ := hrel
    have hrow := hHR.out.of_block (hgr.out.block g hHR.out.lt (by simp; omega))
    by_cases hlt : k < n
    · obtain ⟨i, ei⟩ : ∃ i, i = n - 1 - k := ⟨_, rfl⟩
      have e1 : (n : Int) - 1 - (k : Int) = (i : Int) := by omega
      rw [e1]
      have hi : i < n := by omega
      have hi' : (i : Int) < (n : Int) := by omega
      have c0 := (cd_cells hrow).2.2.1
      have ci := how.out.cell i hi
      have fi := World.ownsRow.frozenAt how.out i
      obtain ⟨b, hb⟩ : ∃ b, b = V / 256 ^ k % 256 := ⟨_, rfl⟩
      have hfi : f i = UInt8.ofNat b := by rw [hf.out i hi, cutZ, if_neg (by omega), byN, show n - 1 - i = k by omega, hb]
      have hb8 : b < 256 := by omega
      rw [hfi, show ((UInt8.ofNat b).toNat : Int) = (b : Int) by rw [UInt8.toNat_ofNat']; omega] at ci
      by_cases h255 : b = 255
      · obtain ⟨b1, hb1⟩ : ∃ x : Nat, x = 0 := ⟨_, rfl⟩
        have hw : IntKind.u8.wrap ((b : Int) + 1) = (b1 : Int) := by rw [IntKind.wrap_u8]; omega
        have hb1' : ((b1 : Int) == 0) = true := by simp; omega
        have how2 := hide (how.out.set (Y := UInt8.ofNat b1) hi (show b1 = (UInt8.ofNat b1).toNat by rw [UInt8.toNat_ofNat']; omega))
        have hgr2 := hide (grownBy_setB (i := i) hgr.out (.int .u8 (b1 : Int)))
        have c0' : (wr.setCell ⟨go, i, none⟩ (.int .u8 (b1 : Int))).cell? ⟨g, 1602, none⟩ = some (.slice (some ⟨go, 0, none⟩) n cap) := cell_far hne c0
        have ci' : (wr.setCell ⟨go, i, none⟩ (.int .u8 (b1 : Int))).cell? ⟨go, i, none⟩ = some (.int .u8 (b1 : Int)) := World.cell?_setCell_same _ _ _ ci
        have hf' := hide (show ∀ j, j < n → (if j = i then UInt8.ofNat b1 else f j) = cutZ n V (k + 1) j from fun j hj => by
          by_cases e : j = i
          · rw [if_pos e, cutZ, if_pos (by omega), hb1]; rfl
          · rw [if_neg e, hf.out j hj, cutZ, cutZ]
            by_cases e2 : n - k ≤ j
            · rw [if_pos e2, if_pos (by omega)]
            · rw [if_neg e2, if_neg (by omega)])
        have hm' := hide (carry_more V k hm.out (by rw [← hb]; exact h255))
        have HI1 := hide (show (i : Int) - 1 = (n : Int) - 1 - ((k + 1 : Nat) : Int) by omega)
        clear ei hb e1 hfi h255 hb1 hf hm how hgr hrow
        go_wp2_with fail
        go_roundw
        case rel => exact ⟨k + 1, _, by omega, by rw [← HI1.out], hf', hm', how2, hgr2⟩
        case measure => simp [intOf]
      · obtain ⟨b1, hb1⟩ : ∃ x : Nat, x = b + 1 := ⟨_, rfl⟩
        have hw : IntKind.u8.wrap ((b : Int) + 1) = (b1 : Int) := by rw [IntKind.wrap_u8]; omega
        have hb1' : ((b1 : Int) == 0) = false := by simp; omega
        have how2 := how.out.set (Y := UInt8.ofNat b1) hi (show b1 = (UInt8.ofNat b1).toNat by rw [UInt8.toNat_ofNat']; omega)
        have hgr2 := hide (grownBy_setB (i := i) hgr.out (.int .u8 (b1 : Int)))
        have c0' : (wr.setCell ⟨go, i, none⟩ (.int .u8 (b1 : Int))).cell? ⟨g, 1602, none⟩ = some (.slice (some ⟨go, 0, none⟩) n cap) := cell_far hne c0
        have ci' : (wr.setCell ⟨go, i, none⟩ (.int .u8 (b1 : Int))).cell? ⟨go, i, none⟩ = some (.int .u8 (b1 : Int)) := World.cell?_setCell_same _ _ _ ci
        have hf' := (show ∀ j, j < n → (if j = i then UInt8.ofNat b1 else f j) = byN n (V + 1) j from fun j hj => by
          rw [carry_by n V k j hlt hj hm.out (by rw [← hb]; exact h255), ← hb, ← ei]
          by_cases e : j = i
          · rw [if_pos e, if_pos e, hb1]
          · rw [if_neg e, if_neg e, hf.out j hj])
        have how3 := hide (how2.congr hf')
        clear hf' how2 hf hm ei hb e1 hfi h255 hb1 how hgr hrow
        go_wp2_with fail
        exact bodyPost_ret (v := .tuple #[]) (by simp [results, Tryd.results74]) rfl ⟨rfl, how3.out, hgr2.out⟩
    · exact absurd (carry_never n V hV (by rw [show n = k by omega]; exact hm.out)) id
end Go.Proofs.YtdoodkabmeojmaaDoor
