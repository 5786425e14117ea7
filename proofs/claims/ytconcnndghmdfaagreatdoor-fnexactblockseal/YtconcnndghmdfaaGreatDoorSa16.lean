/- Put together: PutNumW, MatchP. -/
import Derived.Test.YtconcnndghmdfaaGreatDoorRows
import Derived.Test.YtconcnndghmdfaaGreatDoorSa15
import Derived.Test.YtconcnndghmdfaaGreatDoorSa1
import Derived.WalkKit
import Derived.Test.YtconcnndghmdfaaGreatDoorSa12
import Derived.Below
import Derived.Test.YtconcnndghmdfaaGreatDoorSa6
import Derived.OwnWalk
import Derived.Deep.AppendLies
import Derived.BigRegion
import Derived.BigQuiet
import Derived.Deep.QuietTactic
namespace Go.Proofs.YtconcnndghmdfaaGreatDoor
open Go.RowKit

theorem Tryz.infoU8 : (Tryz.prog.info? 5).map (fun i => (i.zero, i.size, i.bytes)) = some (some (.int .u8 0), 1, 1) := by kernel_rfl

theorem fold_neg (n : Int) (h : n < 0) : (foldNum n : Int) = 2 * -(n + 1) + 1 := by unfold foldNum; rw [if_pos h]; omega
theorem fold_pos (n : Int) (h : 0 ≤ n) : (foldNum n : Int) = 2 * n := by unfold foldNum; rw [if_neg (by omega)]; omega
theorem fold_le (n : Int) (h1 : -9223372036854775808 ≤ n) (h2 : n ≤ 9223372036854775807) : foldNum n ≤ 18446744073709551615 := by
  by_cases h : n < 0
  · have := fold_neg n h; omega
  · have := fold_pos n (by omega); omega

set_option maxHeartbeats 400000 in
theorem spec_fold (n : Int) (w : World) (h1 : -9223372036854775808 ≤ n) (h2 : n ≤ 9223372036854775807) :
    Calls Tryz.prog 67 #[.int .i64 n] w fun e w' => e = .returned (.int .u64 (foldNum n)) ∧ w = w' := by
  by_cases h : n < 0
  · go_enter Tryz.func67, Tryz.ntmps67
    go_wp2
    go_ret
    exact ⟨ret_int (fold_neg n h).symm, rfl⟩
  · go_enter Tryz.func67, Tryz.ntmps67
    go_wp2
    go_ret
    exact ⟨ret_int (fold_pos n (by omega)).symm, rfl⟩

theorem own_empty (w : World) (e : Nat) : (w.alloc (.cells #[] e)).ownsRow w.heap.size e 1 (.slice (some ⟨w.heap.size, 0, none⟩) 0 0) ([] : List UInt8).length (([] : List UInt8).map byteV) := by
  simpa using World.ownsRow_made (e := e) (size := 1) (base := w.heap.size) w #[] 0 (Nat.le_refl _) (by decide) (by simp)

theorem len_le {done r : List UInt8} {m : Nat} (h : done ++ r = encNum m) (hm : m ≤ 18446744073709551615) : done.length ≤ 10 := by
  have h1 := encNum_len10 m (by omega)
  have h2 := congrArg List.length h
  simp at h2; omega

theorem below_push {w wr w1 : World} {e : Nat} {v : Value} {n : Nat} {xs : List Value} {o : Obj} (hown : wr.ownsRow w.heap.size e 1 v n xs) (hg : (wr.alloc o).grownBy w1 v.ownBlock) (hb : Below w.heap.size w wr) : Below w.heap.size w w1 :=
  (hb.alloc hb.size o).grown hg (by have := hb.size; simp; omega) (fun k hk => (hown.lt k hk).1)

theorem more_step {w wr w1 : World} {e : Nat} {v v' : Value} {U : Nat} {done : List UInt8} {o : Obj} {n : Int} (hlt : ¬ U < 128) (hd : done ++ encNum U = encNum (foldNum n))
    (hown : wr.ownsRow w.heap.size e 1 v done.length (done.map byteV)) (hown' : w1.ownsRow w.heap.size e 1 v' (done.length + 1) (done.map byteV ++ [.int .u8 ((U : Int) % 128 + 128)]))
    (hg : (wr.alloc o).grownBy w1 v.ownBlock) (hb : Below w.heap.size w wr) :
    Hid ((done ++ [UInt8.ofNat (U % 128 + 128)]) ++ encNum (U / 128) = encNum (foldNum n)) ∧ w1.ownsRow w.heap.size e 1 v' (done ++ [UInt8.ofNat (U % 128 + 128)]).length ((done ++ [UInt8.ofNat (U % 128 + 128)]).map byteV) ∧ Below w.heap.size w w1 := by
  refine ⟨?_, own_push _ hown' ?_, below_push hown hg hb⟩
  · show _ = _
    rw [← hd, encNum_more U hlt]; simp
  · rw [ofNat_byte _ (by omega)]; omega

theorem last_step {w wr w1 : World} {e : Nat} {v v' : Value} {U : Nat} {done : List UInt8} {o : Obj} {n : Int} (hlt : U < 128) (hd : done ++ encNum U = encNum (foldNum n))
    (hown : wr.ownsRow w.heap.size e 1 v done.length (done.map byteV)) (hown' : w1.ownsRow w.heap.size e 1 v' (done.length + 1) (done.map byteV ++ [.int .u8 (U : Int)]))
    (hg : (wr.alloc o).grownBy w1 v.ownBlock) (hb : Below w.heap.size w wr) :
    ∃ g cap, v' = .slice (some ⟨g, 0, none⟩) (encNum (foldNum n)).length cap ∧
      (∀ (P : Program) (src dst : Nat), P.underlying src = some (.slice e) → P.underlying e = some (.int .u8) → P.underlying dst = some .string → (convert src dst (.slice (some ⟨g, 0, none⟩) (encNum (foldNum n)).length cap)).run P w1 = .ok (.string ⟨(encNum (foldNum n)).toArray⟩) w1) ∧ Below w.heap.size w w1 := by
  have h := own_push (UInt8.ofNat U) hown' (by rw [ofNat_byte _ (by omega)])
  have e1 : done ++ [UInt8.ofNat U] = encNum (foldNum n) := by rw [← hd, encNum_last U hlt]
  rw [e1] at h
  have hne : encNum (foldNum n) ≠ [] := by rw [← e1]; simp
  obtain ⟨g, cap, rfl, _, hc⟩ := own_bytes h hne
  exact ⟨g, cap, rfl, fun P src dst hs he hd => run_convert_bytes_back w1 src dst e ⟨g, 0, none⟩ cap _ hs he hd hc, below_push hown hg hb⟩

set_option maxRecDepth 100000 in
set_option maxHeartbeats 400000 in
theorem spec_putNum (n : Int) (w : World) (h1 : -9223372036854775808 ≤ n) (h2 : n ≤ 9223372036854775807) :
    Calls Tryz.prog 39 #[.int .i64 n] w fun e w' => e = .returned (.string ⟨(encNum (foldNum n)).toArray⟩) ∧ Below w.heap.size w w' := by
  have hm := fold_le n h1 h2
  obtain ⟨i0, hi, hz0, hz1, hz2⟩ := info_parts Tryz.infoU8
  go_enter Tryz.func39, Tryz.ntmps39
  go_wp2_with (go_at_call 67; refine (spec_fold n _ h1 h2).mono ?_; rintro e w' ⟨rfl, rfl⟩)
  go_loopw [3, 4] (fun u v wr => ∃ (U : Nat) (done : List UInt8), (U : Int) ≤ 18446744073709551615 ∧ u = .int .u64 U ∧ Hid (done ++ encNum U = encNum (foldNum n)) ∧ wr.ownsRow w.heap.size 5 1 v done.length (done.map byteV) ∧ Below w.heap.size w wr) (fun u _ _ => (intOf u).toNat)
  case atStart => exact ⟨_, [], by omega, rfl, rfl, own_empty w _, (Below.refl _ _).alloc (Nat.le_refl _) _⟩
  case round =>
    obtain ⟨U, done, hU, rfl, hd, hown, hb⟩ := hrel
    have hl := len_le hd.out hm
    clear hm
    have hs := hb.size
    by_cases hlt : U < 128
    · go_wp2_with (at_builtin; refine wpList_append_own _ rfl _ _ 22 rfl w.heap.size 5 i0 (.int .u8 0) 1 1 Tryz.underlying22 hi hz0 hz1 hz2 rfl (by decide) _ _ _ rfl (hown.alloc _) ⟨wr.heap.size, 0, none⟩ 1 1 [.int .u8 (U : Int)] rfl rfl (one_cell _ _ _) (one_oneCell _ _) ?c3 ?c4 ?c5 ?_)
      case c3 => unfold maxLen; omega
      case c4 => omega
      case c5 => simp; omega
      intro v' w1 hown' hgrow _
      have R := last_step hlt hd.out hown hown' hgrow hb
      clear hown hown' hgrow hb
      obtain ⟨g, cap, rfl, hcv, hb'⟩ := R
      have hcv := hcv Tryz.prog 22 9 Tryz.underlying22 Tryz.underlying5 Tryz.underlying9
      go_wp2
      go_ret
      exact ⟨rfl, hb'⟩
    · go_wp2_with (at_builtin; refine wpList_append_own _ rfl _ _ 22 rfl w.heap.size 5 i0 (.int .u8 0) 1 1 Tryz.underlying22 hi hz0 hz1 hz2 rfl (by decide) _ _ _ rfl (hown.alloc _) ⟨wr.heap.size, 0, none⟩ 1 1 [.int .u8 ((U : Int) % 128 + 128)] rfl rfl (one_cell _ _ _) (one_oneCell _ _) ?d3 ?d4 ?d5 ?_)
      case d3 => unfold maxLen; omega
      case d4 => omega
      case d5 => simp; omega
      intro v' w1 hown' hgrow _
      have R := more_step hlt hd.out hown hown' hgrow hb
      clear hown hown' hgrow hb
      go_wp2
      go_roundw
      case rel => exact ⟨U / 128, _, by omega, by go_num, R.1, R.2.1, R.2.2⟩
      case measure => simp [intOf]; omega
end Go.Proofs.YtconcnndghmdfaaGreatDoor
namespace Go.Proofs.YtconcnndghmdfaaGreatDoor
open Go.RowKit
theorem bF_getM (t : ByteArray) (j : Nat) (h : j < t.size) : t[j].toNat = (bF t j).toNat := by
  have h2 := bF_at t t.size rfl j h
  rw [List.getElem?_eq_getElem (by have e : t.data.toList.length = t.size := rfl; omega)] at h2
  rw [← Option.some.inj h2]; rfl
theorem longG_now (T : Nat → UInt8) (N at_ far n : Nat) (hn : n < 66) (h : at_ + n < N ∧ T (at_ + n) = T (at_ + n - far)) : longG T N at_ far (66 - n) n = longG T N at_ far (66 - (n + 1)) (n + 1) := by
  rw [show 66 - n = (66 - (n + 1)) + 1 by omega]
  show (if at_ + n < N ∧ T (at_ + n) = T (at_ + n - far) then _ else _) = _
  rw [if_pos h]
theorem longG_not (T : Nat → UInt8) (N at_ far n : Nat) (h : ¬ (n < 66 ∧ at_ + n < N ∧ T (at_ + n) = T (at_ + n - far))) (hn : n ≤ 66) : longG T N at_ far (66 - n) n = n := by
  by_cases e : n = 66
  · subst e; rfl
  · rw [show 66 - n = (66 - (n + 1)) + 1 by omega]
    show (if at_ + n < N ∧ T (at_ + n) = T (at_ + n - far) then _ else _) = _
    rw [if_neg (fun h2 => h ⟨by omega, h2⟩)]
set_option maxRecDepth 100000 in
set_option maxHeartbeats 800000 in
theorem spec_long (t : ByteArray) (at_ far : Nat) (w : World) (hN : t.size ≤ 1000000) (hat : at_ ≤ t.size) (hf1 : 1 ≤ far) (hf2 : far ≤ at_) :
    Calls Tryz.prog 127 #[.string t, .int .i64 (at_ : Int), .int .i64 (far : Int)] w fun e w' => e = .returned (.int .i64 (long (bF t) t.size at_ far : Nat)) ∧ Below w.heap.size w w' := by
  go_enter Tryz.func127, Tryz.ntmps127
  go_wp2_with fail
  go_loopw [7] (fun i wx => ∃ k : Nat, k ≤ 66 ∧ i = .int .i64 k ∧ Hid (longG (bF t) t.size at_ far (66 - k) k = long (bF t) t.size at_ far) ∧ Hid (Below w.heap.size w wx)) (fun i _ => 66 - (intOf i).toNat)
  case atStart => exact ⟨0, by omega, rfl, rfl, Below.refl _ _⟩
  case round =>
    obtain ⟨k, hk, rfl, hl, hbl⟩ := hrel
    obtain ⟨q, hq⟩ : ∃ q, q = at_ + k := ⟨_, rfl⟩
    have s1 : (at_ : Int) + (k : Int) = (q : Int) := by omega
    have s1w : IntKind.i64.wrap ((at_ : Int) + (k : Int)) = (q : Int) := by simp only [IntKind.wrap_i64]; omega
    have hqb : (q : Int) ≤ 1000066 := by omega
    by_cases h1 : k < 66
    · have h1' : (k : Int) < 66 := by omega
      have d1 : decide ((k : Int) < 66) = true := decide_eq_true h1'
      by_cases h2 : q < t.size
      · have h2' : (q : Int) < (t.size : Int) := by omega
        have d2 : decide ((q : Int) < (t.size : Int)) = true := decide_eq_true h2'
        obtain ⟨p, hp⟩ : ∃ p, p = q - far := ⟨_, rfl⟩
        have s2 : (q : Int) - (far : Int) = (p : Int) := by omega
        have s2w : IntKind.i64.wrap ((q : Int) - (far : Int)) = (p : Int) := by simp only [IntKind.wrap_i64]; omega
        have hp2 : p < t.size := by omega
        have hp2' : (p : Int) < (t.size : Int) := by omega
        have b1 := bF_getM t q h2
        have b2 := bF_getM t p hp2
        by_cases h3 : bF t q = bF t p
        · obtain ⟨x, hx⟩ : ∃ x, x = (bF t q).toNat := ⟨_, rfl⟩
          rw [← hx] at b1
          rw [← h3, ← hx] at b2
          have HL := hide (show longG (bF t) t.size at_ far (66 - (k + 1)) (k + 1) = long (bF t) t.size at_ far by
            rw [← hl.out, longG_now (bF t) t.size at_ far k h1 ⟨by omega, by rw [← hq, ← hp]; exact h3⟩])
          clear hl hq hp hx h3
          go_wp2_with fail
          go_quiet (fail)
          have B2 := hide (show Below w.heap.size w (wr.drewN nq) from hbl.out.trans ⟨rfl, rfl, rfl, Nat.le_refl _, fun _ _ => rfl⟩)
          clear hbl
          go_wp2_with fail
          go_roundw
          case rel => exact ⟨k + 1, by omega, by go_num, HL, B2⟩
          case measure => simp [intOf]; omega
        · obtain ⟨x, hx⟩ : ∃ x, x = (bF t q).toNat := ⟨_, rfl⟩
          obtain ⟨y, hy⟩ : ∃ y, y = (bF t p).toNat := ⟨_, rfl⟩
          rw [← hx] at b1
          rw [← hy] at b2
          have hxy : ((x : Int) == (y : Int)) = false := by
            rw [beq_eq_false_iff_ne]
            intro e
            exact h3 (UInt8.toNat_inj.1 (by omega))
          have HL := hide (show k = long (bF t) t.size at_ far by
            rw [← hl.out, longG_not (bF t) t.size at_ far k (fun h => h3 (by have := h.2.2; rw [← hq, ← hp] at this; exact this)) hk])
          clear hl hq hp hx hy h3
          go_wp2_with fail
          go_quiet (fail)
          have B2 := hide (show Below w.heap.size w (wr.drewN nq) from hbl.out.trans ⟨rfl, rfl, rfl, Nat.le_refl _, fun _ _ => rfl⟩)
          clear hbl
          go_wp2_with fail
          go_ret
          exact ⟨by rw [← HL.out]; rfl, B2.out⟩
      · have h2' : ¬ (q : Int) < (t.size : Int) := by omega
        have d2 : decide ((q : Int) < (t.size : Int)) = false := decide_eq_false h2'
        have HL := hide (show k = long (bF t) t.size at_ far by
          rw [← hl.out, longG_not (bF t) t.size at_ far k (fun h => h2 (by have := h.2.1; omega)) hk])
        clear hl hq
        go_wp2_with fail
        go_quiet (fail)
        have B2 := hide (show Below w.heap.size w (wr.drewN nq) from hbl.out.trans ⟨rfl, rfl, rfl, Nat.le_refl _, fun _ _ => rfl⟩)
        clear hbl
        go_wp2_with fail
        go_ret
        exact ⟨by rw [← HL.out]; rfl, B2.out⟩
    · have h1' : ¬ (k : Int) < 66 := by omega
      have d1 : decide ((k : Int) < 66) = false := decide_eq_false h1'
      have HL := hide (show k = long (bF t) t.size at_ far by
        rw [← hl.out, longG_not (bF t) t.size at_ far k (fun h => h1 h.1) hk])
      clear hl hq
      go_wp2_with fail
      go_quiet (fail)
      have B2 := hide (show Below w.heap.size w (wr.drewN nq) from hbl.out.trans ⟨rfl, rfl, rfl, Nat.le_refl _, fun _ _ => rfl⟩)
      clear hbl
      go_wp2_with fail
      go_ret
      exact ⟨by rw [← HL.out]; rfl, B2.out⟩
end Go.Proofs.YtconcnndghmdfaaGreatDoor
