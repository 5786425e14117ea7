/- The walks over PutNum, of the program and of the model. -/
import Derived.Test.YtdoodkabmeojmaaDoorRows
import Derived.Test.YtdoodkabmeojmaaDoorNums
import Derived.Test.YtdoodkabmeojmaaDoorOwn
import Derived.WalkKit
namespace Go.Proofs.YtdoodkabmeojmaaDoor
open Go.RowKit

theorem Tryd.infoU8 : (Tryd.prog.info? 5).map (fun i => (i.zero, i.size, i.bytes)) = some (some (.int .u8 0), 1, 1) := by kernel_rfl

theorem fold_neg (n : Int) (h : n < 0) : (foldNum n : Int) = 2 * -(n + 1) + 1 := by unfold foldNum; rw [if_pos h]; omega
theorem fold_pos (n : Int) (h : 0 ≤ n) : (foldNum n : Int) = 2 * n := by unfold foldNum; rw [if_neg (by omega)]; omega
theorem fold_le (n : Int) (h1 : -9223372036854775808 ≤ n) (h2 : n ≤ 9223372036854775807) : foldNum n ≤ 18446744073709551615 := by
  by_cases h : n < 0
  · have := fold_neg n h; omega
  · have := fold_pos n (by omega); omega

set_option maxHeartbeats 400000 in
theorem spec_fold (n : Int) (w : World) (h1 : -9223372036854775808 ≤ n) (h2 : n ≤ 9223372036854775807) :
    Calls Tryd.prog 60 #[.int .i64 n] w fun e w' => e = .returned (.int .u64 (foldNum n)) ∧ w = w' := by
  by_cases h : n < 0
  · go_enter Tryd.func60, Tryd.ntmps60
    go_wp2
    go_ret
    exact ⟨ret_int (fold_neg n h).symm, rfl⟩
  · go_enter Tryd.func60, Tryd.ntmps60
    go_wp2
    go_ret
    exact ⟨ret_int (fold_pos n (by omega)).symm, rfl⟩

theorem own_empty (w : World) (e : Nat) : (w.alloc (.cells #[] e)).ownsRow w.heap.size e 1 (.slice (some ⟨w.heap.size, 0, none⟩) 0 0) ([] : List UInt8).length (([] : List UInt8).map byteV) := by
  simpa using World.ownsRow_made (e := e) (size := 1) (base := w.heap.size) w #[] 0 (Nat.le_refl _) (by decide) (by simp)

theorem len_le {done r : List UInt8} {m : Nat} (h : done ++ r = encNum m) (hm : m ≤ 18446744073709551615) : done.length ≤ 10 := by
  have h1 := encNum_len10 m (by omega)
  have h2 := congrArg List.length h
  simp at h2; omega

theorem below_push {w wr w1 : World} {e : Nat} {v : Value} {n : Nat} {xs : List Value} {o : Obj} (hown : wr.ownsRow w.heap.size e 1 v n xs) (hg : (wr.alloc o).grownBy w1 v.ownBlock) (hb : Below w.heap.size w wr) : Below w.heap.size w w1 :=
  (hb.alloc hb.size o).grown hg (by have := hb.size; simp; omega) (fun k hk => (hown.lt k hk).1)

theorem more_step {w wr w1 : World} {e : Nat} {v v' : Value} {U : Nat} {done : List UInt8} {o : Obj} {n : Int} (hlt : ¬ U < 128) (hd : done ++ encNum U = encNum (foldNum n))
    (hown : wr.ownsRow w.heap.size e 1 v done.length (done.map byteV)) (hown' : w1.ownsRow w.heap.size e 1 v' (done.length + 1) (done.map byteV ++ [.int .u8 ((U : Int) % 128 + 128)]))
    (hg : (wr.alloc o).grownBy w1 v.ownBlock) (hb : Below w.heap.size w wr) :
    Hid ((done ++ [UInt8.ofNat (U % 128 + 128)]) ++ encNum (U / 128) = encNum (foldNum n)) ∧ w1.ownsRow w.heap.size e 1 v' (done ++ [UInt8.ofNat (U % 128 + 128)]).length ((done ++ [UInt8.ofNat (U % 128 + 128)]).map byteV) ∧ Below w.heap.size w w1 := by
  refine ⟨?_, own_push _ hown' ?_, below_push hown hg hb⟩
  · show _ = _
    rw [← hd, encNum_more U hlt]; simp
  · rw [ofNat_byte _ (by omega)]; omega

theorem last_step {w wr w1 : World} {e : Nat} {v v' : Value} {U : Nat} {done : List UInt8} {o : Obj} {n : Int} (hlt : U < 128) (hd : done ++ encNum U = encNum (foldNum n))
    (hown : wr.ownsRow w.heap.size e 1 v done.length (done.map byteV)) (hown' : w1.ownsRow w.heap.size e 1 v' (done.length + 1) (done.map byteV ++ [.int .u8 (U : Int)]))
    (hg : (wr.alloc o).grownBy w1 v.ownBlock) (hb : Below w.heap.size w wr) :
    ∃ g cap, v' = .slice (some ⟨g, 0, none⟩) (encNum (foldNum n)).length cap ∧
      (∀ (P : Program) (src dst : Nat), P.underlying src = some (.slice e) → P.underlying e = some (.int .u8) → P.underlying dst = some .string → (convert src dst (.slice (some ⟨g, 0, none⟩) (encNum (foldNum n)).length cap)).run P w1 = .ok (.string ⟨(encNum (foldNum n)).toArray⟩) w1) ∧ Below w.heap.size w w1 := by
  have h := own_push (UInt8.ofNat U) hown' (by rw [ofNat_byte _ (by omega)])
  have e1 : done ++ [UInt8.ofNat U] = encNum (foldNum n) := by rw [← hd, encNum_last U hlt]
  rw [e1] at h
  have hne : encNum (foldNum n) ≠ [] := by rw [← e1]; simp
  obtain ⟨g, cap, rfl, _, hc⟩ := own_bytes h hne
  exact ⟨g, cap, rfl, fun P src dst hs he hd => run_convert_bytes_back w1 src dst e ⟨g, 0, none⟩ cap _ hs he hd hc, below_push hown hg hb⟩

set_option maxRecDepth 100000 in
set_option maxHeartbeats 400000 in
theorem spec_putNum (n : Int) (w : World) (h1 : -9223372036854775808 ≤ n) (h2 : n ≤ 9223372036854775807) :
    Calls Tryd.prog 40 #[.int .i64 n] w fun e w' => e = .returned (.string ⟨(encNum (foldNum n)).toArray⟩) ∧ Below w.heap.size w w' := by
  have hm := fold_le n h1 h2
  obtain ⟨i0, hi, hz0, hz1, hz2⟩ := info_parts Tryd.infoU8
  go_enter Tryd.func40, Tryd.ntmps40
  go_wp2_with (go_at_call 60; refine (spec_fold n _ h1 h2).mono ?_; rintro e w' ⟨rfl, rfl⟩)
  go_loopw [3, 4] (fun u v wr => ∃ (U : Nat) (done : List UInt8), (U : Int) ≤ 18446744073709551615 ∧ u = .int .u64 U ∧ Hid (done ++ encNum U = encNum (foldNum n)) ∧ wr.ownsRow w.heap.size 5 1 v done.length (done.map byteV) ∧ Below w.heap.size w wr) (fun u _ _ => (intOf u).toNat)
  case atStart => exact ⟨_, [], by omega, rfl, rfl, own_empty w _, (Below.refl _ _).alloc (Nat.le_refl _) _⟩
  case round =>
    obtain ⟨U, done, hU, rfl, hd, hown, hb⟩ := hrel
    have hl := len_le hd.out hm
    clear hm
    have hs := hb.size
    by_cases hlt : U < 128
    · go_wp2_with (at_builtin; refine wpList_append_own _ rfl _ _ 22 rfl w.heap.size 5 i0 (.int .u8 0) 1 1 Tryd.underlying22 hi hz0 hz1 hz2 rfl (by decide) _ _ _ rfl (hown.alloc _) ⟨wr.heap.size, 0, none⟩ 1 1 [.int .u8 (U : Int)] rfl rfl (one_cell _ _ _) (one_oneCell _ _) ?c3 ?c4 ?c5 ?_)
      case c3 => unfold maxLen; omega
      case c4 => omega
      case c5 => simp; omega
      intro v' w1 hown' hgrow _
      have R := last_step hlt hd.out hown hown' hgrow hb
      clear hown hown' hgrow hb
      obtain ⟨g, cap, rfl, hcv, hb'⟩ := R
      have hcv := hcv Tryd.prog 22 9 Tryd.underlying22 Tryd.underlying5 Tryd.underlying9
      go_wp2
      go_ret
      exact ⟨rfl, hb'⟩
    · go_wp2_with (at_builtin; refine wpList_append_own _ rfl _ _ 22 rfl w.heap.size 5 i0 (.int .u8 0) 1 1 Tryd.underlying22 hi hz0 hz1 hz2 rfl (by decide) _ _ _ rfl (hown.alloc _) ⟨wr.heap.size, 0, none⟩ 1 1 [.int .u8 ((U : Int) % 128 + 128)] rfl rfl (one_cell _ _ _) (one_oneCell _ _) ?d3 ?d4 ?d5 ?_)
      case d3 => unfold maxLen; omega
      case d4 => omega
      case d5 => simp; omega
      intro v' w1 hown' hgrow _
      have R := more_step hlt hd.out hown hown' hgrow hb
      clear hown hown' hgrow hb
      go_wp2
      go_roundw
      case rel => exact ⟨U / 128, _, by omega, by go_num, R.1, R.2.1, R.2.2⟩
      case measure => simp [intOf]; omega
end Go.Proofs.YtdoodkabmeojmaaDoor
