/- The walks over the laws' eqToken, eqTokenS. -/
import Derived.Test.YtdoodkabmeojmaaRows
import Derived.Test.YtdoodkabmeojmaaLwV
import Derived.Test.YtdoodkabmeojmaaTokC
import Derived.BigRegion
import Derived.BigQuiet
import Derived.Deep.QuietTactic
import Derived.Deep.RegionWith
namespace Go.Proofs.Ytdoodkabmeojmaa
open Go.RowKit
set_option maxRecDepth 100000 in
set_option maxHeartbeats 400000 in
theorem law_eqTok (b m f : Int) (w : World) :
    Calls Try.prog 58 #[.agg #[.int .i64 b, .int .i64 m, .int .i64 f], .agg #[.int .i64 b, .int .i64 m, .int .i64 f]] w fun e w' => e = .returned (.bool true) ∧ Below w.heap.size w w' := by
  go_enter Try.func58, Try.ntmps58
  go_wp2_with fail
  go_ret
  exact ⟨rfl, ((Below.refl _ _).alloc (Nat.le_refl _) _).alloc (by simp) _⟩
set_option maxRecDepth 100000 in
set_option maxHeartbeats 800000 in
theorem law_eqTokS (va vb : Value) (l : List Tok) (w : World) (hlen : l.length ≤ 1048576) (ha : TokI w w.heap.size va l) (hb : TokI w w.heap.size vb l) :
    Calls Try.prog 25 #[va, vb] w fun e w' => e = .returned (.bool true) ∧ Below w.heap.size w w' := by
  obtain ⟨aa, ca, rfl, hca, hA⟩ := ha
  obtain ⟨ab, cb, rfl, hcb, hB⟩ := hb
  have HA := hide hA
  have HB := hide hB
  clear hA hB
  obtain ⟨n, hn⟩ : ∃ n, n = l.length := ⟨_, rfl⟩
  rw [← hn] at hlen hca hcb ⊢
  have HN := hide hn
  have hca' : (n : Int) ≤ (ca : Int) := by omega
  have hcb' : (n : Int) ≤ (cb : Int) := by omega
  clear hn
  go_enter Try.func25, Try.ntmps25
  go_wp2_with fail
  go_loopw [5] (fun i wx => ∃ k : Nat, k ≤ n ∧ i = .int .i64 k ∧ Hid (Below w.heap.size w wx)) (fun i _ => n - (intOf i).toNat)
  case atStart => exact ⟨0, Nat.zero_le _, rfl, Below.refl _ _⟩
  case round =>
    obtain ⟨k, hk, rfl, hbl⟩ := hrel
    by_cases hlt : k < n
    · have hlt' : decide ((k : Int) < (n : Int)) = true := decide_eq_true (by omega)
      have hlt2 : (k : Int) < (n : Int) := by omega
      obtain ⟨x, hx⟩ : ∃ x, l[k]? = some x := ⟨_, List.getElem?_eq_getElem (by rw [← HN.out]; exact hlt)⟩
      obtain h0 | ⟨ra, oa, rfl, hra, hcsa⟩ := HA.out
      · rw [h0] at hx; simp at hx
      obtain h0 | ⟨rb, ob, rfl, hrb, hcsb⟩ := HB.out
      · rw [h0] at hx; simp at hx
      obtain ⟨x1, x2, x3⟩ := hcsa k x hx
      obtain ⟨x4, x5, x6⟩ := hcsb k x hx
      obtain ⟨p, hp⟩ : ∃ q, q = oa + 3 * k := ⟨_, rfl⟩
      obtain ⟨q, hq⟩ : ∃ q, q = ob + 3 * k := ⟨_, rfl⟩
      rw [← hp] at x1 x2 x3
      rw [← hq] at x4 x5 x6
      have y1 := (hbl.out.cell (p := ⟨ra, p, none⟩) hra).trans x1
      have y2 := (hbl.out.cell (p := ⟨ra, p + 1, none⟩) hra).trans x2
      have y3 := (hbl.out.cell (p := ⟨ra, p + 2, none⟩) hra).trans x3
      have y4 := (hbl.out.cell (p := ⟨rb, q, none⟩) hrb).trans x4
      have y5 := (hbl.out.cell (p := ⟨rb, q + 1, none⟩) hrb).trans x5
      have y6 := (hbl.out.cell (p := ⟨rb, q + 2, none⟩) hrb).trans x6
      have y3' : wr.cell? ⟨ra, p + 1 + 1, none⟩ = some (.int .i64 x.f) := y3
      have y6' : wr.cell? ⟨rb, q + 1 + 1, none⟩ = some (.int .i64 x.f) := y6
      have n1 : oa + 3 * k = p := hp.symm
      have n2 : oa + k * 3 = p := by omega
      have n3 : ob + 3 * k = q := hq.symm
      have n4 : ob + k * 3 = q := by omega
      obtain ⟨xb, xm, xf⟩ := x
      simp only at y1 y2 y3 y4 y5 y6 y3' y6'
      have hbs := hbl.out.size
      clear hcsa hcsb HA HB hx x1 x2 x3 x4 x5 x6 hp hq
      go_wp2_with fail
      go_region_with ((go_at_call 58; refine (law_eqTok xb xm xf _).mono ?_; rintro e w9 ⟨rfl, hb9⟩))
      all_goals
        have B9 := hide (hbl.out.trans ((show Below wr.heap.size wr w9 from ⟨hb9.os, hb9.tape, hb9.output, hb9.size, hb9.block⟩).mono hbs))
        clear hb9 hbl y1 y2 y3 y4 y5 y6 y3' y6' n1 n2 n3 n4
        go_wp2_with fail
        go_roundw
        case rel => exact ⟨k + 1, by omega, by go_num, B9⟩
        case measure => simp [intOf]; omega
    · have hlt' : decide ((k : Int) < (n : Int)) = false := decide_eq_false (by omega)
      go_wp2_with fail
      go_ret
      exact ⟨rfl, hbl.out⟩
end Go.Proofs.Ytdoodkabmeojmaa
