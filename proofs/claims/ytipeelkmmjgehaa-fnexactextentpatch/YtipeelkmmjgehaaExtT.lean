/- The walks over the program's through, with read, with patch. -/
import Derived.Test.YtipeelkmmjgehaaExtK
namespace Go.Proofs.Ytipeelkmmjgehaa
open Go Go.RowKit
/-- How many bytes of a run from p0 on k sectors have. -/
def dN (p0 n k : Nat) : Nat := min (64 * (p0 / 64 + k)) (p0 + n) - p0
theorem dN_le (p0 n k : Nat) : dN p0 n k ≤ n := by unfold dN; omega
theorem dN_zero (p0 n : Nat) : dN p0 n 0 = 0 := by unfold dN; omega
theorem dN_step (p0 n k m : Nat) (hlt : dN p0 n k < n) (hm : m = min (n - dN p0 n k) (64 - (p0 + dN p0 n k) % 64)) : (p0 + dN p0 n k) / 64 = p0 / 64 + k ∧ dN p0 n k + m = dN p0 n (k + 1) ∧ 64 * (p0 / 64 + k) < p0 + n ∧ (p0 + dN p0 n k) % 64 + m ≤ 64 ∧ 0 < m ∧ (dN p0 n k = 0 ∨ (p0 + dN p0 n k) % 64 = 0) := by
  unfold dN at *
  omega
theorem dN_end (p0 n k : Nat) (h : dN p0 n k = n) (hk : k = 0 ∨ 0 < n ∧ 64 * (p0 / 64 + (k - 1)) < p0 + n) : k = touchN p0 n := by
  unfold dN at h
  unfold touchN
  rw [Nat.min_def] at h
  split at h <;> split <;> omega
theorem range_part {w : World} {g n d m : Nat} {f : Nat → UInt8} (h : w.rangeAt g 0 (bL n f)) (hd : d + m ≤ n) : w.rangeAt g d (bL m fun i => f (d + i)) := fun j v hj => by
  obtain ⟨hj2, rfl⟩ := bL_get hj
  have := h (d + j) (u8V f (d + j)) (bL_at n f (d + j) (by omega))
  rwa [Nat.zero_add] at this
theorem range_blk {w w' : World} {g o : Nat} {l : List Value} (h : w.rangeAt g o l) (hb : w'.heap[g]? = w.heap[g]?) : w'.rangeAt g o l := fun j v hj => by
  have := h j v hj
  rw [← this]
  exact World.cell?_of_block (a := ⟨g, o + j, none⟩) hb
theorem patS_size (F : Nat → ByteArray) (p0 : Nat) (t : ByteArray) (s : Nat) : (patS F p0 t s).size = 64 := by
  show (Array.size _) = 64
  simp
theorem patS_bF (F : Nat → ByteArray) (p0 : Nat) (t : ByteArray) (s j : Nat) (hj : j < 64) : bF (patS F p0 t s) j = pB F p0 t (64 * s + j) := by
  simp [bF, patS, hj]
theorem patS_at (F : Nat → ByteArray) (p0 n k m : Nat) (t : ByteArray) (ht : t.size = n) (hlt : dN p0 n k < n) (hm : m = min (n - dN p0 n k) (64 - (p0 + dN p0 n k) % 64)) (j : Nat) (hj : j < 64) :
    bF (patS F p0 t (p0 / 64 + k)) j = if (p0 + dN p0 n k) % 64 ≤ j ∧ j < (p0 + dN p0 n k) % 64 + m then bF t (dN p0 n k + (j - (p0 + dN p0 n k) % 64)) else bF (F (p0 / 64 + k)) j := by
  obtain ⟨h1, h2, h3, h4, h5, h6⟩ := dN_step p0 n k m hlt hm
  rw [patS_bF _ _ _ _ _ hj]
  unfold pB
  have e1 : (64 * (p0 / 64 + k) + j) / 64 = p0 / 64 + k := by omega
  have e2 : (64 * (p0 / 64 + k) + j) % 64 = j := by omega
  have hle := dN_le p0 n k
  generalize dN p0 n k = d at *
  have hp : p0 + d = 64 * (p0 / 64 + k) + (p0 + d) % 64 := by omega
  generalize hf : (p0 + d) % 64 = f at *
  by_cases c : f ≤ j ∧ j < f + m
  · rw [if_pos c, if_pos (by omega)]
    congr 1
    omega
  · rw [if_neg c, if_neg (by omega)]
    unfold dB
    rw [e1, e2]
set_option maxRecDepth 100000 in
set_option maxHeartbeats 1600000 in
theorem imp_through_patch (wb g n cap p0 nS sk nC mb : Nat) (sa ra : Option Addr) (S : Nat → ByteArray) (M : Int → Option ByteArray) (FF : Nat → ByteArray) (t : ByteArray) (w : World) (hn : nS ≤ 620) (hp : p0 + n ≤ 64 * nS) (hts : t.size = n) (hcap : n ≤ cap) (hcap2 : cap ≤ 9223372036854775807)
    (hFF : ∀ j, j < nS → FF j = (M (j : Int)).getD (S j) ∧ (FF j).size = 64) (hv : vwI w wb (.agg #[.slice sa nS sk, .map (some mb)]) nS S nC M)
    (hwb : w.heap[wb]? = some (.cells #[.slice sa nS sk, .map (some mb), .slice none 0 0] 65)) (hrun : n = 0 ∨ ra = some ⟨g, 0, none⟩ ∧ g < w.heap.size ∧ g ≠ wb ∧ w.rangeAt g 0 (bL n (bF t))) :
    Calls Try.prog 38 #[.pointer (some ⟨wb, 0, none⟩), .int .i64 (p0 : Int), .slice ra n cap, .func (.func 39) #[] #[]] w fun e w' => e = .returned (.tuple #[]) ∧ ∃ wa wcp, w'.ownsRow w.heap.size 74 2 (.slice wa (touchN p0 n) wcp) (touchN p0 n) (wL (fun j => ((p0 / 64 + j : Nat) : Int)) (fun j => patS FF p0 t (p0 / 64 + j)) (touchN p0 n)) ∧ w'.heap[wb]? = some (.cells #[.slice sa nS sk, .map (some mb), .slice wa (touchN p0 n) wcp] 65) ∧ w.grownBy w' (some wb) := by
  have HV := hide hv
  have HWB := hide hwb
  have HRUN := hide hrun
  have HFF := hide hFF
  have hwbl : wb < w.heap.size := (Array.getElem?_eq_some_iff.1 hwb).1
  clear hv hwb hrun hFF
  go_enter Try.func38, Try.ntmps38
  go_wp2_with fail
  go_loopw [1, 2] (fun av rv wx => ∃ (k d : Nat) (wa : Option Addr) (wcp : Nat) (rb : Option Addr), d = dN p0 n k ∧ (k = 0 ∨ 0 < n ∧ 64 * (p0 / 64 + (k - 1)) < p0 + n) ∧ av = .int .i64 ((p0 + d : Nat) : Int) ∧ rv = .slice rb (n - d) (cap - d) ∧ Hid (d < n → rb = some ⟨g, d, none⟩) ∧ Hid (wx.ownsRow w.heap.size 74 2 (.slice wa k wcp) k (wL (fun j => ((p0 / 64 + j : Nat) : Int)) (fun j => patS FF p0 t (p0 / 64 + j)) k)) ∧ Hid (wx.heap[wb]? = some (.cells #[.slice sa nS sk, .map (some mb), .slice wa k wcp] 65)) ∧ Hid (w.grownBy wx (some wb))) (fun _ rv _ => match rv with | .slice _ q _ => q | _ => 0)
  case atStart => exact ⟨0, 0, none, 0, ra, (dN_zero p0 n).symm, .inl rfl, rfl, rfl, fun h => by rcases HRUN.out with h0 | h0; omega; exact h0.1, World.ownsRow_nil _ _ _ _, HWB.out, ⟨rfl, rfl, rfl, Nat.le_refl _, fun _ _ _ => rfl⟩⟩
  case round =>
    obtain ⟨k, d, wa, wcp, rb, hd, hk, rfl, rfl, hrb, HO, HB, HG⟩ := hrel
    have hdn : d ≤ n := by rw [hd]; exact dN_le _ _ _
    obtain ⟨p, hp2⟩ : ∃ p, p = p0 + d := ⟨_, rfl⟩
    obtain ⟨q, hq⟩ : ∃ q, q = n - d := ⟨_, rfl⟩
    obtain ⟨c, hc⟩ : ∃ c, c = cap - d := ⟨_, rfl⟩
    rw [← hp2, ← hq, ← hc]
    by_cases hlt : d < n
    · obtain rfl := hrb.out hlt
      have hqpos : 0 < q := by omega
      have e1 : decide ((0 : Int) < (q : Int)) = true := decide_eq_true (by omega)
      obtain ⟨m, hm⟩ : ∃ m, m = min q (64 - p % 64) := ⟨_, rfl⟩
      have hpt := imp_partAt p g d q c m wr (by omega) hqpos (by omega) (by omega) hm
      obtain ⟨s1, s2, s3, s4, s5, s6⟩ := dN_step p0 n k m (by omega) (by rw [hm, hq, hp2, hd])
      rw [← hd] at s1 s2 s4 s6
      rw [← hp2] at s1 s4 s6
      obtain ⟨s, hs⟩ : ∃ s, s = p0 / 64 + k := ⟨_, rfl⟩
      obtain ⟨f, hf⟩ : ∃ f, f = p % 64 := ⟨_, rfl⟩
      rw [s1, ← hs, ← hf] at hpt
      have HPT := hide hpt
      have hsn : s < nS := by omega
      have hmq : m ≤ q := by omega
      have hqc : q ≤ c := by omega
      have hcb : c ≤ 9223372036854775807 := by omega
      have hpb : p ≤ 39680 := by omega
      have hfm : f + m ≤ 64 := by rw [hf]; exact s4
      have hPs := patS_size FF p0 t s
      have hPb : ∀ j, j < 64 → bF (patS FF p0 t s) j = if f ≤ j ∧ j < f + m then bF t (d + (j - f)) else bF (FF s) j := fun j hj => by
        have h := patS_at FF p0 n k m t hts (by rw [← hd]; exact hlt) (by rw [hm, hq, hp2, hd]) j hj
        rw [← hd, ← hp2, ← hf, ← hs] at h
        exact h
      have hex : wL (fun j => ((p0 / 64 + j : Nat) : Int)) (fun j => patS FF p0 t (p0 / 64 + j)) (k + 1) = wL (fun j => ((p0 / 64 + j : Nat) : Int)) (fun j => patS FF p0 t (p0 / 64 + j)) k ++ [.int .i64 (s : Int), .string (patS FF p0 t s)] := by rw [wL_snoc, ← hs]
      obtain ⟨P, hP⟩ : ∃ P, P = patS FF p0 t s := ⟨_, rfl⟩
      rw [← hP] at hPs hPb hex
      obtain ⟨ws, hws⟩ : ∃ ws, ws = wL (fun j => ((p0 / 64 + j : Nat) : Int)) (fun j => patS FF p0 t (p0 / 64 + j)) k := ⟨_, rfl⟩
      rw [← hws] at HO hex
      have hk1 : k ≤ 1000 := by omega
      obtain ⟨d2, hd2⟩ : ∃ d2, d2 = d + m := ⟨_, rfl⟩
      obtain ⟨p2, hp3⟩ : ∃ p2, p2 = p + m := ⟨_, rfl⟩
      have s7 : (p : Int) + (m : Int) = (p2 : Int) := by omega
      have hp2b : p2 ≤ 39680 := by omega
      have hsrc0 : wr.rangeAt g 0 (bL n (bF t)) ∧ g < wr.heap.size ∧ g ≠ wb := by
        rcases HRUN.out with h0 | ⟨_, h1, h2, h3⟩
        · omega
        · exact ⟨range_blk h3 (HG.out.block g h1 (by simp; omega)), Nat.lt_of_lt_of_le h1 HG.out.size, h2⟩
      have hsrc : wr.rangeAt g d (bL m fun i => bF t (d + i)) := range_part hsrc0.1 (by omega)
      have hgl := hsrc0.2.1
      have hwr := HG.out.size
      have HX := hide (And.intro hPs (And.intro hPb (And.intro hex (And.intro (HFF.out s hsn).1 (And.intro (HFF.out s hsn).2 hsrc)))))
      have HE := hide (show d2 = dN p0 n (k + 1) ∧ p2 = p0 + d2 ∧ q - m = n - d2 ∧ c - m = cap - d2 ∧ (d2 < n ↔ m < q) ∧ 0 < n ∧ 64 * (p0 / 64 + (k + 1 - 1)) < p0 + n ∧ d + m = d2 from ⟨by rw [hd2]; exact s2, by omega, by omega, by omega, by omega, by omega, by simpa using s3, hd2.symm⟩)
      have HV2 := hide (show vwI wr wb (.agg #[.slice sa nS sk, .map (some mb)]) nS S nC M from HV.out.below ⟨HG.out.os, HG.out.tape, HG.out.output, HG.out.size, fun x hx => HG.out.block x (by omega) (by simp; omega)⟩)
      clear hpt hd hp2 hq hc hm s1 s2 s3 s4 s6 hs hf hPs hPb hex hP hws hd2 hp3 hsrc0 hsrc hrb hk
      go_wp2_with fail
      refine HPT.out.mono ?_
      rintro e w1 ⟨rfl, hb1⟩
      have hz1 := hb1.size
      have al0 : Below w1.heap.size w1 (w1.alloc (.cells #[.int .i64 (s : Int), .int .i64 (f : Int), .slice (some ⟨g, d, none⟩) m c] 93)) := (Below.refl _ _).alloc (Nat.le_refl _) _
      have al1 := heap_alloc_new w1 (.cells #[.int .i64 (s : Int), .int .i64 (f : Int), .slice (some ⟨g, d, none⟩) m c] 93)
      have al2 : w1.heap.size < (w1.alloc (.cells #[.int .i64 (s : Int), .int .i64 (f : Int), .slice (some ⟨g, d, none⟩) m c] 93)).heap.size := by simp
      have AL := hide (And.intro al0 al1)
      clear al0 al1
      go_wp2_with fail
      generalize w1.alloc (.cells #[.int .i64 (s : Int), .int .i64 (f : Int), .slice (some ⟨g, d, none⟩) m c] 93) = w2 at *
      have hb2 := hb1.trans (AL.out.1.mono hz1)
      have hz2 := hb2.size
      refine (imp_patch w.heap.size k wb wb g d m c s f nS sk nC mb sa wa wcp S M (FF s) w2 hn hsn HX.out.2.2.2.1 HX.out.2.2.2.2.1 s5 hfm (by omega) ((HV2.out.below (hb2.mono (by omega)))) ((hb2.block wb (by omega)).trans HB.out) (fun i => bF t (d + i)) P (by omega) (range_blk HX.out.2.2.2.2.2 (hb2.block g hgl)) HX.out.1 HX.out.2.1 ws hk1 (own_of_block HO.out (fun x hx => hb2.block x (HO.out.lt x hx).2)) hwbl (by omega)).mono ?_
      rintro e w3 ⟨rfl, a9, c9, ho3, hw3, hf3⟩
      have hpb3 := (hf3.block w1.heap.size al2 (by omega) (fun e => by have := (HO.out.lt w1.heap.size e.symm).2; omega)).trans AL.out.2
      have y2 : w3.cell? ⟨w1.heap.size, 2, none⟩ = some (.slice (some ⟨g, d, none⟩) m c) := by simp [World.cell?, hpb3]
      have R1 := hide (show w3.ownsRow w.heap.size 74 2 (.slice a9 (k + 1) c9) (k + 1) (wL (fun j => ((p0 / 64 + j : Nat) : Int)) (fun j => patS FF p0 t (p0 / 64 + j)) (k + 1)) by rw [HX.out.2.2.1]; exact ho3)
      have R2 := hide hw3
      have R3 := hide (show w.grownBy w3 (some wb) from ⟨hf3.os.trans (hb2.os.trans HG.out.os), hf3.tape.trans (hb2.tape.trans HG.out.tape), hf3.output.trans (hb2.output.trans HG.out.output), by have := hf3.size; omega, fun x h1 h2 => (hf3.block x (by omega) (fun e => h2 (by rw [e])) (fun e => by have := (HO.out.lt x e.symm).1; omega)).trans ((hb2.block x (by omega)).trans (HG.out.block x h1 h2))⟩)
      clear ho3 hw3 hf3 hpb3 hb1 hb2 AL HO HB HG HV2 HX
      go_wp2_with fail
      go_roundw
      case rel =>
        obtain ⟨x1, x2, x3, x4, x5, x6, x7, x8⟩ := HE.out
        exact ⟨k + 1, d2, a9, c9, _, x1, .inr ⟨x6, x7⟩, by rw [x2], by rw [x3, x4], fun h => by rw [if_neg (by have := x5.1 h; omega), x8], R1, R2, R3⟩
      case measure => simp; omega
    · have e1 : decide ((0 : Int) < (q : Int)) = false := decide_eq_false (by omega)
      have hdn2 : d = n := by omega
      have hkk := dN_end p0 n k (by rw [← hd]; exact hdn2) hk
      have HKK := hide hkk
      have hq0 : q = 0 := by omega
      clear hd hk hp2 hq hc hkk hrb hdn2
      go_wp2_with fail
      exact bodyPost_end (v := .tuple #[]) (by simp [results, Try.results38]) rfl ⟨rfl, wa, wcp, by rw [← HKK.out]; exact HO.out, by rw [← HKK.out]; exact HB.out, HG.out⟩
end Go.Proofs.Ytipeelkmmjgehaa
