/- '[]byte(text)': what it lays; a text copied into it. No program is named here. -/
import Derived.Test.YtipeelkmmjgehaaArr
namespace Go.Proofs.Ytipeelkmmjgehaa
open Go Go.RowKit
theorem text_row {P : Program} (w : World) (src dst e : TypeId) (t : ByteArray) (n : Nat) (hn : t.size = n) (hb : n ≤ 1048576) (hs : P.underlying src = some .string) (hd : P.underlying dst = some (.slice e)) (he : P.underlying e = some (.int .u8)) :
    ∃ cap w', (convert src dst (.string t)).run P w = .ok (.slice (some ⟨w.heap.size, 0, none⟩) n cap) w' ∧ n ≤ cap ∧ cap ≤ maxLen ∧ w'.heap.size = w.heap.size + 1 ∧ Below w.heap.size w w' ∧ rowC w' w.heap.size n (bF t) := by
  subst hn
  have hcap := grownCap_ge w t.size 0 e
  have hrow := hasRow.of_text w.drew w.heap.size e (grownCap w t.size 0 e) t hcap (Nat.le_refl _)
  exact ⟨_, _, run_bytes_of_string w src dst e t hs hd he, hcap, grownCap_le_maxLen w t.size 0 e (by unfold maxLen; omega), World.size_alloc _ _, (Below.refl w.heap.size w).drew.alloc (Nat.le_refl _) _, rowC.of_text hrow (bF_at t t.size rfl)⟩
theorem rowC.range {w : World} {g n : Nat} {f : Nat → UInt8} (h : rowC w g n f) : w.rangeAt g 0 (bL n f) := fun j v hj => by
  obtain ⟨hj2, rfl⟩ := bL_get hj
  rw [Nat.zero_add]
  exact (h.2 j hj2).1
theorem rowC.there {w : World} {g n o m : Nat} {f : Nat → UInt8} (h : rowC w g n f) (hm : o + m ≤ n) : w.there g o m := fun j hj => ⟨by rw [(h.2 (o + j) (by omega)).1]; rfl, (h.2 (o + j) (by omega)).2⟩
/-- What lies there behind a copy, byte by byte. -/
theorem rowC.copied {w : World} {g n o m : Nat} {f k : Nat → UInt8} (h : rowC w g n f) (hm : o + m ≤ n) (j : Nat) (hj : j < n) :
    (w.setCells g o (bL m k)).cell? ⟨g, j, none⟩ = some (.int .u8 (((if o ≤ j ∧ j < o + m then k (j - o) else f j).toNat : Nat) : Int)) := by
  by_cases c : o ≤ j ∧ j < o + m
  · rw [if_pos c]
    have h1 := World.rangeAt_setCells_same w g o (bL m k) (by rw [bL_len]; exact h.there hm) (j - o) (u8V k (j - o)) (bL_at m k (j - o) (by omega))
    rwa [show o + (j - o) = j by omega] at h1
  · rw [if_neg c]
    have h1 := World.rangeAt_setCells_apart (w := w) (b' := g) (o' := j) (cs := [.int .u8 ((f j).toNat : Int)]) (fun i v hi => by
      match i, hi with
      | 0, hi => simp at hi; subst hi; exact (h.2 j hj).1) g o (bL m k) (.inr (by rw [bL_len]; simp; omega)) 0 _ rfl
    exact h1
end Go.Proofs.Ytipeelkmmjgehaa
