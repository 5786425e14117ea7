/- The walk over the draw l08Disk (written by mkdraw8.py). -/
import Derived.Test.YtipeelkmmjgehabDskP
import Derived.Test.YtipeelkmmjgehabSrcN
import Derived.Test.YtipeelkmmjgehabSrcB
import Derived.Test.YtipeelkmmjgehabHeldCall
import Derived.Test.YtipeelkmmjgehabTill
import Derived.Deep.CutRange
import Derived.Deep.DeepCutAuto
namespace Go.Proofs.Ytipeelkmmjgehab
open Go Go.RowKit
/-- A block that is none of the state's. -/
def bFar (b : Nat) (w : World) (Z : Nat) (sv cv : Value) : Prop := w.heap.size < b ∧ b ≠ Z ∧ (∀ k, sv.ownBlock = some k → k ≠ b) ∧ ∀ k, cv.ownBlock = some k → k ≠ b
/-- Where the state's blocks lie. -/
structure DkLt (w : World) (sz Z : Nat) (sv cv : Value) : Prop where
  z : w.heap.size < Z
  zs : Z < sz
  s : ∀ k, sv.ownBlock = some k → k < sz
  c : ∀ k, cv.ownBlock = some k → k < sz
theorem DkLt.far {w : World} {sz Z b : Nat} {sv cv : Value} (h : DkLt w sz Z sv cv) (hb : b = sz) (_ : Z < sz) : bFar b w Z sv cv :=
  ⟨by have := h.z; have := h.zs; omega, by have := h.zs; omega, fun k hk => by have := h.s k hk; omega, fun k hk => by have := h.c k hk; omega⟩
/-- The draw under way: the disk drawn so far is #[sv, cv], in block Z. -/
structure DkSt (w : World) (g Z B : Nat) (a : Option Addr) (len cap : Nat) (wx : World) (sv cv : Value) (nS : Nat) (S : Nat → ByteArray) (nC : Nat) (A : Nat → Int) (X : Nat → ByteArray) : Prop where
  src : Src 88 B wx g a len cap
  z : wx.heap[Z]? = some (.cells #[sv, cv] 26)
  r : wx.heap[w.heap.size]? = some (.cells #[.slice none 0 0, .slice none 0 0] 26)
  o1 : wx.ownsRow (w.heap.size + 1) 9 1 sv nS (sL S nS)
  o2 : wx.ownsRow (w.heap.size + 1) 70 2 cv nC (wL A X nC)
  ap : apartV sv cv
  n1 : ∀ k, sv.ownBlock = some k → k ≠ Z
  n2 : ∀ k, cv.ownBlock = some k → k ≠ Z
  gr : w.grownBy wx (some g)
  zl : w.heap.size < Z
  gl : g < w.heap.size
  bl : B ≤ w.heap.size
section
variable {w : World} {g Z B : Nat} {a : Option Addr} {len cap : Nat} {wx wy : World} {sv cv : Value} {nS : Nat} {S : Nat → ByteArray} {nC : Nat} {A : Nat → Int} {X : Nat → ByteArray}
theorem DkSt.zs (h : DkSt w g Z B a len cap wx sv cv nS S nC A X) : Z < wx.heap.size := (Array.getElem?_eq_some_iff.1 h.z).1
theorem DkSt.lts (h : DkSt w g Z B a len cap wx sv cv nS S nC A X) : DkLt w wx.heap.size Z sv cv := ⟨h.zl, h.zs, fun k hk => (h.o1.lt k hk).2, fun k hk => (h.o2.lt k hk).2⟩
theorem DkSt.lt1 (h : DkSt w g Z B a len cap wx sv cv nS S nC A X) : w.heap.size + 1 ≤ wx.heap.size := by have := h.zl; have := h.zs; omega
theorem DkSt.step (h : DkSt w g Z B a len cap wx sv cv nS S nC A X) (hs : Src 88 B wy g a len cap) (hg : wx.grownBy wy (some g)) : DkSt w g Z B a len cap wy sv cv nS S nC A X := by
  have hl := h.gl
  have hz := h.zl
  have q : ∀ b, w.heap.size ≤ b → b < wx.heap.size → wy.heap[b]? = wx.heap[b]? := fun b h1 h2 => hg.block b h2 (by simp; omega)
  exact ⟨hs, (q Z (by omega) h.zs).trans h.z, (q _ (Nat.le_refl _) (by have := h.zs; omega)).trans h.r, own_of_block h.o1 (fun b hb => q b (by have := (h.o1.lt b hb).1; omega) (h.o1.lt b hb).2), own_of_block h.o2 (fun b hb => q b (by have := (h.o2.lt b hb).1; omega) (h.o2.lt b hb).2), h.ap, h.n1, h.n2, grownBy_trans h.gr hg, h.zl, h.gl, h.bl⟩
theorem DkSt.below (h : DkSt w g Z B a len cap wx sv cv nS S nC A X) (hb : Below wx.heap.size wx wy) : DkSt w g Z B a len cap wy sv cv nS S nC A X :=
  ⟨h.src.kept (below_grownBy hb) (fun k hk => by cases hk) (by have := h.gr.size; have := h.bl; omega), (hb.block Z h.zs).trans h.z, (hb.block _ (by have := h.zl; have := h.zs; omega)).trans h.r, own_of_block h.o1 (fun b k => hb.block b (h.o1.lt b k).2), own_of_block h.o2 (fun b k => hb.block b (h.o2.lt b k).2), h.ap, h.n1, h.n2, grownBy_none h.gr (below_grownBy hb), h.zl, h.gl, h.bl⟩
theorem DkSt.far (h : DkSt w g Z B a len cap wx sv cv nS S nC A X) (b : Nat) (hs : wy.heap.size = wx.heap.size ∧ wy.os = wx.os ∧ wy.tape = wx.tape ∧ wy.output = wx.output) (hb : ∀ k, k ≠ b → wy.heap[k]? = wx.heap[k]?) (hf : bFar b w Z sv cv) : DkSt w g Z B a len cap wy sv cv nS S nC A X := by
  obtain ⟨f1, f2, f3, f4⟩ := hf
  have hl := h.gl
  have hw : w.grownBy wy (some g) := ⟨hs.2.1.trans h.gr.os, hs.2.2.1.trans h.gr.tape, hs.2.2.2.trans h.gr.output, by rw [hs.1]; exact h.gr.size, fun i hi hne => (hb i (by omega)).trans (h.gr.block i hi hne)⟩
  have hsrc : Src 88 B wy g a len cap := h.src.kept (r := some b) ⟨hs.2.1, hs.2.2.1, hs.2.2.2, by rw [hs.1]; exact Nat.le_refl _, fun i _ hne => hb i (fun e => hne (by rw [e]))⟩ (fun k hk => by cases hk; exact ⟨by have := h.bl; omega, by omega⟩) (by have := h.gr.size; have := h.bl; omega)
  exact ⟨hsrc, (hb Z (Ne.symm f2)).trans h.z, (hb _ (by omega)).trans h.r, own_of_block h.o1 (fun k hk => hb k (f3 k hk)), own_of_block h.o2 (fun k hk => hb k (f4 k hk)), h.ap, h.n1, h.n2, hw, h.zl, h.gl, h.bl⟩
theorem own_dsk {lo : Nat} (h1 : wx.ownsRow lo 9 1 sv nS (sL S nS)) (h2 : wx.ownsRow lo 70 2 cv nC (wL A X nC)) : dskI wx wx.heap.size (.agg #[sv, cv]) nS S nC A X :=
  ⟨sv, cv, rfl, (own_val1 h1).strI, (own_val2 h2).sli.congr (fun j _ i hi => by show cWr A X ((2 * j + i) / 2) ((2 * j + i) % 2) = _; rw [show (2 * j + i) / 2 = j by omega, show (2 * j + i) % 2 = i by omega])⟩
theorem DkSt.dsk (h : DkSt w g Z B a len cap wx sv cv nS S nC A X) : dskI wx wx.heap.size (.agg #[sv, cv]) nS S nC A X := own_dsk h.o1 h.o2
theorem DkSt.draw (h : DkSt w g Z B a len cap wx sv cv nS S nC A X) : DkSt w g Z B a len cap wx.drew sv cv nS S nC A X := h.below (Below.refl _ _).drew
/-- Another disk is laid into Z. -/
theorem DkSt.lay {sv2 cv2 : Value} {nS2 : Nat} {S2 : Nat → ByteArray} {nC2 : Nat} {A2 : Nat → Int} {X2 : Nat → ByteArray} (h : DkSt w g Z B a len cap wx sv cv nS S nC A X)
    (o1 : wx.ownsRow (w.heap.size + 1) 9 1 sv2 nS2 (sL S2 nS2)) (o2 : wx.ownsRow (w.heap.size + 1) 70 2 cv2 nC2 (wL A2 X2 nC2)) (ap : apartV sv2 cv2) (n1 : ∀ k, sv2.ownBlock = some k → k ≠ Z) (n2 : ∀ k, cv2.ownBlock = some k → k ≠ Z) :
    DkSt w g Z B a len cap ((wx.setCell ⟨Z, 0, none⟩ sv2).setCell ⟨Z, 1, none⟩ cv2) sv2 cv2 nS2 S2 nC2 A2 X2 := by
  have q : ∀ k, k ≠ Z → ((wx.setCell ⟨Z, 0, none⟩ sv2).setCell ⟨Z, 1, none⟩ cv2).heap[k]? = wx.heap[k]? := fun k hk => (set1_o _ _ _ _ _ hk).trans (set1_o _ _ _ _ _ hk)
  have hs : ((wx.setCell ⟨Z, 0, none⟩ sv2).setCell ⟨Z, 1, none⟩ cv2).heap.size = wx.heap.size := by simp [World.setCell]
  have hz := h.zl
  have hl := h.gl
  have hw : w.grownBy ((wx.setCell ⟨Z, 0, none⟩ sv2).setCell ⟨Z, 1, none⟩ cv2) (some g) := ⟨h.gr.os, h.gr.tape, h.gr.output, by rw [hs]; exact h.gr.size, fun i hi hne => (q i (by omega)).trans (h.gr.block i hi hne)⟩
  have hsrc : Src 88 B ((wx.setCell ⟨Z, 0, none⟩ sv2).setCell ⟨Z, 1, none⟩ cv2) g a len cap := h.src.kept (r := some Z) ⟨rfl, rfl, rfl, by rw [hs]; exact Nat.le_refl _, fun i _ hne => q i (fun e => hne (by rw [e]))⟩ (fun k hk => by cases hk; exact ⟨by have := h.bl; omega, by omega⟩) (by have := h.gr.size; have := h.bl; omega)
  exact ⟨hsrc, by have hh := h.z; simp [World.setCell, Array.getElem?_modify, hh], (q _ (by omega)).trans h.r, own_of_block o1 (fun k hk => q k (n1 k hk)), own_of_block o2 (fun k hk => q k (n2 k hk)), ap, n1, n2, hw, h.zl, h.gl, h.bl⟩
theorem set2_blk (w : World) (b : Nat) (x y u v : Value) (t : TypeId) (h : w.heap[b]? = some (.cells #[x, y] t)) : ((w.setCell ⟨b, 0, none⟩ u).setCell ⟨b, 1, none⟩ v).heap[b]? = some (.cells #[u, v] t) := by
  simp [World.setCell, Array.getElem?_modify, h]
/-- The result is laid. -/
theorem DkSt.endOf (h : DkSt w g Z B a len cap wx sv cv nS S nC A X) (x y : Value) :
    ((wx.setCell ⟨w.heap.size, 0, none⟩ x).setCell ⟨w.heap.size, 1, none⟩ y).ownsRow (w.heap.size + 1) 9 1 sv nS (sL S nS) ∧ ((wx.setCell ⟨w.heap.size, 0, none⟩ x).setCell ⟨w.heap.size, 1, none⟩ y).ownsRow (w.heap.size + 1) 70 2 cv nC (wL A X nC) ∧
    Src 88 B ((wx.setCell ⟨w.heap.size, 0, none⟩ x).setCell ⟨w.heap.size, 1, none⟩ y) g a len cap ∧ w.grownBy ((wx.setCell ⟨w.heap.size, 0, none⟩ x).setCell ⟨w.heap.size, 1, none⟩ y) (some g) := by
  have hl := h.gl
  have q : ∀ k, k ≠ w.heap.size → ((wx.setCell ⟨w.heap.size, 0, none⟩ x).setCell ⟨w.heap.size, 1, none⟩ y).heap[k]? = wx.heap[k]? := fun k hk => (set1_o _ _ _ _ _ hk).trans (set1_o _ _ _ _ _ hk)
  have hs : ((wx.setCell ⟨w.heap.size, 0, none⟩ x).setCell ⟨w.heap.size, 1, none⟩ y).heap.size = wx.heap.size := by simp [World.setCell]
  exact ⟨own_of_block h.o1 (fun b hb => q b (by have := (h.o1.lt b hb).1; omega)), own_of_block h.o2 (fun b hb => q b (by have := (h.o2.lt b hb).1; omega)),
    h.src.kept (r := some w.heap.size) ⟨rfl, rfl, rfl, by rw [hs]; exact Nat.le_refl _, fun i _ hne => q i (fun e => hne (by rw [e]))⟩ (fun k hk => by cases hk; exact ⟨h.bl, by omega⟩) (by have := h.gr.size; have := h.bl; omega),
    ⟨h.gr.os, h.gr.tape, h.gr.output, by rw [hs]; exact h.gr.size, fun i hi hne => (q i (by omega)).trans (h.gr.block i hi hne)⟩⟩
/-- A row is appended to. -/
theorem DkSt.app1 {sv2 : Value} {nS2 : Nat} {S2 : Nat → ByteArray} (h : DkSt w g Z B a len cap wx sv cv nS S nC A X) (hg : wx.grownBy wy sv.ownBlock) (o7 : wy.ownsRow (w.heap.size + 1) 9 1 sv2 nS2 (sL S2 nS2)) (t7 : ∀ k, sv2.ownBlock = some k → sv.ownBlock = some k ∨ wx.heap.size ≤ k) :
    DkSt w g Z B a len cap (wy.setCell ⟨Z, 0, none⟩ sv2) sv2 cv nS2 S2 nC A X := by
  have hz := h.zl
  have hzs := h.zs
  have hl := h.gl
  have ne : ∀ b, b < w.heap.size + 1 ∨ b = Z → some b ≠ sv.ownBlock := fun b h1 e => by
    rcases h1 with h1 | h1
    · have := (h.o1.lt b e.symm).1; omega
    · exact h.n1 b e.symm h1
  have q : ∀ b, b < wx.heap.size → some b ≠ sv.ownBlock → wy.heap[b]? = wx.heap[b]? := fun b h1 h2 => hg.block b h1 h2
  have n1 : ∀ k, sv2.ownBlock = some k → k ≠ Z := fun k hk e => by
    rcases t7 k hk with h1 | h1
    · exact h.n1 k h1 e
    · omega
  have ap : apartV sv2 cv := fun k hk e => by
    rcases t7 k hk with h1 | h1
    · exact h.ap k h1 e
    · have := (h.o2.lt k e).2; omega
  have s1 : ∀ b, b ≠ Z → (wy.setCell ⟨Z, 0, none⟩ sv2).heap[b]? = wy.heap[b]? := fun b hb => set1_o _ _ _ _ _ hb
  have hss : (wy.setCell ⟨Z, 0, none⟩ sv2).heap.size = wy.heap.size := by simp [World.setCell]
  have hw : w.grownBy (wy.setCell ⟨Z, 0, none⟩ sv2) (some g) := ⟨hg.os.trans h.gr.os, hg.tape.trans h.gr.tape, hg.output.trans h.gr.output, by rw [hss]; exact Nat.le_trans h.gr.size hg.size, fun i hi hne => ((s1 i (by omega)).trans (q i (by omega) (ne i (.inl (by omega))))).trans (h.gr.block i hi hne)⟩
  have hsrc1 : Src 88 B wy g a len cap := h.src.kept hg (fun k hk => by have := (h.o1.lt k hk).1; exact ⟨by have := h.bl; omega, by omega⟩) (by have := h.gr.size; have := h.bl; omega)
  have hsrc : Src 88 B (wy.setCell ⟨Z, 0, none⟩ sv2) g a len cap := hsrc1.kept (r := some Z) ⟨rfl, rfl, rfl, by rw [hss]; exact Nat.le_refl _, fun i _ hne => s1 i (fun e => hne (by rw [e]))⟩ (fun k hk => by cases hk; exact ⟨by have := h.bl; omega, by omega⟩) (by have := h.gr.size; have := hg.size; have := h.bl; omega)
  have hz2 := (q Z hzs (ne Z (.inr rfl))).trans h.z
  exact ⟨hsrc, by simp [World.setCell, Array.getElem?_modify, hz2], ((s1 _ (by omega)).trans (q _ (by omega) (ne _ (.inl (by omega))))).trans h.r, own_of_block o7 (fun b hb => s1 b (n1 b hb)), own_of_block h.o2 (fun b hb => (s1 b (h.n2 b hb)).trans (q b (h.o2.lt b hb).2 (fun e => h.ap b e.symm hb))), ap, n1, h.n2, hw, h.zl, h.gl, h.bl⟩
theorem DkSt.app2 {cv2 : Value} {nC2 : Nat} {A2 : Nat → Int} {X2 : Nat → ByteArray} (h : DkSt w g Z B a len cap wx sv cv nS S nC A X) (hg : wx.grownBy wy cv.ownBlock) (o7 : wy.ownsRow (w.heap.size + 1) 70 2 cv2 nC2 (wL A2 X2 nC2)) (t7 : ∀ k, cv2.ownBlock = some k → cv.ownBlock = some k ∨ wx.heap.size ≤ k) :
    DkSt w g Z B a len cap (wy.setCell ⟨Z, 1, none⟩ cv2) sv cv2 nS S nC2 A2 X2 := by
  have hz := h.zl
  have hzs := h.zs
  have hl := h.gl
  have ne : ∀ b, b < w.heap.size + 1 ∨ b = Z → some b ≠ cv.ownBlock := fun b h1 e => by
    rcases h1 with h1 | h1
    · have := (h.o2.lt b e.symm).1; omega
    · exact h.n2 b e.symm h1
  have q : ∀ b, b < wx.heap.size → some b ≠ cv.ownBlock → wy.heap[b]? = wx.heap[b]? := fun b h1 h2 => hg.block b h1 h2
  have n2 : ∀ k, cv2.ownBlock = some k → k ≠ Z := fun k hk e => by
    rcases t7 k hk with h1 | h1
    · exact h.n2 k h1 e
    · omega
  have ap : apartV sv cv2 := fun k hk e => by
    rcases t7 k e with h1 | h1
    · exact h.ap k hk h1
    · have := (h.o1.lt k hk).2; omega
  have s1 : ∀ b, b ≠ Z → (wy.setCell ⟨Z, 1, none⟩ cv2).heap[b]? = wy.heap[b]? := fun b hb => set1_o _ _ _ _ _ hb
  have hss : (wy.setCell ⟨Z, 1, none⟩ cv2).heap.size = wy.heap.size := by simp [World.setCell]
  have hw : w.grownBy (wy.setCell ⟨Z, 1, none⟩ cv2) (some g) := ⟨hg.os.trans h.gr.os, hg.tape.trans h.gr.tape, hg.output.trans h.gr.output, by rw [hss]; exact Nat.le_trans h.gr.size hg.size, fun i hi hne => ((s1 i (by omega)).trans (q i (by omega) (ne i (.inl (by omega))))).trans (h.gr.block i hi hne)⟩
  have hsrc1 : Src 88 B wy g a len cap := h.src.kept hg (fun k hk => by have := (h.o2.lt k hk).1; exact ⟨by have := h.bl; omega, by omega⟩) (by have := h.gr.size; have := h.bl; omega)
  have hsrc : Src 88 B (wy.setCell ⟨Z, 1, none⟩ cv2) g a len cap := hsrc1.kept (r := some Z) ⟨rfl, rfl, rfl, by rw [hss]; exact Nat.le_refl _, fun i _ hne => s1 i (fun e => hne (by rw [e]))⟩ (fun k hk => by cases hk; exact ⟨by have := h.bl; omega, by omega⟩) (by have := h.gr.size; have := hg.size; have := h.bl; omega)
  have hz2 := (q Z hzs (ne Z (.inr rfl))).trans h.z
  exact ⟨hsrc, by simp [World.setCell, Array.getElem?_modify, hz2], ((s1 _ (by omega)).trans (q _ (by omega) (ne _ (.inl (by omega))))).trans h.r, own_of_block h.o1 (fun b hb => (s1 b (h.n1 b hb)).trans (q b (h.o1.lt b hb).2 (fun e => h.ap b hb e.symm))), own_of_block o7 (fun b hb => s1 b (n2 b hb)), ap, h.n1, n2, hw, h.zl, h.gl, h.bl⟩
theorem wrOut.below {lo : Nat} {c an : Int} {tx : ByteArray} (h : wrOut wx lo sv cv c nS S nC A X an tx) (hb : Below wx.heap.size wx wy) : wrOut wy lo sv cv c nS S nC A X an tx :=
  h.imp id (fun ⟨h1, h2, h3, h4, h5, h6⟩ => ⟨h1, h2, h3, own_of_block h4 (fun b k => hb.block b (h4.lt b k).2), own_of_block h5 (fun b k => hb.block b (h5.lt b k).2), h6⟩)
theorem wrOut.far {lo : Nat} {c an : Int} {tx : ByteArray} (h : wrOut wx lo sv cv c nS S nC A X an tx) (b : Nat) (hb : ∀ k, k ≠ b → wy.heap[k]? = wx.heap[k]?) (hf : (∀ k, sv.ownBlock = some k → k ≠ b) ∧ ∀ k, cv.ownBlock = some k → k ≠ b) : wrOut wy lo sv cv c nS S nC A X an tx :=
  h.imp id (fun ⟨h1, h2, h3, h4, h5, h6⟩ => ⟨h1, h2, h3, own_of_block h4 (fun k hk => hb k (hf.1 k hk)), own_of_block h5 (fun k hk => hb k (hf.2 k hk)), h6⟩)
theorem wrOut.low {lo lo2 : Nat} {c an : Int} {tx : ByteArray} (h : wrOut wx lo sv cv c nS S nC A X an tx) (hl : lo2 ≤ lo) : wrOut wx lo2 sv cv c nS S nC A X an tx :=
  h.imp id (fun ⟨h1, h2, h3, h4, h5, h6⟩ => ⟨h1, h2, h3, own_base h4 hl, own_base h5 hl, h6⟩)
theorem wrOut.lt {lo : Nat} {c an : Int} {tx : ByteArray} (h : wrOut wx lo sv cv c nS S nC A X an tx) : (∀ k, sv.ownBlock = some k → lo ≤ k ∧ k < wx.heap.size) ∧ ∀ k, cv.ownBlock = some k → lo ≤ k ∧ k < wx.heap.size := by
  rcases h with ⟨_, rfl, rfl⟩ | ⟨_, _, _, h4, h5, _⟩
  · exact ⟨fun k hk => (by cases hk), fun k hk => (by cases hk)⟩
  · exact ⟨h4.lt, h5.lt⟩
theorem wrOut.shape {lo : Nat} {c an : Int} {tx : ByteArray} (h : wrOut wx lo sv cv c nS S nC A X an tx) : (∃ x y z, sv = .slice x y z) ∧ ∃ x y z, cv = .slice x y z := by
  rcases h with ⟨_, rfl, rfl⟩ | ⟨_, _, _, h4, h5, _⟩
  · exact ⟨⟨_, _, _, rfl⟩, _, _, _, rfl⟩
  · obtain ⟨p, q, e1⟩ := own_slice h4
    obtain ⟨r, s, e2⟩ := own_slice h5
    exact ⟨⟨_, _, _, e1⟩, _, _, _, e2⟩
end
theorem sL_snocD (S : Nat → ByteArray) (k : Nat) : sL S (k + 1) = sL S k ++ [.string (S k)] := by simp [sL, List.range_succ, sC]
theorem store4 (wn : World) (b : Nat) (x y z u p q r s : Value) (t : TypeId) (h : wn.heap[b]? = some (.cells #[x, y, z, u] t)) :
    ((((wn.setCell ⟨b, 0, none⟩ p).setCell ⟨b, 1, none⟩ q).setCell ⟨b, 2, none⟩ r).setCell ⟨b, 3, none⟩ s).heap[b]? = some (.cells #[p, q, r, s] t) ∧
    (((((wn.setCell ⟨b, 0, none⟩ p).setCell ⟨b, 1, none⟩ q).setCell ⟨b, 2, none⟩ r).setCell ⟨b, 3, none⟩ s).heap.size = wn.heap.size ∧ ((((wn.setCell ⟨b, 0, none⟩ p).setCell ⟨b, 1, none⟩ q).setCell ⟨b, 2, none⟩ r).setCell ⟨b, 3, none⟩ s).os = wn.os ∧ ((((wn.setCell ⟨b, 0, none⟩ p).setCell ⟨b, 1, none⟩ q).setCell ⟨b, 2, none⟩ r).setCell ⟨b, 3, none⟩ s).tape = wn.tape ∧ ((((wn.setCell ⟨b, 0, none⟩ p).setCell ⟨b, 1, none⟩ q).setCell ⟨b, 2, none⟩ r).setCell ⟨b, 3, none⟩ s).output = wn.output) ∧
    ∀ k, k ≠ b → ((((wn.setCell ⟨b, 0, none⟩ p).setCell ⟨b, 1, none⟩ q).setCell ⟨b, 2, none⟩ r).setCell ⟨b, 3, none⟩ s).heap[k]? = wn.heap[k]? :=
  ⟨set4_blk wn b x y z u p q r s t h, ⟨by simp [World.setCell], rfl, rfl, rfl⟩, fun k hk => (set1_o _ _ _ _ _ hk).trans ((set1_o _ _ _ _ _ hk).trans ((set1_o _ _ _ _ _ hk).trans (set1_o _ _ _ _ _ hk)))⟩
theorem wr_ok {nS : Nat} {S : Nat → ByteArray} {nC : Nat} {A : Nat → Int} {X : Nat → ByteArray} {a : Int} {t : ByteArray} (h : dskOk nS S nC A X) (hr : 0 ≤ a ∧ a ≤ (nS : Int) - (manyW t : Int)) (hf : nC + manyW t ≤ 400) : dskOk nS S (nC + manyW t) (wrA A nC a) (wrX X nC t) :=
  ⟨h.1, hf, h.2.2.1, fun j hj => by
    unfold wrA wrX
    by_cases e : j < nC
    · rw [if_pos e, if_pos e]; exact h.2.2.2 j e
    · rw [if_neg e, if_neg e]
      refine ⟨by omega, by omega, ?_⟩
      show (((List.range 64).map (pieceF t (j - nC))).toArray).size = 64
      simp⟩
theorem conv_blank (w : World) : (convert 22 9 (.slice (some ⟨w.heap.size, 0, none⟩) 64 64)).run Try.prog (w.alloc (.cells (madeCells #[.int .u8 0] 64) 5)) = .ok (.string blankS) (w.alloc (.cells (madeCells #[.int .u8 0] 64) 5)) := by
  have h0 := World.ownsRow_lit (e := 5) (size := 1) (base := w.heap.size) w (madeCells #[.int .u8 0] 64) 64 (Nat.le_refl _) (by unfold maxLen; omega) (by rw [size_madeCells])
  rw [made_bytes] at h0
  have h1 : (w.alloc (.cells (madeCells #[.int .u8 0] 64) 5)).ownsRow w.heap.size 5 1 (.slice (some ⟨w.heap.size, 0, none⟩) 64 64) (List.replicate 64 (0 : UInt8)).length ((List.replicate 64 (0 : UInt8)).map byteV) := by rw [List.length_replicate]; exact h0
  exact own_conv (P := Try.prog) h1 Try.underlying22 Try.underlying5 Try.underlying9
/-- The texts of a drawn disk are short. -/
def dkSmall (nS : Nat) (S : Nat → ByteArray) (nC : Nat) (X : Nat → ByteArray) : Prop := (∀ j, j < nS → (S j).size ≤ 64) ∧ ∀ j, j < nC → (X j).size ≤ 64
theorem small_of_ok {nS : Nat} {S : Nat → ByteArray} {nC : Nat} {A : Nat → Int} {X : Nat → ByteArray} (h : dskOk nS S nC A X) : dkSmall nS S nC X := ⟨fun j hj => by rw [h.2.2.1 j hj]; omega, fun j hj => by rw [(h.2.2.2 j hj).2.2]; omega⟩
def cacheLen (w : World) (Z : Nat) : Nat := match w.heap[Z]? with
  | some (.cells c _ _) => match c[1]? with
    | some (Value.slice _ n _) => n
    | _ => 0
  | _ => 0
theorem cacheLen_at {w : World} {Z : Nat} {u : Value} {a : Option Addr} {n c : Nat} {ty : TypeId} {z : Nat × Nat} (h : w.heap[Z]? = some (.cells #[u, .slice a n c] ty z)) : cacheLen w Z = n := by
  unfold cacheLen
  rw [h]
  rfl
theorem own_first {w : World} {base e size n : Nat} {a : Option Addr} {c : Nat} {xs : List Value} (h : w.ownsRow base e size (.slice a n c) n xs) (hn : 0 < n) : ∃ b, a = some ⟨b, 0, none⟩ := by
  rcases h.2 with ⟨h1, h2⟩ | ⟨g, c', _, h1, _⟩
  · omega
  · cases h1; exact ⟨g, rfl⟩
theorem own_cell0 {w : World} {base e b n c : Nat} {S : Nat → ByteArray} (h : w.ownsRow base e 1 (.slice (some ⟨b, 0, none⟩) n c) n (sL S n)) (hn : 0 < n) : w.cell? ⟨b, 0, none⟩ = some (.string (S 0)) := by
  rw [h.cellAt 0 (by omega), sL_at S n 0 (by omega)]
  rfl
theorem cell_same {w w' : World} {b : Nat} (h : w'.heap[b]? = w.heap[b]?) (j : Nat) : w'.cell? ⟨b, j, none⟩ = w.cell? ⟨b, j, none⟩ := by simp only [World.cell?, h]
theorem sL_upd (S : Nat → ByteArray) (n : Nat) (x : ByteArray) : sL (fun j => if j = n then x else S j) (n + 1) = sL S n ++ [.string x] := by
  rw [sL_snocD]
  have e : sL (fun j => if j = n then x else S j) n = sL S n := by
    unfold sL
    apply List.map_congr_left
    intro j hj
    have := List.mem_range.1 hj
    show Value.string (if j = n then x else S j) = .string (S j)
    rw [if_neg (by omega)]
  rw [e, if_pos rfl]
theorem wL_upd (A : Nat → Int) (X : Nat → ByteArray) (n : Nat) (y : Int) (x : ByteArray) : wL (fun j => if j = n then y else A j) (fun j => if j = n then x else X j) (n + 1) = wL A X n ++ [.int .i64 y, .string x] := by
  rw [wL_snoc]
  have e : wL (fun j => if j = n then y else A j) (fun j => if j = n then x else X j) n = wL A X n := by
    unfold wL
    apply List.map_congr_left
    intro j hj
    have hj2 : j / 2 < n := by have := List.mem_range.1 hj; omega
    unfold wF cWr
    simp only [if_neg (show ¬ (j / 2 = n) by omega)]
  rw [e, if_pos rfl, if_pos rfl]
theorem fl_ok {nS : Nat} {S : Nat → ByteArray} {nC : Nat} {A : Nat → Int} {X : Nat → ByteArray} (h : dskOk nS S nC A X) : dskOk nS (flS S A X (fun _ => true) nC) 0 A X :=
  ⟨h.1, Nat.zero_le _, flS_size S A X _ nS h.2.2.1 nC (fun j hj => (h.2.2.2 j hj).2.2), fun j hj => by omega⟩
set_option maxRecDepth 100000 in
set_option maxHeartbeats 3200000 in
theorem src_disk (B : Nat) (w : World) (g : Nat) (a : Option Addr) (len cap : Nat) (hs : Src 88 B w g a len cap) (hB : B ≤ w.heap.size) :
    Calls Try.prog 33 #[.pointer (some ⟨g, 0, none⟩)] w fun e w' => ∃ sv cv nS S nC A X, e = .returned (.agg #[sv, cv]) ∧ w'.ownsRow (w.heap.size + 1) 9 1 sv nS (sL S nS) ∧ w'.ownsRow (w.heap.size + 1) 70 2 cv nC (wL A X nC) ∧ apartV sv cv ∧ nS ≤ 6 ∧ nC ≤ 402 ∧ dkSmall nS S nC X ∧ Src 88 B w' g a len cap ∧ w.grownBy w' (some g) := by
  obtain ⟨is, his, hzs0, hzs1, hzs2⟩ := info_parts Try.infoStr
  obtain ⟨iw, hiw, hzw0, hzw1, hzw2⟩ := info_parts Try.infoWr
  have hgl := hs.lt
  have HS := hide hs
  clear hs
  have al0 : Below w.heap.size w (w.alloc (.cells #[.slice none 0 0, .slice none 0 0] 26)) := (Below.refl _ _).alloc (Nat.le_refl _) _
  have al1 := heap_alloc_new w (.cells #[.slice none 0 0, .slice none 0 0] 26)
  have HA := hide (And.intro al0 al1)
  have HSA := hide (HS.out.kept (grownBy_alloc (World.grownBy.refl w none) (.cells #[.slice none 0 0, .slice none 0 0] 26)) (fun k hk => by cases hk) hB)
  have al2 : w.heap.size < (w.alloc (.cells #[.slice none 0 0, .slice none 0 0] 26)).heap.size := by simp
  clear al0 al1
  go_enter Try.func33, Try.ntmps33
  go_wp2_with fail
  generalize w.alloc (.cells #[.slice none 0 0, .slice none 0 0] 26) = W0 at *
  refine (src_n B W0 g a len cap 6 (by omega) HSA.out).mono ?_
  rintro e w1 ⟨x, rfl, x0, x1, hs1, hg1⟩
  have H1 := hide (And.intro hs1 (And.intro (grownBy_trans (grownBy_none (World.grownBy.refl w (some g)) (below_grownBy HA.out.1)) hg1) ((hg1.block w.heap.size al2 (by simp; omega)).trans HA.out.2)))
  have z1 : w.heap.size < w1.heap.size := Nat.lt_of_lt_of_le al2 hg1.size
  clear hs1 hg1
  go_wp2_with fail
  refine (spec_diskNewO x w1).mono ?_
  rintro e w2 ⟨sv, rfl, hd, hb2⟩
  obtain ⟨sa, sk, e1⟩ := own_slice hd
  subst e1
  have hnx : newN x ≤ 5 := by unfold newN; split <;> omega
  generalize newN x = nS0 at *
  have z2 := hb2.size
  have HD := hide hd
  have H2 := hide (And.intro (H1.out.1.kept (below_grownBy hb2) (fun k hk => by cases hk) (by omega)) (And.intro (grownBy_none H1.out.2.1 (below_grownBy hb2)) ((hb2.block w.heap.size z1).trans H1.out.2.2)))
  clear hd hb2 H1
  have y0 : Below w2.heap.size w2 (w2.alloc (.cells #[.slice sa nS0 sk, .slice none 0 0] 26)) := (Below.refl _ _).alloc (Nat.le_refl _) _
  have y1 := heap_alloc_new w2 (.cells #[.slice sa nS0 sk, .slice none 0 0] 26)
  have ST0 := hide (show DkSt w g w2.heap.size B a len cap (w2.alloc (.cells #[.slice sa nS0 sk, .slice none 0 0] 26)) (.slice sa nS0 sk) (.slice none 0 0) nS0 (fun _ => blankS) 0 (fun _ => 0) (fun _ => ⟨#[]⟩) from
    ⟨H2.out.1.kept (below_grownBy y0) (fun k hk => by cases hk) (by omega), y1, (y0.block _ (by omega)).trans H2.out.2.2, own_of_block (own_base HD.out (by omega)) (fun b hb => y0.block b (HD.out.lt b hb).2), World.ownsRow_nil _ _ _ _, (fun k _ e => by cases e), (fun k hk => by have := (HD.out.lt k hk).2; omega), (fun k hk => by cases hk), grownBy_none H2.out.2.1 (below_grownBy y0), by omega, hgl, hB⟩)
  have OK0 := hide (show dskOk nS0 (fun _ => blankS) 0 (fun _ => 0) (fun _ => ⟨#[]⟩) from ⟨by omega, by omega, fun j _ => by show (List.replicate 64 (0 : UInt8)).toArray.size = 64; simp, fun j hj => by omega⟩)
  clear y0 y1 H2 HD
  go_wp2_with fail
  generalize (w2.alloc (.cells #[.slice sa nS0 sk, .slice none 0 0] 26)) = W3 at *
  refine (src_n B W3 g a len cap 4 (by omega) ST0.out.src).mono ?_
  rintro e w3 ⟨y, rfl, y0, y1, hs3, hg3⟩
  have ST1 := hide (ST0.out.step hs3 hg3)
  clear hs3 hg3 ST0
  obtain ⟨Z, hZ⟩ : ∃ Z, Z = w2.heap.size := ⟨_, rfl⟩
  rw [← hZ] at ST1
  obtain ⟨y, rfl⟩ := Int.eq_ofNat_of_zero_le y0
  go_wp2_with fail
  rw [← hZ]
  clear hZ
  go_loopw [4] (fun i wx => ∃ (k nS : Nat) (S : Nat → ByteArray) (nC : Nat) (A : Nat → Int) (X : Nat → ByteArray) (sa ca : Option Addr) (sk ck : Nat), k ≤ 3 ∧ nS ≤ 5 ∧ i = .int .i64 k ∧ Hid (DkSt w g Z B a len cap wx (.slice sa nS sk) (.slice ca nC ck) nS S nC A X) ∧ Hid (dskOk nS S nC A X)) (fun i _ => (intOf i).toNat)
  case atStart => exact ⟨y, nS0, _, 0, _, _, sa, none, sk, 0, by omega, hnx, rfl, ST1, OK0⟩
  case round =>
    clear ST1 OK0
    obtain ⟨k, nS, S, nC, A, X, sa, ca, sk, ck, hk, hn5, rfl, ST, OK⟩ := hrel
    by_cases hlt : 0 < k
    · have hlt' : decide ((0 : Int) < (k : Int)) = true := decide_eq_true (by omega)
      have hltn : decide (0 < k) = true := decide_eq_true hlt
      go_wp2_with fail
      go_cut [5] from 11 to 31 (fun x wx => ∃ (b : Nat) (sv2 cv2 : Value) (c2 an : Int) (tx : ByteArray), x = .pointer (some ⟨b, 0, none⟩) ∧ Hid (wx.heap[b]? = some (.cells #[sv2, cv2, .string ⟨#[]⟩, .int .i64 c2] 30)) ∧ Hid (DkSt w g Z B a len cap wx (.slice sa nS sk) (.slice ca nC ck) nS S nC A X) ∧ Hid (wrOut wx (w.heap.size + 1) sv2 cv2 c2 nS S nC A X an tx ∧ tx.size ≤ 149) ∧ Hid ((∃ x y z, sv2 = .slice x y z) ∧ ∃ x y z, cv2 = .slice x y z) ∧ Hid ((∀ k, sv2.ownBlock = some k → k ≠ Z) ∧ ∀ k, cv2.ownBlock = some k → k ≠ Z) ∧ bFar b w Z (.slice sa nS sk) (.slice ca nC ck) ∧ (∀ k, sv2.ownBlock = some k → k ≠ b) ∧ ∀ k, cv2.ownBlock = some k → k ≠ b)
      case first =>
        refine wp_region_held_drew (S := (fun u => u.cell? ⟨Z, 0, none⟩ = some (.slice sa nS sk) ∧ u.cell? ⟨Z, 1, none⟩ = some (.slice ca nC ck))) (by kernel_rfl) (by have h := ST.out.draw.z; exact ⟨by simp [World.cell?, h], by simp [World.cell?, h]⟩) (fun hHeld => ?_)
        replace ST := hide ST.out.draw
        generalize wr.drew = Wd at *
        refine takeD (i := 0) (v := .agg #[.slice sa nS sk, .slice ca nC ck]) (some 15) rfl rfl (by kernel_rfl) (by kernel_rfl) (by kernel_rfl) (fun _ _ _ h => h) (Or.inl ⟨by rfl, fun w hSw => by obtain ⟨s0, s1⟩ := hSw; go_simp⟩) hHeld ?_
        simp only [Act.put, List.setIfInBounds_toArray, List.set_cons_zero, List.set_cons_succ]
        refine takeD (i := 1) (v := .pointer (some ⟨g, 0, none⟩)) (some 16) rfl rfl (by kernel_rfl) (by kernel_rfl) (by kernel_rfl) (fun _ _ _ h => h) (Or.inl ⟨by rfl, fun w hSw => by go_simp⟩) hHeld ?_
        simp only [Act.put, List.setIfInBounds_toArray, List.set_cons_zero, List.set_cons_succ]
        refine takeD (i := 3) (v := .pointer (some ⟨g, 0, none⟩)) (some 18) rfl rfl (by kernel_rfl) (by kernel_rfl) (by kernel_rfl) (fun _ _ _ h => h) (Or.inl ⟨by rfl, fun w hSw => by go_simp⟩) hHeld ?_
        simp only [Act.put, List.setIfInBounds_toArray, List.set_cons_zero, List.set_cons_succ]
        refine takeD (i := 4) (v := .pointer (some ⟨g, 0, none⟩)) (some 19) rfl rfl (by kernel_rfl) (by kernel_rfl) (by kernel_rfl) (fun _ _ _ h => h) (Or.inl ⟨by rfl, fun w hSw => by go_simp⟩) hHeld ?_
        simp only [Act.put, List.setIfInBounds_toArray, List.set_cons_zero, List.set_cons_succ]
        refine wpAnyH_ready (rs := [2, 8]) (by kernel_rfl) (by simp) ?_
        refine AllReadyH.cons rfl (fun KK hK => ?_) (AllReadyH.cons rfl (fun KK hK => ?_) AllReadyH.nil)
        · go_simp
          refine (src_n B _ g a len cap 5 (by omega) ST.out.src).mono ?_
          rintro e x1 ⟨an, rfl, an0, an1, hs9, hg9⟩
          replace ST := hide (ST.out.step hs9 hg9)
          clear hs9 hg9
          go_wp2_with fail
          refine hK.out _ _ (by have h := ST.out.z; exact ⟨by simp [World.cell?, h], by simp [World.cell?, h]⟩) (fun hHeld => ?_)
          clear hK KK
          refine wpAnyH_ready (rs := [5, 8]) (by kernel_rfl) (by simp) ?_
          refine AllReadyH.cons rfl (fun KK hK => ?_) (AllReadyH.cons rfl (fun KK hK => ?_) AllReadyH.nil)
          · go_simp
            refine (src_n B _ g a len cap 150 (by omega) ST.out.src).mono ?_
            rintro e x2 ⟨ln, rfl, ln0, ln1, hs9, hg9⟩
            obtain ⟨ln, rfl⟩ := Int.eq_ofNat_of_zero_le ln0
            have hln : ln ≤ 149 := by omega
            replace ST := hide (ST.out.step hs9 hg9)
            clear hs9 hg9
            go_wp2_with fail
            refine hK.out _ _ (by have h := ST.out.z; exact ⟨by simp [World.cell?, h], by simp [World.cell?, h]⟩) (fun hHeld => ?_)
            clear hK KK
            refine wpAnyH_ready (rs := [6, 8]) (by kernel_rfl) (by simp) ?_
            refine AllReadyH.cons rfl (fun KK hK => ?_) (AllReadyH.cons rfl (fun KK hK => ?_) AllReadyH.nil)
            · go_simp
              refine (src_bytes B _ g a len cap ln (by omega) ST.out.src).mono ?_
              rintro e x3 ⟨tx, rfl, htx, hs9, hg9⟩
              have TZ := hide (show tx.size ≤ 149 by omega)
              have htx2 : tx.size ≤ 20000 := by omega
              clear htx
              replace ST := hide (ST.out.step hs9 hg9)
              clear hs9 hg9
              go_wp2_with fail
              refine hK.out _ _ (by have h := ST.out.z; exact ⟨by simp [World.cell?, h], by simp [World.cell?, h]⟩) (fun hHeld => ?_)
              clear hK KK
              refine wpAnyH_ready (rs := [7, 8]) (by kernel_rfl) (by simp) ?_
              refine AllReadyH.cons rfl (fun KK hK => ?_) (AllReadyH.cons rfl (fun KK hK => ?_) AllReadyH.nil)
              · go_simp
                refine (spec_diskWriteO _ nS S nC A X an tx x3 OK.out htx2 ST.out.dsk).mono ?_
                rintro e x4 ⟨sv2, cv2, c2, rfl, hwo, hb9⟩
                have WB := hide (show (∀ k, sv2.ownBlock = some k → x3.heap.size ≤ k ∧ k < x4.heap.size) ∧ ∀ k, cv2.ownBlock = some k → x3.heap.size ≤ k ∧ k < x4.heap.size from hwo.lt)
                have WO := hide (show wrOut x4 (w.heap.size + 1) sv2 cv2 c2 nS S nC A X an tx ∧ (∃ x y z, sv2 = .slice x y z) ∧ ∃ x y z, cv2 = .slice x y z from ⟨hwo.low ST.out.lt1, hwo.shape⟩)
                have WZ := hide (show (∀ k, sv2.ownBlock = some k → k ≠ Z) ∧ ∀ k, cv2.ownBlock = some k → k ≠ Z from ⟨fun k hk => by have := WB.out.1 k hk; have := ST.out.zs; omega, fun k hk => by have := WB.out.2 k hk; have := ST.out.zs; omega⟩)
                replace ST := hide (ST.out.below hb9)
                clear hwo hb9
                go_wp2_with fail
                refine hK.out _ _ (by have h := ST.out.z; exact ⟨by simp [World.cell?, h], by simp [World.cell?, h]⟩) (fun hHeld => ?_)
                clear hK KK
                refine wpAnyH_ready (rs := [8]) (by kernel_rfl) (by simp) ?_
                refine AllReadyH.cons rfl (fun KK hK => ?_) AllReadyH.nil
                go_simp
                have hb0 := heap_alloc_new x4 (.cells #[.slice none 0 0, .slice none 0 0, .string ⟨#[]⟩, .int .i64 0] 30)
                have ST2 := ST.out.below ((Below.refl _ _).alloc (Nat.le_refl _) (.cells #[.slice none 0 0, .slice none 0 0, .string ⟨#[]⟩, .int .i64 0] 30))
                obtain ⟨b, hbe⟩ : ∃ b, b = x4.heap.size := ⟨_, rfl⟩
                have WO2 := hide (show wrOut (x4.alloc (.cells #[.slice none 0 0, .slice none 0 0, .string ⟨#[]⟩, .int .i64 0] 30)) (w.heap.size + 1) sv2 cv2 c2 nS S nC A X an tx ∧ _ from ⟨WO.out.1.below ((Below.refl _ _).alloc (Nat.le_refl _) (.cells #[.slice none 0 0, .slice none 0 0, .string ⟨#[]⟩, .int .i64 0] 30)), WO.out.2⟩)
                have hsz0 : x4.heap.size < (x4.alloc (.cells #[.slice none 0 0, .slice none 0 0, .string ⟨#[]⟩, .int .i64 0] 30)).heap.size := by simp
                have ZB := hide (And.intro (ST.out.lts) (World.block_lt_of_cell? x4 _ (by have h := ST.out.z; show x4.cell? ⟨Z, 0, none⟩ = some (.slice sa nS sk); simp [World.cell?, h])))
                rw [← hbe] at hb0 hsz0 ⊢
                generalize x4.alloc (.cells #[.slice none 0 0, .slice none 0 0, .string ⟨#[]⟩, .int .i64 0] 30) = x5 at *
                replace ST := hide ST2
                replace WO := WO2
                have AL := hide (show x5.heap[b]? = some (.cells #[.slice none 0 0, .slice none 0 0, .string ⟨#[]⟩, .int .i64 0] 30) ∧ bFar b w Z (.slice sa nS sk) (.slice ca nC ck) ∧ (∀ k, sv2.ownBlock = some k → k ≠ b) ∧ ∀ k, cv2.ownBlock = some k → k ≠ b from ⟨hb0, ZB.out.1.far hbe ZB.out.2, fun k hk => by have := WB.out.1 k hk; omega, fun k hk => by have := WB.out.2 k hk; omega⟩)
                clear hb0 ST2 ZB WO2
                refine hK.out _ _ (by have h := ST.out.z; exact ⟨by simp [World.cell?, h], by simp [World.cell?, h]⟩) (fun hHeld => ?_)
                clear hK KK hsz0 hbe
                refine wpAnyH_ready (rs := [9]) (by kernel_rfl) (by simp) ?_
                refine AllReadyH.cons rfl (fun KK hK => ?_) AllReadyH.nil
                have hb4 := AL.out.1
                have cb : x5.cell? ⟨b, 0, none⟩ = some (.slice none 0 0) ∧ x5.cell? ⟨b, 1, none⟩ = some (.slice none 0 0) ∧ x5.cell? ⟨b, 2, none⟩ = some (.string ⟨#[]⟩) ∧ x5.cell? ⟨b, 3, none⟩ = some (.int .i64 0) := ⟨by simp [World.cell?, hb4], by simp [World.cell?, hb4], by simp [World.cell?, hb4], by simp [World.cell?, hb4]⟩
                obtain ⟨cb0, cb1, cb2, cb3⟩ := cb
                have fb0 : x5.frozen? ⟨b, 0, none⟩ = false := by simp [World.frozen?, hb4]
                have fb1 : x5.frozen? ⟨b, 1, none⟩ = false := by simp [World.frozen?, hb4]
                have fb2 : x5.frozen? ⟨b, 2, none⟩ = false := by simp [World.frozen?, hb4]
                have fb3 : x5.frozen? ⟨b, 3, none⟩ = false := by simp [World.frozen?, hb4]
                have E9 := hide (store4 x5 b _ _ _ _ sv2 cv2 (.string ⟨#[]⟩) (.int .i64 c2) _ hb4)
                clear hb4
                obtain ⟨qa, qb, qc, eo1⟩ : ∃ x y z, sv2 = .slice x y z := WO.out.2.1
                obtain ⟨qd, qe, qf, eo2⟩ : ∃ x y z, cv2 = .slice x y z := WO.out.2.2
                subst eo1 eo2
                go_simp
                generalize ((((x5.setCell ⟨b, 0, none⟩ (.slice qa qb qc)).setCell ⟨b, 1, none⟩ (.slice qd qe qf)).setCell ⟨b, 2, none⟩ (.string ⟨#[]⟩)).setCell ⟨b, 3, none⟩ (.int .i64 c2)) = w9 at *
                obtain ⟨e9a, e9b, e9c⟩ := E9.out
                have ST9 := ST.out.far b e9b e9c AL.out.2.1
                refine hK.out _ _ (by have h := ST9.z; exact ⟨by simp [World.cell?, h], by simp [World.cell?, h]⟩) (fun hHeld => ?_)
                clear hK KK cb0 cb1 cb2 cb3 fb0 fb1 fb2 fb3
                refine wpAnyH_done (by kernel_rfl) ?_ _
                go_wp2_with fail
                go_meet
                case rel => exact ⟨b, .slice qa qb qc, .slice qd qe qf, c2, an, tx, rfl, hide e9a, hide ST9, hide ⟨WO.out.1.far b e9c AL.out.2.2, TZ.out⟩, hide ⟨WO.out.2.1, WO.out.2.2⟩, hide WZ.out, AL.out.2.1, AL.out.2.2⟩
              · go_simp
                have hb0 := heap_alloc_new x3 (.cells #[.slice none 0 0, .slice none 0 0, .string ⟨#[]⟩, .int .i64 0] 30)
                have ST2 := ST.out.below ((Below.refl _ _).alloc (Nat.le_refl _) (.cells #[.slice none 0 0, .slice none 0 0, .string ⟨#[]⟩, .int .i64 0] 30))
                obtain ⟨b, hbe⟩ : ∃ b, b = x3.heap.size := ⟨_, rfl⟩
                have hsz0 : x3.heap.size < (x3.alloc (.cells #[.slice none 0 0, .slice none 0 0, .string ⟨#[]⟩, .int .i64 0] 30)).heap.size := by simp
                have ZB := hide (And.intro (ST.out.lts) (World.block_lt_of_cell? x3 _ (by have h := ST.out.z; show x3.cell? ⟨Z, 0, none⟩ = some (.slice sa nS sk); simp [World.cell?, h])))
                rw [← hbe] at hb0 hsz0 ⊢
                generalize x3.alloc (.cells #[.slice none 0 0, .slice none 0 0, .string ⟨#[]⟩, .int .i64 0] 30) = x6 at *
                replace ST := hide ST2
                have AL0 := hide (show x6.heap[b]? = some (.cells #[.slice none 0 0, .slice none 0 0, .string ⟨#[]⟩, .int .i64 0] 30) ∧ bFar b w Z (.slice sa nS sk) (.slice ca nC ck) from ⟨hb0, ZB.out.1.far hbe ZB.out.2⟩)
                have hb8 : b < x6.heap.size := hsz0
                clear hb0 ST2 ZB
                refine hK.out _ _ (by have h := ST.out.z; exact ⟨by simp [World.cell?, h], by simp [World.cell?, h]⟩) (fun hHeld => ?_)
                clear hK KK hsz0 hbe
                refine wpAnyH_ready (rs := [7]) (by kernel_rfl) (by simp) ?_
                refine AllReadyH.cons rfl (fun KK hK => ?_) AllReadyH.nil
                go_simp
                refine (spec_diskWriteO _ nS S nC A X an tx x6 OK.out htx2 ST.out.dsk).mono ?_
                rintro e x7 ⟨sv2, cv2, c2, rfl, hwo, hb9⟩
                have WB := hide (show (∀ k, sv2.ownBlock = some k → x6.heap.size ≤ k ∧ k < x7.heap.size) ∧ ∀ k, cv2.ownBlock = some k → x6.heap.size ≤ k ∧ k < x7.heap.size from hwo.lt)
                have WO := hide (show wrOut x7 (w.heap.size + 1) sv2 cv2 c2 nS S nC A X an tx ∧ (∃ x y z, sv2 = .slice x y z) ∧ ∃ x y z, cv2 = .slice x y z from ⟨hwo.low ST.out.lt1, hwo.shape⟩)
                have WZ := hide (show (∀ k, sv2.ownBlock = some k → k ≠ Z) ∧ ∀ k, cv2.ownBlock = some k → k ≠ Z from ⟨fun k hk => by have := WB.out.1 k hk; have := ST.out.zs; omega, fun k hk => by have := WB.out.2 k hk; have := ST.out.zs; omega⟩)
                replace ST := hide (ST.out.below hb9)
                have AL := hide (show x7.heap[b]? = some (.cells #[.slice none 0 0, .slice none 0 0, .string ⟨#[]⟩, .int .i64 0] 30) ∧ bFar b w Z (.slice sa nS sk) (.slice ca nC ck) ∧ (∀ k, sv2.ownBlock = some k → k ≠ b) ∧ ∀ k, cv2.ownBlock = some k → k ≠ b from ⟨(hb9.block b hb8).trans AL0.out.1, AL0.out.2, fun k hk => by have := WB.out.1 k hk; omega, fun k hk => by have := WB.out.2 k hk; omega⟩)
                clear hwo hb9
                go_wp2_with fail
                refine hK.out _ _ (by have h := ST.out.z; exact ⟨by simp [World.cell?, h], by simp [World.cell?, h]⟩) (fun hHeld => ?_)
                clear hK KK
                refine wpAnyH_ready (rs := [9]) (by kernel_rfl) (by simp) ?_
                refine AllReadyH.cons rfl (fun KK hK => ?_) AllReadyH.nil
                have hb4 := AL.out.1
                have cb : x7.cell? ⟨b, 0, none⟩ = some (.slice none 0 0) ∧ x7.cell? ⟨b, 1, none⟩ = some (.slice none 0 0) ∧ x7.cell? ⟨b, 2, none⟩ = some (.string ⟨#[]⟩) ∧ x7.cell? ⟨b, 3, none⟩ = some (.int .i64 0) := ⟨by simp [World.cell?, hb4], by simp [World.cell?, hb4], by simp [World.cell?, hb4], by simp [World.cell?, hb4]⟩
                obtain ⟨cb0, cb1, cb2, cb3⟩ := cb
                have fb0 : x7.frozen? ⟨b, 0, none⟩ = false := by simp [World.frozen?, hb4]
                have fb1 : x7.frozen? ⟨b, 1, none⟩ = false := by simp [World.frozen?, hb4]
                have fb2 : x7.frozen? ⟨b, 2, none⟩ = false := by simp [World.frozen?, hb4]
                have fb3 : x7.frozen? ⟨b, 3, none⟩ = false := by simp [World.frozen?, hb4]
                have E9 := hide (store4 x7 b _ _ _ _ sv2 cv2 (.string ⟨#[]⟩) (.int .i64 c2) _ hb4)
                clear hb4
                obtain ⟨qa, qb, qc, eo1⟩ : ∃ x y z, sv2 = .slice x y z := WO.out.2.1
                obtain ⟨qd, qe, qf, eo2⟩ : ∃ x y z, cv2 = .slice x y z := WO.out.2.2
                subst eo1 eo2
                go_simp
                generalize ((((x7.setCell ⟨b, 0, none⟩ (.slice qa qb qc)).setCell ⟨b, 1, none⟩ (.slice qd qe qf)).setCell ⟨b, 2, none⟩ (.string ⟨#[]⟩)).setCell ⟨b, 3, none⟩ (.int .i64 c2)) = w9 at *
                obtain ⟨e9a, e9b, e9c⟩ := E9.out
                have ST9 := ST.out.far b e9b e9c AL.out.2.1
                refine hK.out _ _ (by have h := ST9.z; exact ⟨by simp [World.cell?, h], by simp [World.cell?, h]⟩) (fun hHeld => ?_)
                clear hK KK cb0 cb1 cb2 cb3 fb0 fb1 fb2 fb3
                refine wpAnyH_done (by kernel_rfl) ?_ _
                go_wp2_with fail
                go_meet
                case rel => exact ⟨b, .slice qa qb qc, .slice qd qe qf, c2, an, tx, rfl, hide e9a, hide ST9, hide ⟨WO.out.1.far b e9c AL.out.2.2, TZ.out⟩, hide ⟨WO.out.2.1, WO.out.2.2⟩, hide WZ.out, AL.out.2.1, AL.out.2.2⟩
            · go_simp
              have hb0 := heap_alloc_new x2 (.cells #[.slice none 0 0, .slice none 0 0, .string ⟨#[]⟩, .int .i64 0] 30)
              have ST2 := ST.out.below ((Below.refl _ _).alloc (Nat.le_refl _) (.cells #[.slice none 0 0, .slice none 0 0, .string ⟨#[]⟩, .int .i64 0] 30))
              obtain ⟨b, hbe⟩ : ∃ b, b = x2.heap.size := ⟨_, rfl⟩
              have hsz0 : x2.heap.size < (x2.alloc (.cells #[.slice none 0 0, .slice none 0 0, .string ⟨#[]⟩, .int .i64 0] 30)).heap.size := by simp
              have ZB := hide (And.intro (ST.out.lts) (World.block_lt_of_cell? x2 _ (by have h := ST.out.z; show x2.cell? ⟨Z, 0, none⟩ = some (.slice sa nS sk); simp [World.cell?, h])))
              rw [← hbe] at hb0 hsz0 ⊢
              generalize x2.alloc (.cells #[.slice none 0 0, .slice none 0 0, .string ⟨#[]⟩, .int .i64 0] 30) = x8 at *
              replace ST := hide ST2
              have AL0 := hide (show x8.heap[b]? = some (.cells #[.slice none 0 0, .slice none 0 0, .string ⟨#[]⟩, .int .i64 0] 30) ∧ bFar b w Z (.slice sa nS sk) (.slice ca nC ck) from ⟨hb0, ZB.out.1.far hbe ZB.out.2⟩)
              have hb8 : b < x8.heap.size := hsz0
              clear hb0 ST2 ZB
              refine hK.out _ _ (by have h := ST.out.z; exact ⟨by simp [World.cell?, h], by simp [World.cell?, h]⟩) (fun hHeld => ?_)
              clear hK KK hsz0 hbe
              refine wpAnyH_ready (rs := [6]) (by kernel_rfl) (by simp) ?_
              refine AllReadyH.cons rfl (fun KK hK => ?_) AllReadyH.nil
              go_simp
              refine (src_bytes B _ g a len cap ln (by omega) ST.out.src).mono ?_
              rintro e x9 ⟨tx, rfl, htx, hs9, hg9⟩
              have TZ := hide (show tx.size ≤ 149 by omega)
              have htx2 : tx.size ≤ 20000 := by omega
              clear htx
              replace ST := hide (ST.out.step hs9 hg9)
              replace AL0 := hide (And.intro ((hg9.block b hb8 (by have := AL0.out.2.1; simp; omega)).trans AL0.out.1) AL0.out.2)
              replace hb8 : b < x9.heap.size := Nat.lt_of_lt_of_le hb8 hg9.size
              clear hs9 hg9
              go_wp2_with fail
              refine hK.out _ _ (by have h := ST.out.z; exact ⟨by simp [World.cell?, h], by simp [World.cell?, h]⟩) (fun hHeld => ?_)
              clear hK KK
              refine wpAnyH_ready (rs := [7]) (by kernel_rfl) (by simp) ?_
              refine AllReadyH.cons rfl (fun KK hK => ?_) AllReadyH.nil
              go_simp
              refine (spec_diskWriteO _ nS S nC A X an tx x9 OK.out htx2 ST.out.dsk).mono ?_
              rintro e x10 ⟨sv2, cv2, c2, rfl, hwo, hb9⟩
              have WB := hide (show (∀ k, sv2.ownBlock = some k → x9.heap.size ≤ k ∧ k < x10.heap.size) ∧ ∀ k, cv2.ownBlock = some k → x9.heap.size ≤ k ∧ k < x10.heap.size from hwo.lt)
              have WO := hide (show wrOut x10 (w.heap.size + 1) sv2 cv2 c2 nS S nC A X an tx ∧ (∃ x y z, sv2 = .slice x y z) ∧ ∃ x y z, cv2 = .slice x y z from ⟨hwo.low ST.out.lt1, hwo.shape⟩)
              have WZ := hide (show (∀ k, sv2.ownBlock = some k → k ≠ Z) ∧ ∀ k, cv2.ownBlock = some k → k ≠ Z from ⟨fun k hk => by have := WB.out.1 k hk; have := ST.out.zs; omega, fun k hk => by have := WB.out.2 k hk; have := ST.out.zs; omega⟩)
              replace ST := hide (ST.out.below hb9)
              have AL := hide (show x10.heap[b]? = some (.cells #[.slice none 0 0, .slice none 0 0, .string ⟨#[]⟩, .int .i64 0] 30) ∧ bFar b w Z (.slice sa nS sk) (.slice ca nC ck) ∧ (∀ k, sv2.ownBlock = some k → k ≠ b) ∧ ∀ k, cv2.ownBlock = some k → k ≠ b from ⟨(hb9.block b hb8).trans AL0.out.1, AL0.out.2, fun k hk => by have := WB.out.1 k hk; omega, fun k hk => by have := WB.out.2 k hk; omega⟩)
              clear hwo hb9
              go_wp2_with fail
              refine hK.out _ _ (by have h := ST.out.z; exact ⟨by simp [World.cell?, h], by simp [World.cell?, h]⟩) (fun hHeld => ?_)
              clear hK KK
              refine wpAnyH_ready (rs := [9]) (by kernel_rfl) (by simp) ?_
              refine AllReadyH.cons rfl (fun KK hK => ?_) AllReadyH.nil
              have hb4 := AL.out.1
              have cb : x10.cell? ⟨b, 0, none⟩ = some (.slice none 0 0) ∧ x10.cell? ⟨b, 1, none⟩ = some (.slice none 0 0) ∧ x10.cell? ⟨b, 2, none⟩ = some (.string ⟨#[]⟩) ∧ x10.cell? ⟨b, 3, none⟩ = some (.int .i64 0) := ⟨by simp [World.cell?, hb4], by simp [World.cell?, hb4], by simp [World.cell?, hb4], by simp [World.cell?, hb4]⟩
              obtain ⟨cb0, cb1, cb2, cb3⟩ := cb
              have fb0 : x10.frozen? ⟨b, 0, none⟩ = false := by simp [World.frozen?, hb4]
              have fb1 : x10.frozen? ⟨b, 1, none⟩ = false := by simp [World.frozen?, hb4]
              have fb2 : x10.frozen? ⟨b, 2, none⟩ = false := by simp [World.frozen?, hb4]
              have fb3 : x10.frozen? ⟨b, 3, none⟩ = false := by simp [World.frozen?, hb4]
              have E9 := hide (store4 x10 b _ _ _ _ sv2 cv2 (.string ⟨#[]⟩) (.int .i64 c2) _ hb4)
              clear hb4
              obtain ⟨qa, qb, qc, eo1⟩ : ∃ x y z, sv2 = .slice x y z := WO.out.2.1
              obtain ⟨qd, qe, qf, eo2⟩ : ∃ x y z, cv2 = .slice x y z := WO.out.2.2
              subst eo1 eo2
              go_simp
              generalize ((((x10.setCell ⟨b, 0, none⟩ (.slice qa qb qc)).setCell ⟨b, 1, none⟩ (.slice qd qe qf)).setCell ⟨b, 2, none⟩ (.string ⟨#[]⟩)).setCell ⟨b, 3, none⟩ (.int .i64 c2)) = w9 at *
              obtain ⟨e9a, e9b, e9c⟩ := E9.out
              have ST9 := ST.out.far b e9b e9c AL.out.2.1
              refine hK.out _ _ (by have h := ST9.z; exact ⟨by simp [World.cell?, h], by simp [World.cell?, h]⟩) (fun hHeld => ?_)
              clear hK KK cb0 cb1 cb2 cb3 fb0 fb1 fb2 fb3
              refine wpAnyH_done (by kernel_rfl) ?_ _
              go_wp2_with fail
              go_meet
              case rel => exact ⟨b, .slice qa qb qc, .slice qd qe qf, c2, an, tx, rfl, hide e9a, hide ST9, hide ⟨WO.out.1.far b e9c AL.out.2.2, TZ.out⟩, hide ⟨WO.out.2.1, WO.out.2.2⟩, hide WZ.out, AL.out.2.1, AL.out.2.2⟩
          · go_simp
            have hb0 := heap_alloc_new x1 (.cells #[.slice none 0 0, .slice none 0 0, .string ⟨#[]⟩, .int .i64 0] 30)
            have ST2 := ST.out.below ((Below.refl _ _).alloc (Nat.le_refl _) (.cells #[.slice none 0 0, .slice none 0 0, .string ⟨#[]⟩, .int .i64 0] 30))
            obtain ⟨b, hbe⟩ : ∃ b, b = x1.heap.size := ⟨_, rfl⟩
            have hsz0 : x1.heap.size < (x1.alloc (.cells #[.slice none 0 0, .slice none 0 0, .string ⟨#[]⟩, .int .i64 0] 30)).heap.size := by simp
            have ZB := hide (And.intro (ST.out.lts) (World.block_lt_of_cell? x1 _ (by have h := ST.out.z; show x1.cell? ⟨Z, 0, none⟩ = some (.slice sa nS sk); simp [World.cell?, h])))
            rw [← hbe] at hb0 hsz0 ⊢
            generalize x1.alloc (.cells #[.slice none 0 0, .slice none 0 0, .string ⟨#[]⟩, .int .i64 0] 30) = x11 at *
            replace ST := hide ST2
            have AL0 := hide (show x11.heap[b]? = some (.cells #[.slice none 0 0, .slice none 0 0, .string ⟨#[]⟩, .int .i64 0] 30) ∧ bFar b w Z (.slice sa nS sk) (.slice ca nC ck) from ⟨hb0, ZB.out.1.far hbe ZB.out.2⟩)
            have hb8 : b < x11.heap.size := hsz0
            clear hb0 ST2 ZB
            refine hK.out _ _ (by have h := ST.out.z; exact ⟨by simp [World.cell?, h], by simp [World.cell?, h]⟩) (fun hHeld => ?_)
            clear hK KK hsz0 hbe
            refine wpAnyH_ready (rs := [5]) (by kernel_rfl) (by simp) ?_
            refine AllReadyH.cons rfl (fun KK hK => ?_) AllReadyH.nil
            go_simp
            refine (src_n B _ g a len cap 150 (by omega) ST.out.src).mono ?_
            rintro e x12 ⟨ln, rfl, ln0, ln1, hs9, hg9⟩
            obtain ⟨ln, rfl⟩ := Int.eq_ofNat_of_zero_le ln0
            have hln : ln ≤ 149 := by omega
            replace ST := hide (ST.out.step hs9 hg9)
            replace AL0 := hide (And.intro ((hg9.block b hb8 (by have := AL0.out.2.1; simp; omega)).trans AL0.out.1) AL0.out.2)
            replace hb8 : b < x12.heap.size := Nat.lt_of_lt_of_le hb8 hg9.size
            clear hs9 hg9
            go_wp2_with fail
            refine hK.out _ _ (by have h := ST.out.z; exact ⟨by simp [World.cell?, h], by simp [World.cell?, h]⟩) (fun hHeld => ?_)
            clear hK KK
            refine wpAnyH_ready (rs := [6]) (by kernel_rfl) (by simp) ?_
            refine AllReadyH.cons rfl (fun KK hK => ?_) AllReadyH.nil
            go_simp
            refine (src_bytes B _ g a len cap ln (by omega) ST.out.src).mono ?_
            rintro e x13 ⟨tx, rfl, htx, hs9, hg9⟩
            have TZ := hide (show tx.size ≤ 149 by omega)
            have htx2 : tx.size ≤ 20000 := by omega
            clear htx
            replace ST := hide (ST.out.step hs9 hg9)
            replace AL0 := hide (And.intro ((hg9.block b hb8 (by have := AL0.out.2.1; simp; omega)).trans AL0.out.1) AL0.out.2)
            replace hb8 : b < x13.heap.size := Nat.lt_of_lt_of_le hb8 hg9.size
            clear hs9 hg9
            go_wp2_with fail
            refine hK.out _ _ (by have h := ST.out.z; exact ⟨by simp [World.cell?, h], by simp [World.cell?, h]⟩) (fun hHeld => ?_)
            clear hK KK
            refine wpAnyH_ready (rs := [7]) (by kernel_rfl) (by simp) ?_
            refine AllReadyH.cons rfl (fun KK hK => ?_) AllReadyH.nil
            go_simp
            refine (spec_diskWriteO _ nS S nC A X an tx x13 OK.out htx2 ST.out.dsk).mono ?_
            rintro e x14 ⟨sv2, cv2, c2, rfl, hwo, hb9⟩
            have WB := hide (show (∀ k, sv2.ownBlock = some k → x13.heap.size ≤ k ∧ k < x14.heap.size) ∧ ∀ k, cv2.ownBlock = some k → x13.heap.size ≤ k ∧ k < x14.heap.size from hwo.lt)
            have WO := hide (show wrOut x14 (w.heap.size + 1) sv2 cv2 c2 nS S nC A X an tx ∧ (∃ x y z, sv2 = .slice x y z) ∧ ∃ x y z, cv2 = .slice x y z from ⟨hwo.low ST.out.lt1, hwo.shape⟩)
            have WZ := hide (show (∀ k, sv2.ownBlock = some k → k ≠ Z) ∧ ∀ k, cv2.ownBlock = some k → k ≠ Z from ⟨fun k hk => by have := WB.out.1 k hk; have := ST.out.zs; omega, fun k hk => by have := WB.out.2 k hk; have := ST.out.zs; omega⟩)
            replace ST := hide (ST.out.below hb9)
            have AL := hide (show x14.heap[b]? = some (.cells #[.slice none 0 0, .slice none 0 0, .string ⟨#[]⟩, .int .i64 0] 30) ∧ bFar b w Z (.slice sa nS sk) (.slice ca nC ck) ∧ (∀ k, sv2.ownBlock = some k → k ≠ b) ∧ ∀ k, cv2.ownBlock = some k → k ≠ b from ⟨(hb9.block b hb8).trans AL0.out.1, AL0.out.2, fun k hk => by have := WB.out.1 k hk; omega, fun k hk => by have := WB.out.2 k hk; omega⟩)
            clear hwo hb9
            go_wp2_with fail
            refine hK.out _ _ (by have h := ST.out.z; exact ⟨by simp [World.cell?, h], by simp [World.cell?, h]⟩) (fun hHeld => ?_)
            clear hK KK
            refine wpAnyH_ready (rs := [9]) (by kernel_rfl) (by simp) ?_
            refine AllReadyH.cons rfl (fun KK hK => ?_) AllReadyH.nil
            have hb4 := AL.out.1
            have cb : x14.cell? ⟨b, 0, none⟩ = some (.slice none 0 0) ∧ x14.cell? ⟨b, 1, none⟩ = some (.slice none 0 0) ∧ x14.cell? ⟨b, 2, none⟩ = some (.string ⟨#[]⟩) ∧ x14.cell? ⟨b, 3, none⟩ = some (.int .i64 0) := ⟨by simp [World.cell?, hb4], by simp [World.cell?, hb4], by simp [World.cell?, hb4], by simp [World.cell?, hb4]⟩
            obtain ⟨cb0, cb1, cb2, cb3⟩ := cb
            have fb0 : x14.frozen? ⟨b, 0, none⟩ = false := by simp [World.frozen?, hb4]
            have fb1 : x14.frozen? ⟨b, 1, none⟩ = false := by simp [World.frozen?, hb4]
            have fb2 : x14.frozen? ⟨b, 2, none⟩ = false := by simp [World.frozen?, hb4]
            have fb3 : x14.frozen? ⟨b, 3, none⟩ = false := by simp [World.frozen?, hb4]
            have E9 := hide (store4 x14 b _ _ _ _ sv2 cv2 (.string ⟨#[]⟩) (.int .i64 c2) _ hb4)
            clear hb4
            obtain ⟨qa, qb, qc, eo1⟩ : ∃ x y z, sv2 = .slice x y z := WO.out.2.1
            obtain ⟨qd, qe, qf, eo2⟩ : ∃ x y z, cv2 = .slice x y z := WO.out.2.2
            subst eo1 eo2
            go_simp
            generalize ((((x14.setCell ⟨b, 0, none⟩ (.slice qa qb qc)).setCell ⟨b, 1, none⟩ (.slice qd qe qf)).setCell ⟨b, 2, none⟩ (.string ⟨#[]⟩)).setCell ⟨b, 3, none⟩ (.int .i64 c2)) = w9 at *
            obtain ⟨e9a, e9b, e9c⟩ := E9.out
            have ST9 := ST.out.far b e9b e9c AL.out.2.1
            refine hK.out _ _ (by have h := ST9.z; exact ⟨by simp [World.cell?, h], by simp [World.cell?, h]⟩) (fun hHeld => ?_)
            clear hK KK cb0 cb1 cb2 cb3 fb0 fb1 fb2 fb3
            refine wpAnyH_done (by kernel_rfl) ?_ _
            go_wp2_with fail
            go_meet
            case rel => exact ⟨b, .slice qa qb qc, .slice qd qe qf, c2, an, tx, rfl, hide e9a, hide ST9, hide ⟨WO.out.1.far b e9c AL.out.2.2, TZ.out⟩, hide ⟨WO.out.2.1, WO.out.2.2⟩, hide WZ.out, AL.out.2.1, AL.out.2.2⟩
        · go_simp
          have hb0 := heap_alloc_new Wd (.cells #[.slice none 0 0, .slice none 0 0, .string ⟨#[]⟩, .int .i64 0] 30)
          have ST2 := ST.out.below ((Below.refl _ _).alloc (Nat.le_refl _) (.cells #[.slice none 0 0, .slice none 0 0, .string ⟨#[]⟩, .int .i64 0] 30))
          obtain ⟨b, hbe⟩ : ∃ b, b = Wd.heap.size := ⟨_, rfl⟩
          have hsz0 : Wd.heap.size < (Wd.alloc (.cells #[.slice none 0 0, .slice none 0 0, .string ⟨#[]⟩, .int .i64 0] 30)).heap.size := by simp
          have ZB := hide (And.intro (ST.out.lts) (World.block_lt_of_cell? Wd _ (by have h := ST.out.z; show Wd.cell? ⟨Z, 0, none⟩ = some (.slice sa nS sk); simp [World.cell?, h])))
          rw [← hbe] at hb0 hsz0 ⊢
          generalize Wd.alloc (.cells #[.slice none 0 0, .slice none 0 0, .string ⟨#[]⟩, .int .i64 0] 30) = x15 at *
          replace ST := hide ST2
          have AL0 := hide (show x15.heap[b]? = some (.cells #[.slice none 0 0, .slice none 0 0, .string ⟨#[]⟩, .int .i64 0] 30) ∧ bFar b w Z (.slice sa nS sk) (.slice ca nC ck) from ⟨hb0, ZB.out.1.far hbe ZB.out.2⟩)
          have hb8 : b < x15.heap.size := hsz0
          clear hb0 ST2 ZB
          refine hK.out _ _ (by have h := ST.out.z; exact ⟨by simp [World.cell?, h], by simp [World.cell?, h]⟩) (fun hHeld => ?_)
          clear hK KK hsz0 hbe
          refine wpAnyH_ready (rs := [2]) (by kernel_rfl) (by simp) ?_
          refine AllReadyH.cons rfl (fun KK hK => ?_) AllReadyH.nil
          go_simp
          refine (src_n B _ g a len cap 5 (by omega) ST.out.src).mono ?_
          rintro e x16 ⟨an, rfl, an0, an1, hs9, hg9⟩
          replace ST := hide (ST.out.step hs9 hg9)
          replace AL0 := hide (And.intro ((hg9.block b hb8 (by have := AL0.out.2.1; simp; omega)).trans AL0.out.1) AL0.out.2)
          replace hb8 : b < x16.heap.size := Nat.lt_of_lt_of_le hb8 hg9.size
          clear hs9 hg9
          go_wp2_with fail
          refine hK.out _ _ (by have h := ST.out.z; exact ⟨by simp [World.cell?, h], by simp [World.cell?, h]⟩) (fun hHeld => ?_)
          clear hK KK
          refine wpAnyH_ready (rs := [5]) (by kernel_rfl) (by simp) ?_
          refine AllReadyH.cons rfl (fun KK hK => ?_) AllReadyH.nil
          go_simp
          refine (src_n B _ g a len cap 150 (by omega) ST.out.src).mono ?_
          rintro e x17 ⟨ln, rfl, ln0, ln1, hs9, hg9⟩
          obtain ⟨ln, rfl⟩ := Int.eq_ofNat_of_zero_le ln0
          have hln : ln ≤ 149 := by omega
          replace ST := hide (ST.out.step hs9 hg9)
          replace AL0 := hide (And.intro ((hg9.block b hb8 (by have := AL0.out.2.1; simp; omega)).trans AL0.out.1) AL0.out.2)
          replace hb8 : b < x17.heap.size := Nat.lt_of_lt_of_le hb8 hg9.size
          clear hs9 hg9
          go_wp2_with fail
          refine hK.out _ _ (by have h := ST.out.z; exact ⟨by simp [World.cell?, h], by simp [World.cell?, h]⟩) (fun hHeld => ?_)
          clear hK KK
          refine wpAnyH_ready (rs := [6]) (by kernel_rfl) (by simp) ?_
          refine AllReadyH.cons rfl (fun KK hK => ?_) AllReadyH.nil
          go_simp
          refine (src_bytes B _ g a len cap ln (by omega) ST.out.src).mono ?_
          rintro e x18 ⟨tx, rfl, htx, hs9, hg9⟩
          have TZ := hide (show tx.size ≤ 149 by omega)
          have htx2 : tx.size ≤ 20000 := by omega
          clear htx
          replace ST := hide (ST.out.step hs9 hg9)
          replace AL0 := hide (And.intro ((hg9.block b hb8 (by have := AL0.out.2.1; simp; omega)).trans AL0.out.1) AL0.out.2)
          replace hb8 : b < x18.heap.size := Nat.lt_of_lt_of_le hb8 hg9.size
          clear hs9 hg9
          go_wp2_with fail
          refine hK.out _ _ (by have h := ST.out.z; exact ⟨by simp [World.cell?, h], by simp [World.cell?, h]⟩) (fun hHeld => ?_)
          clear hK KK
          refine wpAnyH_ready (rs := [7]) (by kernel_rfl) (by simp) ?_
          refine AllReadyH.cons rfl (fun KK hK => ?_) AllReadyH.nil
          go_simp
          refine (spec_diskWriteO _ nS S nC A X an tx x18 OK.out htx2 ST.out.dsk).mono ?_
          rintro e x19 ⟨sv2, cv2, c2, rfl, hwo, hb9⟩
          have WB := hide (show (∀ k, sv2.ownBlock = some k → x18.heap.size ≤ k ∧ k < x19.heap.size) ∧ ∀ k, cv2.ownBlock = some k → x18.heap.size ≤ k ∧ k < x19.heap.size from hwo.lt)
          have WO := hide (show wrOut x19 (w.heap.size + 1) sv2 cv2 c2 nS S nC A X an tx ∧ (∃ x y z, sv2 = .slice x y z) ∧ ∃ x y z, cv2 = .slice x y z from ⟨hwo.low ST.out.lt1, hwo.shape⟩)
          have WZ := hide (show (∀ k, sv2.ownBlock = some k → k ≠ Z) ∧ ∀ k, cv2.ownBlock = some k → k ≠ Z from ⟨fun k hk => by have := WB.out.1 k hk; have := ST.out.zs; omega, fun k hk => by have := WB.out.2 k hk; have := ST.out.zs; omega⟩)
          replace ST := hide (ST.out.below hb9)
          have AL := hide (show x19.heap[b]? = some (.cells #[.slice none 0 0, .slice none 0 0, .string ⟨#[]⟩, .int .i64 0] 30) ∧ bFar b w Z (.slice sa nS sk) (.slice ca nC ck) ∧ (∀ k, sv2.ownBlock = some k → k ≠ b) ∧ ∀ k, cv2.ownBlock = some k → k ≠ b from ⟨(hb9.block b hb8).trans AL0.out.1, AL0.out.2, fun k hk => by have := WB.out.1 k hk; omega, fun k hk => by have := WB.out.2 k hk; omega⟩)
          clear hwo hb9
          go_wp2_with fail
          refine hK.out _ _ (by have h := ST.out.z; exact ⟨by simp [World.cell?, h], by simp [World.cell?, h]⟩) (fun hHeld => ?_)
          clear hK KK
          refine wpAnyH_ready (rs := [9]) (by kernel_rfl) (by simp) ?_
          refine AllReadyH.cons rfl (fun KK hK => ?_) AllReadyH.nil
          have hb4 := AL.out.1
          have cb : x19.cell? ⟨b, 0, none⟩ = some (.slice none 0 0) ∧ x19.cell? ⟨b, 1, none⟩ = some (.slice none 0 0) ∧ x19.cell? ⟨b, 2, none⟩ = some (.string ⟨#[]⟩) ∧ x19.cell? ⟨b, 3, none⟩ = some (.int .i64 0) := ⟨by simp [World.cell?, hb4], by simp [World.cell?, hb4], by simp [World.cell?, hb4], by simp [World.cell?, hb4]⟩
          obtain ⟨cb0, cb1, cb2, cb3⟩ := cb
          have fb0 : x19.frozen? ⟨b, 0, none⟩ = false := by simp [World.frozen?, hb4]
          have fb1 : x19.frozen? ⟨b, 1, none⟩ = false := by simp [World.frozen?, hb4]
          have fb2 : x19.frozen? ⟨b, 2, none⟩ = false := by simp [World.frozen?, hb4]
          have fb3 : x19.frozen? ⟨b, 3, none⟩ = false := by simp [World.frozen?, hb4]
          have E9 := hide (store4 x19 b _ _ _ _ sv2 cv2 (.string ⟨#[]⟩) (.int .i64 c2) _ hb4)
          clear hb4
          obtain ⟨qa, qb, qc, eo1⟩ : ∃ x y z, sv2 = .slice x y z := WO.out.2.1
          obtain ⟨qd, qe, qf, eo2⟩ : ∃ x y z, cv2 = .slice x y z := WO.out.2.2
          subst eo1 eo2
          go_simp
          generalize ((((x19.setCell ⟨b, 0, none⟩ (.slice qa qb qc)).setCell ⟨b, 1, none⟩ (.slice qd qe qf)).setCell ⟨b, 2, none⟩ (.string ⟨#[]⟩)).setCell ⟨b, 3, none⟩ (.int .i64 c2)) = w9 at *
          obtain ⟨e9a, e9b, e9c⟩ := E9.out
          have ST9 := ST.out.far b e9b e9c AL.out.2.1
          refine hK.out _ _ (by have h := ST9.z; exact ⟨by simp [World.cell?, h], by simp [World.cell?, h]⟩) (fun hHeld => ?_)
          clear hK KK cb0 cb1 cb2 cb3 fb0 fb1 fb2 fb3
          refine wpAnyH_done (by kernel_rfl) ?_ _
          go_wp2_with fail
          go_meet
          case rel => exact ⟨b, .slice qa qb qc, .slice qd qe qf, c2, an, tx, rfl, hide e9a, hide ST9, hide ⟨WO.out.1.far b e9c AL.out.2.2, TZ.out⟩, hide ⟨WO.out.2.1, WO.out.2.2⟩, hide WZ.out, AL.out.2.1, AL.out.2.2⟩
      case rest =>
        obtain ⟨b, sv2, cv2, c2, an, tx, rfl, HX, ST, WO, SH, WZ, bf, nb1, nb2⟩ := hcut
        obtain ⟨⟨qa, qb, qc, rfl⟩, qd, qe, qf, rfl⟩ := SH.out
        have cb0 : wc.cell? ⟨b, 0, none⟩ = some (.slice qa qb qc) := by have h := HX.out; simp [World.cell?, h]
        have cb1 : wc.cell? ⟨b, 1, none⟩ = some (.slice qd qe qf) := by have h := HX.out; simp [World.cell?, h]
        have cb3 : wc.cell? ⟨b, 3, none⟩ = some (.int .i64 c2) := by have h := HX.out; simp [World.cell?, h]
        by_cases hc : c2 = 0
        · subst hc
          obtain ⟨h, _⟩ | ⟨_, hr, hf, o1, o2, hap⟩ := WO.out.1
          · exact absurd rfl h
          have eS := o1
          obtain ⟨_, _, e1⟩ := own_slice o1
          obtain ⟨_, _, e2⟩ := own_slice o2
          cases e1
          cases e2
          have y0 : wc.frozen? ⟨Z, 0, none⟩ = false := by have h := ST.out.z; simp [World.frozen?, h]
          have y1 : wc.frozen? ⟨Z, 1, none⟩ = false := by have h := ST.out.z; simp [World.frozen?, h]
          have z0 : wc.cell? ⟨Z, 0, none⟩ = some (.slice sa nS sk) := by have h := ST.out.z; simp [World.cell?, h]
          have z1 : wc.cell? ⟨Z, 1, none⟩ = some (.slice ca nC ck) := by have h := ST.out.z; simp [World.cell?, h]
          have ST2 := hide (ST.out.lay o1 o2 hap WZ.out.1 WZ.out.2)
          replace OK := hide (wr_ok OK.out hr hf)
          clear o1 o2 hap eS hr WO WZ ST
          generalize nC + manyW tx = nC2 at *
          generalize wrA A nC an = A2 at *
          generalize wrX X nC tx = X2 at *
          go_wp2_with fail
          generalize ((wc.setCell ⟨Z, 0, none⟩ (.slice qa nS qc)).setCell ⟨Z, 1, none⟩ (.slice qd nC2 qf)) = w4 at *
          have ST := ST2
          clear ST2 y0 y1 z0 z1 cb0 cb1 cb3 HX
          refine (src_one B w4 g a len cap 3 (by omega) ST.out.src).mono ?_
          rintro e w5 ⟨r, rfl, hs5, hg5⟩
          replace ST := hide (ST.out.step hs5 hg5)
          clear hs5 hg5
          have z0 : w5.cell? ⟨Z, 0, none⟩ = some (.slice qa nS qc) := by have h := ST.out.z; simp [World.cell?, h]
          have z1 : w5.cell? ⟨Z, 1, none⟩ = some (.slice qd nC2 qf) := by have h := ST.out.z; simp [World.cell?, h]
          cases r with
          | false =>
            go_wp2_with fail
            go_roundw
            case rel => exact ⟨k - 1, nS, S, nC2, A2, X2, qa, qd, qc, qf, by omega, hn5, by go_num, ST, OK⟩
            case measure => simp [intOf]; omega
          | true =>
            go_wp2_with fail
            refine (spec_diskFlushO _ nS _ _ _ _ w5 OK.out ST.out.dsk).mono ?_
            rintro e w6 ⟨sv3, rfl, o3, hb6⟩
            obtain ⟨p3, q3, eo⟩ := own_slice o3
            subst eo
            have hlt3 : ∀ k, (Value.slice p3 nS q3).ownBlock = some k → k ≠ Z := fun k hk => by have := (o3.lt k hk).1; have := ST.out.zs; omega
            have o4 := hide (own_base o3 ST.out.lt1)
            have H3 := hide hlt3
            replace ST := hide (ST.out.below hb6)
            clear o3 hb6 hlt3 z0 z1
            have z0 : w6.cell? ⟨Z, 0, none⟩ = some (.slice qa nS qc) := by have h := ST.out.z; simp [World.cell?, h]
            have z1 : w6.cell? ⟨Z, 1, none⟩ = some (.slice qd nC2 qf) := by have h := ST.out.z; simp [World.cell?, h]
            have y0 : w6.frozen? ⟨Z, 0, none⟩ = false := by have h := ST.out.z; simp [World.frozen?, h]
            have y1 : w6.frozen? ⟨Z, 1, none⟩ = false := by have h := ST.out.z; simp [World.frozen?, h]
            have ST3 := hide (ST.out.lay (cv2 := .slice none 0 0) (nC2 := 0) (A2 := fun _ => 0) (X2 := fun _ => ⟨#[]⟩) o4.out (World.ownsRow_nil _ _ _ _) (fun k _ e => by cases e) H3.out (fun k hk => by cases hk))
            have OK3 := hide (fl_ok OK.out)
            clear ST o4 H3
            go_wp2_with fail
            go_roundw
            case rel => exact ⟨k - 1, nS, _, 0, _, _, p3, none, q3, 0, by omega, hn5, by go_num, ST3, ⟨OK3.out.1, Nat.zero_le _, OK3.out.2.2.1, fun j hj => by omega⟩⟩
            case measure => simp [intOf]; omega
        · have dc : (c2 == 0) = false := by simp [hc]
          clear WO WZ HX nb1 nb2 bf
          go_wp2_with fail
          clear cb0 cb1 cb3
          refine (src_one B wc g a len cap 3 (by omega) ST.out.src).mono ?_
          rintro e w5 ⟨r, rfl, hs5, hg5⟩
          replace ST := hide (ST.out.step hs5 hg5)
          clear hs5 hg5
          have z0 : w5.cell? ⟨Z, 0, none⟩ = some (.slice sa nS sk) := by have h := ST.out.z; simp [World.cell?, h]
          have z1 : w5.cell? ⟨Z, 1, none⟩ = some (.slice ca nC ck) := by have h := ST.out.z; simp [World.cell?, h]
          cases r with
          | false =>
            go_wp2_with fail
            go_roundw
            case rel => exact ⟨k - 1, nS, S, nC, A, X, sa, ca, sk, ck, by omega, hn5, by go_num, ST, OK⟩
            case measure => simp [intOf]; omega
          | true =>
            go_wp2_with fail
            refine (spec_diskFlushO _ nS _ _ _ _ w5 OK.out ST.out.dsk).mono ?_
            rintro e w6 ⟨sv3, rfl, o3, hb6⟩
            obtain ⟨p3, q3, eo⟩ := own_slice o3
            subst eo
            have hlt3 : ∀ k, (Value.slice p3 nS q3).ownBlock = some k → k ≠ Z := fun k hk => by have := (o3.lt k hk).1; have := ST.out.zs; omega
            have o4 := hide (own_base o3 ST.out.lt1)
            have H3 := hide hlt3
            replace ST := hide (ST.out.below hb6)
            clear o3 hb6 hlt3 z0 z1
            have z0 : w6.cell? ⟨Z, 0, none⟩ = some (.slice sa nS sk) := by have h := ST.out.z; simp [World.cell?, h]
            have z1 : w6.cell? ⟨Z, 1, none⟩ = some (.slice ca nC ck) := by have h := ST.out.z; simp [World.cell?, h]
            have y0 : w6.frozen? ⟨Z, 0, none⟩ = false := by have h := ST.out.z; simp [World.frozen?, h]
            have y1 : w6.frozen? ⟨Z, 1, none⟩ = false := by have h := ST.out.z; simp [World.frozen?, h]
            have ST3 := hide (ST.out.lay (cv2 := .slice none 0 0) (nC2 := 0) (A2 := fun _ => 0) (X2 := fun _ => ⟨#[]⟩) o4.out (World.ownsRow_nil _ _ _ _) (fun k _ e => by cases e) H3.out (fun k hk => by cases hk))
            have OK3 := hide (fl_ok OK.out)
            clear ST o4 H3
            go_wp2_with fail
            go_roundw
            case rel => exact ⟨k - 1, nS, _, 0, _, _, p3, none, q3, 0, by omega, hn5, by go_num, ST3, ⟨OK3.out.1, Nat.zero_le _, OK3.out.2.2.1, fun j hj => by omega⟩⟩
            case measure => simp [intOf]; omega
    · have hk0 : k = 0 := by omega
      subst hk0
      have SM := hide (small_of_ok OK.out)
      have hn4 := OK.out.2.1
      clear OK
      go_wp2_with fail
      refine (src_one B wr g a len cap 20 (by omega) ST.out.src).mono ?_
      rintro e w5 ⟨r, rfl, hs5, hg5⟩
      replace ST := hide (ST.out.step hs5 hg5)
      clear hs5 hg5
      cases r with
      | false =>
        have z0 : w5.cell? ⟨Z, 0, none⟩ = some (.slice sa nS sk) := by have h := ST.out.z; simp [World.cell?, h]
        have z1 : w5.cell? ⟨Z, 1, none⟩ = some (.slice ca nC ck) := by have h := ST.out.z; simp [World.cell?, h]
        have r0 : w5.cell? ⟨w.heap.size, 0, none⟩ = some (.slice none 0 0) := by have h := ST.out.r; simp [World.cell?, h]
        have r1 : w5.cell? ⟨w.heap.size, 1, none⟩ = some (.slice none 0 0) := by have h := ST.out.r; simp [World.cell?, h]
        have r2 : w5.frozen? ⟨w.heap.size, 0, none⟩ = false := by have h := ST.out.r; simp [World.frozen?, h]
        have r3 : w5.frozen? ⟨w.heap.size, 1, none⟩ = false := by have h := ST.out.r; simp [World.frozen?, h]
        go_wp2_with fail
        have u1 : ((w5.setCell ⟨w.heap.size, 0, none⟩ (.slice sa nS sk)).setCell ⟨w.heap.size, 1, none⟩ (.slice ca nC ck)).heap[w.heap.size]? = some (.cells #[.slice sa nS sk, .slice ca nC ck] 26) := set2_blk _ _ _ _ _ _ _ ST.out.r
        have FE := ST.out.endOf (.slice sa nS sk) (.slice ca nC ck)
        generalize ((w5.setCell ⟨w.heap.size, 0, none⟩ (.slice sa nS sk)).setCell ⟨w.heap.size, 1, none⟩ (.slice ca nC ck)) = w9 at *
        exact bodyPost_ret (results_cell_row Try.results33 _ _ w.heap.size 26 #[.slice sa nS sk, .slice ca nC ck] (0, 0) _ rfl u1 Try.underlying26 rfl (by kernel_rfl)) rfl ⟨_, _, _, _, _, _, _, rfl, FE.1, FE.2.1, ST.out.ap, by omega, by omega, SM.out, FE.2.2.1, FE.2.2.2⟩
      | true =>
        go_wp2_with fail
        refine (src_n B w5 g a len cap 3 (by omega) ST.out.src).mono ?_
        rintro e w6 ⟨v, rfl, v0, v1, hs6, hg6⟩
        replace ST := hide (ST.out.step hs6 hg6)
        clear hs6 hg6
        have hv : v = 0 ∨ v = 1 ∨ v = 2 := by omega
        clear v0 v1
        have z0 : w6.cell? ⟨Z, 0, none⟩ = some (.slice sa nS sk) := by have h := ST.out.z; simp [World.cell?, h]
        have z1 : w6.cell? ⟨Z, 1, none⟩ = some (.slice ca nC ck) := by have h := ST.out.z; simp [World.cell?, h]
        have zf0 : w6.frozen? ⟨Z, 0, none⟩ = false := by have h := ST.out.z; simp [World.frozen?, h]
        rcases hv with rfl | rfl | rfl
        · have lt1 := ST.out.lt1
          have ST2 := hide (ST.out.below ((Below.refl _ _).alloc (Nat.le_refl _) (.cells #[.string ⟨#[115, 104, 111, 114, 116]⟩] 9)))
          go_wp2_with (at_builtin; refine wpList_append_any _ rfl _ _ 23 rfl (w.heap.size + 1) 9 is (.string ⟨#[]⟩) 1 16 Try.underlying23 his hzs0 hzs1 hzs2 rfl (by decide) (.slice sa nS sk) nS _ rfl ST2.out.o1 (some ⟨w6.heap.size, 0, none⟩) 1 1 [.string ⟨#[115, 104, 111, 114, 116]⟩] rfl rfl (.inr ⟨_, rfl, one_cell _ _ _⟩) (by intro u hu; simp at hu; subst hu; rfl) (by unfold maxLen; omega) (by omega) (by simp; omega) ?_)
          intro v1 w7 o7 g7 t7
          obtain ⟨a1, c1, ea⟩ := own_slice o7
          subst ea
          rw [← sL_upd S nS ⟨#[115, 104, 111, 114, 116]⟩] at o7
          have ST3 := hide (ST2.out.app1 g7 o7 (fun k hk => by have := t7 k hk; simpa using this))
          have zz := (g7.block Z ST2.out.zs (fun e => ST2.out.n1 Z e.symm rfl)).trans ST2.out.z
          have d0 : w7.cell? ⟨Z, 0, none⟩ = some (.slice sa nS sk) := by simp [World.cell?, zz]
          have f0 : w7.frozen? ⟨Z, 0, none⟩ = false := by simp [World.frozen?, zz]
          have d1 : w7.cell? ⟨Z, 1, none⟩ = some (.slice ca nC ck) := by simp [World.cell?, zz]
          have SM2 := hide (show dkSmall (nS + 1) (fun j => if j = nS then ⟨#[115, 104, 111, 114, 116]⟩ else S j) nC X from ⟨fun j hj => by
            show (if j = nS then (⟨#[115, 104, 111, 114, 116]⟩ : ByteArray) else S j).size ≤ 64
            split
            · decide
            · exact SM.out.1 j (by omega), SM.out.2⟩)
          clear z0 z1 zf0 ST2 o7 g7 t7 zz ST SM
          have ST := ST3
          have SM := SM2
          clear ST3 SM2
          have z0 : (w7.setCell ⟨Z, 0, none⟩ (.slice a1 (nS + 1) c1)).cell? ⟨Z, 0, none⟩ = some (.slice a1 (nS + 1) c1) := by have h := ST.out.z; simp [World.cell?, h]
          have z1 : (w7.setCell ⟨Z, 0, none⟩ (.slice a1 (nS + 1) c1)).cell? ⟨Z, 1, none⟩ = some (.slice ca nC ck) := by have h := ST.out.z; simp [World.cell?, h]
          have r0 : (w7.setCell ⟨Z, 0, none⟩ (.slice a1 (nS + 1) c1)).cell? ⟨w.heap.size, 0, none⟩ = some (.slice none 0 0) := by have h := ST.out.r; simp [World.cell?, h]
          have r1 : (w7.setCell ⟨Z, 0, none⟩ (.slice a1 (nS + 1) c1)).cell? ⟨w.heap.size, 1, none⟩ = some (.slice none 0 0) := by have h := ST.out.r; simp [World.cell?, h]
          have r2 : (w7.setCell ⟨Z, 0, none⟩ (.slice a1 (nS + 1) c1)).frozen? ⟨w.heap.size, 0, none⟩ = false := by have h := ST.out.r; simp [World.frozen?, h]
          have r3 : (w7.setCell ⟨Z, 0, none⟩ (.slice a1 (nS + 1) c1)).frozen? ⟨w.heap.size, 1, none⟩ = false := by have h := ST.out.r; simp [World.frozen?, h]
          go_wp2_with fail
          have u1 : (((w7.setCell ⟨Z, 0, none⟩ (.slice a1 (nS + 1) c1)).setCell ⟨w.heap.size, 0, none⟩ (.slice a1 (nS + 1) c1)).setCell ⟨w.heap.size, 1, none⟩ (.slice ca nC ck)).heap[w.heap.size]? = some (.cells #[.slice a1 (nS + 1) c1, .slice ca nC ck] 26) := set2_blk _ _ _ _ _ _ _ ST.out.r
          have FE := ST.out.endOf (.slice a1 (nS + 1) c1) (.slice ca nC ck)
          generalize (((w7.setCell ⟨Z, 0, none⟩ (.slice a1 (nS + 1) c1)).setCell ⟨w.heap.size, 0, none⟩ (.slice a1 (nS + 1) c1)).setCell ⟨w.heap.size, 1, none⟩ (.slice ca nC ck)) = w9 at *
          exact bodyPost_ret (results_cell_row Try.results33 _ _ w.heap.size 26 #[.slice a1 (nS + 1) c1, .slice ca nC ck] (0, 0) _ rfl u1 Try.underlying26 rfl (by kernel_rfl)) rfl ⟨_, _, _, _, _, _, _, rfl, FE.1, FE.2.1, ST.out.ap, by omega, by omega, SM.out, FE.2.2.1, FE.2.2.2⟩
        · clear z0 z1 zf0
          have z0 : w6.cell? ⟨Z, 0, none⟩ = some (.slice sa nS sk) := by have h := ST.out.z; simp [World.cell?, h]
          have z1 : w6.cell? ⟨Z, 1, none⟩ = some (.slice ca nC ck) := by have h := ST.out.z; simp [World.cell?, h]
          obtain ⟨BK, hBK⟩ : ∃ x, x = blankS := ⟨_, rfl⟩
          have hBs : BK.size = 64 := by rw [hBK]; decide
          have HMK := hide (show ∀ w : World, (Instr.makeSlice 22 (.int .i64 64) (.int .i64 64)).run Try.prog w = .ok (.slice (some ⟨w.heap.size, 0, none⟩) 64 64) (w.alloc (.cells (madeCells #[.int .u8 0] 64) 5)) from run_make_row' (P := Try.prog) 22 5 (.int .u8 0) 1 Try.underlying22 (by kernel_rfl) rfl .i64 .i64 64 (by omega) (by omega))
          have HCV := hide (show ∀ w : World, (convert 22 9 (.slice (some ⟨w.heap.size, 0, none⟩) 64 64)).run Try.prog (w.alloc (.cells (madeCells #[.int .u8 0] 64) 5)) = .ok (.string BK) (w.alloc (.cells (madeCells #[.int .u8 0] 64) 5)) from fun w => by rw [hBK]; exact conv_blank w)
          clear hBK
          go_wp2_with fail
          refine wp_region_till (S := fun u => u.cell? ⟨Z, 0, none⟩ = some (.slice sa nS sk) ∧ u.cell? ⟨Z, 1, none⟩ = some (.slice ca nC ck)) 11 (by kernel_rfl) (by have h := ST.out.draw.z; exact ⟨by simp [World.cell?, h], by simp [World.cell?, h]⟩) (fun hHeld => ?_)
          replace ST := hide ST.out.draw
          have hmk := HMK.out
          clear HMK
          generalize w6.drew = Wd at *
          refine takeT (i := 0) [1, 9, 11] (v := .pointer (some ⟨Z, 1, none⟩)) (some 68) rfl rfl (by kernel_rfl) (by kernel_rfl) (by kernel_rfl) (by kernel_rfl) (fun _ _ _ h => h) (Or.inl ⟨by rfl, fun w hSw => by go_simp⟩) hHeld ?_
          simp only [Act.put, List.setIfInBounds_toArray, List.set_cons_zero, List.set_cons_succ]
          refine takeT (i := 1) [9, 11] (v := .slice ca nC ck) (some 69) rfl rfl (by kernel_rfl) (by kernel_rfl) (by kernel_rfl) (by kernel_rfl) (fun _ _ _ h => h) (Or.inl ⟨by rfl, fun w hSw => by obtain ⟨s0, s1⟩ := hSw; go_simp⟩) hHeld ?_
          simp only [Act.put, List.setIfInBounds_toArray, List.set_cons_zero, List.set_cons_succ]
          refine takeT (i := 2) [3, 4, 7, 8, 9, 11] (v := .pointer (some ⟨Z, 0, none⟩)) (some 70) rfl rfl (by kernel_rfl) (by kernel_rfl) (by kernel_rfl) (by kernel_rfl) (fun _ _ _ h => h) (Or.inl ⟨by rfl, fun w hSw => by go_simp⟩) hHeld ?_
          simp only [Act.put, List.setIfInBounds_toArray, List.set_cons_zero, List.set_cons_succ]
          refine takeT (i := 3) [4, 7, 8, 9, 11] (v := .slice sa nS sk) (some 71) rfl rfl (by kernel_rfl) (by kernel_rfl) (by kernel_rfl) (by kernel_rfl) (fun _ _ _ h => h) (Or.inl ⟨by rfl, fun w hSw => by obtain ⟨s0, s1⟩ := hSw; go_simp⟩) hHeld ?_
          simp only [Act.put, List.setIfInBounds_toArray, List.set_cons_zero, List.set_cons_succ]
          refine takeT (i := 4) [7, 8, 9, 11] (v := .int .i64 (nS : Int)) (some 72) rfl rfl (by kernel_rfl) (by kernel_rfl) (by kernel_rfl) (by kernel_rfl) (fun _ _ _ h => h) (Or.inl ⟨by rfl, fun w hSw => by go_simp⟩) hHeld ?_
          simp only [Act.put, List.setIfInBounds_toArray, List.set_cons_zero, List.set_cons_succ]
          refine oneT (i := 5) (by kernel_rfl) rfl (fun KK hK => ?_)
          go_simp
          have ST7 := hide (ST.out.below ((Below.refl _ _).alloc (Nat.le_refl _) (.cells (madeCells #[.int .u8 0] 64) 5)))
          have hcv := HCV.out Wd
          generalize Wd.alloc (.cells (madeCells #[.int .u8 0] 64) 5) = w7 at *
          replace ST := ST7
          clear ST7
          refine hK.out _ _ (by have h := ST.out.z; exact ⟨by simp [World.cell?, h], by simp [World.cell?, h]⟩) (fun hHeld => ?_)
          clear hK KK
          refine oneT (i := 6) (by kernel_rfl) rfl (fun KK hK => ?_)
          go_simp
          refine hK.out _ _ (by have h := ST.out.z; exact ⟨by simp [World.cell?, h], by simp [World.cell?, h]⟩) (fun hHeld => ?_)
          clear hK KK hcv
          refine takeT (i := 7) [8, 9, 11] (v := .agg #[.int .i64 (nS : Int), .string BK]) (some 75) rfl rfl (by kernel_rfl) (by kernel_rfl) (by kernel_rfl) (by kernel_rfl) (fun _ _ _ h => h) (Or.inl ⟨by rfl, fun w hSw => by go_simp⟩) hHeld ?_
          simp only [Act.put, List.setIfInBounds_toArray, List.set_cons_zero, List.set_cons_succ]
          refine oneT (i := 8) (by kernel_rfl) rfl (fun KK hK => ?_)
          go_simp
          have ST8 := hide (ST.out.below ((Below.refl _ _).alloc (Nat.le_refl _) (.cells #[.int .i64 (nS : Int), .string BK] 70)))
          have nw : ∀ j u, [Value.int .i64 (nS : Int), Value.string BK][j]? = some u → (w7.alloc (.cells #[.int .i64 (nS : Int), .string BK] 70)).cell? ((⟨w7.heap.size, 0, none⟩ : Addr).add j) = some u := World.news_of_block (heap_alloc_new w7 _)
          generalize w7.alloc (.cells #[.int .i64 (nS : Int), .string BK] 70) = w8 at *
          replace ST := ST8
          clear ST8
          refine hK.out _ _ (by have h := ST.out.z; exact ⟨by simp [World.cell?, h], by simp [World.cell?, h]⟩) (fun hHeld => ?_)
          clear hK KK
          refine oneT (i := 9) (by kernel_rfl) rfl (fun KK hK => ?_)
          refine step_append_any w8 (some 77) rfl rfl (.tmp 69) (.tmp 76) 24 rfl (w.heap.size + 1) 70 iw (.agg #[.int .i64 0, .string ⟨#[]⟩]) 2 24 Try.underlying24 hiw hzw0 hzw1 hzw2 rfl (by decide) (.slice ca nC ck) nC _ rfl ST.out.o2 (some ⟨w7.heap.size, 0, none⟩) 1 1 [.int .i64 (nS : Int), .string BK] rfl rfl (.inr ⟨_, rfl, nw⟩) (by intro u hu; simp at hu; rcases hu with rfl | rfl <;> rfl) (by unfold maxLen; omega) (by omega) ST.out.lt1 ?_
          intro v9 w9 o9 g9 t9
          obtain ⟨a9, c9, ea⟩ := own_slice o9
          subst ea
          rw [← wL_upd A X nC (nS : Int) BK] at o9
          have ST9 := hide (ST.out.app2 g9 o9 t9)
          have zz := (g9.block Z ST.out.zs (fun e => ST.out.n2 Z e.symm rfl)).trans ST.out.z
          have d0 : w9.cell? ⟨Z, 1, none⟩ = some (.slice ca nC ck) := by simp [World.cell?, zz]
          have f0 : w9.frozen? ⟨Z, 1, none⟩ = false := by simp [World.frozen?, zz]
          have d1 : w9.cell? ⟨Z, 0, none⟩ = some (.slice sa nS sk) := by simp [World.cell?, zz]
          have zs9 := g9
          simp only [Act.put, List.setIfInBounds_toArray, List.set_cons_zero, List.set_cons_succ]
          refine hK.out _ _ ⟨d1, d0⟩ (fun hHeld => ?_)
          clear hK KK zz
          refine takeT (i := 10) [11] (v := .pointer (some ⟨Z, 1, none⟩)) (some 78) rfl rfl (by kernel_rfl) (by kernel_rfl) (by kernel_rfl) (by kernel_rfl) (fun _ _ _ h => h) (Or.inl ⟨by rfl, fun w hSw => by go_simp⟩) hHeld ?_
          simp only [Act.put, List.setIfInBounds_toArray, List.set_cons_zero, List.set_cons_succ]
          refine lastT (by kernel_rfl) rfl (fun KK hK => ?_)
          go_simp
          generalize w9.setCell ⟨Z, 1, none⟩ (.slice a9 (nC + 1) c9) = w10 at *
          refine hK.out _ _ ?_
          clear hK KK o9 g9 t9 d0 f0 nw d1 zs9
          replace ST := ST9
          clear ST9
          refine wpAnyT_done (by kernel_rfl) ?_ _
          replace SM := hide (show dkSmall nS S (nC + 1) (fun j => if j = nC then BK else X j) from ⟨SM.out.1, fun j hj => by
            show (if j = nC then BK else X j).size ≤ 64
            split
            · omega
            · exact SM.out.2 j (by omega)⟩)
          have z0 : w10.cell? ⟨Z, 0, none⟩ = some (.slice sa nS sk) := by have h := ST.out.z; simp [World.cell?, h]
          have z1 : w10.cell? ⟨Z, 1, none⟩ = some (.slice a9 (nC + 1) c9) := by have h := ST.out.z; simp [World.cell?, h]
          have r0 : w10.cell? ⟨w.heap.size, 0, none⟩ = some (.slice none 0 0) := by have h := ST.out.r; simp [World.cell?, h]
          have r1 : w10.cell? ⟨w.heap.size, 1, none⟩ = some (.slice none 0 0) := by have h := ST.out.r; simp [World.cell?, h]
          have r2 : w10.frozen? ⟨w.heap.size, 0, none⟩ = false := by have h := ST.out.r; simp [World.frozen?, h]
          have r3 : w10.frozen? ⟨w.heap.size, 1, none⟩ = false := by have h := ST.out.r; simp [World.frozen?, h]
          go_wp2_with fail
          have u1 : ((w10.setCell ⟨w.heap.size, 0, none⟩ (.slice sa nS sk)).setCell ⟨w.heap.size, 1, none⟩ (.slice a9 (nC + 1) c9)).heap[w.heap.size]? = some (.cells #[.slice sa nS sk, .slice a9 (nC + 1) c9] 26) := set2_blk _ _ _ _ _ _ _ ST.out.r
          have FE := ST.out.endOf (.slice sa nS sk) (.slice a9 (nC + 1) c9)
          generalize ((w10.setCell ⟨w.heap.size, 0, none⟩ (.slice sa nS sk)).setCell ⟨w.heap.size, 1, none⟩ (.slice a9 (nC + 1) c9)) = w9 at *
          exact bodyPost_ret (results_cell_row Try.results33 _ _ w.heap.size 26 #[.slice sa nS sk, .slice a9 (nC + 1) c9] (0, 0) _ rfl u1 Try.underlying26 rfl (by kernel_rfl)) rfl ⟨_, _, _, _, _, _, _, rfl, FE.1, FE.2.1, ST.out.ap, by omega, by omega, SM.out, FE.2.2.1, FE.2.2.2⟩
        · clear z0 z1 zf0
          go_wp2_with fail
          go_loopw [36] (fun _ wx => ∃ (nC : Nat) (A : Nat → Int) (X : Nat → ByteArray) (ca : Option Addr) (ck : Nat), nC ≤ 402 ∧ Hid (DkSt w g Z B a len cap wx (.slice sa nS sk) (.slice ca nC ck) nS S nC A X) ∧ Hid (dkSmall nS S nC X)) (fun _ wx => 500 - cacheLen wx Z)
          case atStart => exact ⟨nC, A, X, ca, ck, by omega, ST, SM⟩
          case round =>
            clear ST SM hn4
            obtain ⟨nC, A, X, ca, ck, hn4, ST, SM⟩ := hrel
            have HCL := hide (show cacheLen wr Z = nC from cacheLen_at ST.out.z)
            by_cases h0 : 0 < nS
            · have h0d : decide ((0 : Int) < (nS : Int)) = true := decide_eq_true (by omega)
              have h0n : decide (0 < nS) = true := decide_eq_true h0
              go_wp2_with fail
              refine wp_region_held_drew (S := fun u => u.cell? ⟨Z, 0, none⟩ = some (.slice sa nS sk) ∧ u.cell? ⟨Z, 1, none⟩ = some (.slice ca nC ck)) (by kernel_rfl) (by have h := ST.out.draw.z; exact ⟨by simp [World.cell?, h], by simp [World.cell?, h]⟩) (fun hHeld => ?_)
              replace ST := hide ST.out.draw
              generalize wr.drew = Wd at *
              refine takeD (i := 0) (v := .pointer (some ⟨Z, 0, none⟩)) (some 36) rfl rfl (by kernel_rfl) (by kernel_rfl) (by kernel_rfl) (fun _ _ _ h => h) (Or.inl ⟨by rfl, fun w hSw => by go_simp⟩) hHeld ?_
              simp only [Act.put, List.setIfInBounds_toArray, List.set_cons_zero, List.set_cons_succ]
              refine takeD (i := 1) (v := .slice sa nS sk) (some 37) rfl rfl (by kernel_rfl) (by kernel_rfl) (by kernel_rfl) (fun _ _ _ h => h) (Or.inl ⟨by rfl, fun w hSw => by obtain ⟨s0, s1⟩ := hSw; go_simp⟩) hHeld ?_
              simp only [Act.put, List.setIfInBounds_toArray, List.set_cons_zero, List.set_cons_succ]
              refine takeD (i := 2) (v := .int .i64 (nS : Int)) (some 38) rfl rfl (by kernel_rfl) (by kernel_rfl) (by kernel_rfl) (fun _ _ _ h => h) (Or.inl ⟨by rfl, fun w hSw => by go_simp⟩) hHeld ?_
              simp only [Act.put, List.setIfInBounds_toArray, List.set_cons_zero, List.set_cons_succ]
              refine takeD (i := 3) (v := .bool true) (some 39) rfl rfl (by kernel_rfl) (by kernel_rfl) (by kernel_rfl) (fun _ _ _ h => h) (Or.inl ⟨by rfl, fun w hSw => by go_simp⟩) hHeld ?_
              simp only [Act.put, List.setIfInBounds_toArray, List.set_cons_zero, List.set_cons_succ]
              refine takeD (i := 4) (v := .bool true) (some 40) rfl rfl (by kernel_rfl) (by kernel_rfl) (by kernel_rfl) (fun _ _ _ h => h) (Or.inl ⟨by rfl, fun w hSw => by go_simp⟩) hHeld ?_
              simp only [Act.put, List.setIfInBounds_toArray, List.set_cons_zero, List.set_cons_succ]
              refine takeD (i := 5) (v := .pointer (some ⟨Z, 1, none⟩)) (some 41) rfl rfl (by kernel_rfl) (by kernel_rfl) (by kernel_rfl) (fun _ _ _ h => h) (Or.inl ⟨by rfl, fun w hSw => by go_simp⟩) hHeld ?_
              simp only [Act.put, List.setIfInBounds_toArray, List.set_cons_zero, List.set_cons_succ]
              refine takeD (i := 6) (v := .slice ca nC ck) (some 42) rfl rfl (by kernel_rfl) (by kernel_rfl) (by kernel_rfl) (fun _ _ _ h => h) (Or.inl ⟨by rfl, fun w hSw => by obtain ⟨s0, s1⟩ := hSw; go_simp⟩) hHeld ?_
              simp only [Act.put, List.setIfInBounds_toArray, List.set_cons_zero, List.set_cons_succ]
              refine takeD (i := 7) (v := .int .i64 (nC : Int)) (some 43) rfl rfl (by kernel_rfl) (by kernel_rfl) (by kernel_rfl) (fun _ _ _ h => h) (Or.inl ⟨by rfl, fun w hSw => by go_simp⟩) hHeld ?_
              simp only [Act.put, List.setIfInBounds_toArray, List.set_cons_zero, List.set_cons_succ]
              refine takeD (i := 8) (v := .pointer (some ⟨g, 0, none⟩)) (some 44) rfl rfl (by kernel_rfl) (by kernel_rfl) (by kernel_rfl) (fun _ _ _ h => h) (Or.inl ⟨by rfl, fun w hSw => by go_simp⟩) hHeld ?_
              simp only [Act.put, List.setIfInBounds_toArray, List.set_cons_zero, List.set_cons_succ]
              refine wpAnyH_ready (rs := [9]) (by kernel_rfl) (by simp) ?_
              refine AllReadyH.cons rfl (fun KK hK => ?_) AllReadyH.nil
              go_simp
              refine (src_n B _ g a len cap 3 (by omega) ST.out.src).mono ?_
              rintro e w7 ⟨r, rfl, r0, r1, hs9, hg9⟩
              replace ST := hide (ST.out.step hs9 hg9)
              clear hs9 hg9
              obtain ⟨r, rfl⟩ := Int.eq_ofNat_of_zero_le r0
              have hr2 : r ≤ 2 := by omega
              clear r0 r1
              go_wp2_with fail
              refine hK.out _ _ (by have h := ST.out.z; exact ⟨by simp [World.cell?, h], by simp [World.cell?, h]⟩) (fun hHeld => ?_)
              clear hK KK
              have hwr : IntKind.i64.wrap (399 + (r : Int)) = 399 + (r : Int) := by simp only [IntKind.wrap_i64]; omega
              refine takeD (i := 10) (v := .int .i64 (399 + (r : Int))) (some 46) rfl rfl (by kernel_rfl) (by kernel_rfl) (by kernel_rfl) (fun _ _ _ h => h) (Or.inl ⟨by rfl, fun w hSw => by go_simp; try exact hwr⟩) hHeld ?_
              simp only [Act.put, List.setIfInBounds_toArray, List.set_cons_zero, List.set_cons_succ]
              by_cases hlr : nC < 399 + r
              · have hlr1 : decide ((nC : Int) < 399 + (r : Int)) = true := decide_eq_true (by omega)
                refine takeD (i := 11) (v := .bool true) (some 47) rfl rfl (by kernel_rfl) (by kernel_rfl) (by kernel_rfl) (fun _ _ _ h => h) (Or.inl ⟨by rfl, fun w hSw => by go_simp⟩) hHeld ?_
                simp only [Act.put, List.setIfInBounds_toArray, List.set_cons_zero, List.set_cons_succ]
                refine takeD (i := 12) (v := .bool true) (some 48) rfl rfl (by kernel_rfl) (by kernel_rfl) (by kernel_rfl) (fun _ _ _ h => h) (Or.inl ⟨by rfl, fun w hSw => by go_simp⟩) hHeld ?_
                simp only [Act.put, List.setIfInBounds_toArray, List.set_cons_zero, List.set_cons_succ]
                refine wpAnyH_done (by kernel_rfl) ?_ _
                go_wp2_with fail
                obtain ⟨b0, rfl⟩ := own_first ST.out.o1 h0
                refine wp_region_till (S := fun u => u.cell? ⟨Z, 0, none⟩ = some (.slice (some ⟨b0, 0, none⟩) nS sk) ∧ u.cell? ⟨Z, 1, none⟩ = some (.slice ca nC ck) ∧ u.cell? ⟨b0, 0, none⟩ = some (.string (S 0))) 10 (by kernel_rfl) (by have h := ST.out.draw.z; exact ⟨by simp [World.cell?, h], by simp [World.cell?, h], own_cell0 ST.out.draw.o1 h0⟩) (fun hHeld => ?_)
                replace ST := hide ST.out.draw
                generalize w7.drew = We at *
                refine takeT (i := 0) [1, 8, 10] (v := .pointer (some ⟨Z, 1, none⟩)) (some 49) rfl rfl (by kernel_rfl) (by kernel_rfl) (by kernel_rfl) (by kernel_rfl) (fun _ _ _ h => h) (Or.inl ⟨by rfl, fun w hSw => by go_simp⟩) hHeld ?_
                simp only [Act.put, List.setIfInBounds_toArray, List.set_cons_zero, List.set_cons_succ]
                refine takeT (i := 1) [8, 10] (v := .slice ca nC ck) (some 50) rfl rfl (by kernel_rfl) (by kernel_rfl) (by kernel_rfl) (by kernel_rfl) (fun _ _ _ h => h) (Or.inl ⟨by rfl, fun w hSw => by obtain ⟨s0, s1, s2⟩ := hSw; go_simp⟩) hHeld ?_
                simp only [Act.put, List.setIfInBounds_toArray, List.set_cons_zero, List.set_cons_succ]
                refine takeT (i := 2) [3, 4, 5, 6, 7, 8, 10] (v := .pointer (some ⟨Z, 0, none⟩)) (some 51) rfl rfl (by kernel_rfl) (by kernel_rfl) (by kernel_rfl) (by kernel_rfl) (fun _ _ _ h => h) (Or.inl ⟨by rfl, fun w hSw => by go_simp⟩) hHeld ?_
                simp only [Act.put, List.setIfInBounds_toArray, List.set_cons_zero, List.set_cons_succ]
                refine takeT (i := 3) [4, 5, 6, 7, 8, 10] (v := .slice (some ⟨b0, 0, none⟩) nS sk) (some 52) rfl rfl (by kernel_rfl) (by kernel_rfl) (by kernel_rfl) (by kernel_rfl) (fun _ _ _ h => h) (Or.inl ⟨by rfl, fun w hSw => by obtain ⟨s0, s1, s2⟩ := hSw; go_simp⟩) hHeld ?_
                simp only [Act.put, List.setIfInBounds_toArray, List.set_cons_zero, List.set_cons_succ]
                refine takeT (i := 4) [5, 6, 7, 8, 10] (v := .pointer (some ⟨b0, 0, none⟩)) (some 53) rfl rfl (by kernel_rfl) (by kernel_rfl) (by kernel_rfl) (by kernel_rfl) (fun _ _ _ h => h) (Or.inl ⟨by rfl, fun w hSw => by go_simp⟩) hHeld ?_
                simp only [Act.put, List.setIfInBounds_toArray, List.set_cons_zero, List.set_cons_succ]
                refine takeT (i := 5) [6, 7, 8, 10] (v := .string (S 0)) (some 54) rfl rfl (by kernel_rfl) (by kernel_rfl) (by kernel_rfl) (by kernel_rfl) (fun _ _ _ h => h) (Or.inl ⟨by rfl, fun w hSw => by obtain ⟨s0, s1, s2⟩ := hSw; go_simp⟩) hHeld ?_
                simp only [Act.put, List.setIfInBounds_toArray, List.set_cons_zero, List.set_cons_succ]
                refine takeT (i := 6) [7, 8, 10] (v := .agg #[.int .i64 0, .string (S 0)]) (some 55) rfl rfl (by kernel_rfl) (by kernel_rfl) (by kernel_rfl) (by kernel_rfl) (fun _ _ _ h => h) (Or.inl ⟨by rfl, fun w hSw => by go_simp⟩) hHeld ?_
                simp only [Act.put, List.setIfInBounds_toArray, List.set_cons_zero, List.set_cons_succ]
                refine oneT (i := 7) (by kernel_rfl) rfl (fun KK hK => ?_)
                go_simp
                have ST8 := hide (ST.out.below ((Below.refl _ _).alloc (Nat.le_refl _) (.cells #[.int .i64 0, .string (S 0)] 70)))
                have nw : ∀ j u, [Value.int .i64 0, Value.string (S 0)][j]? = some u → (We.alloc (.cells #[.int .i64 0, .string (S 0)] 70)).cell? ((⟨We.heap.size, 0, none⟩ : Addr).add j) = some u := World.news_of_block (heap_alloc_new We _)
                generalize We.alloc (.cells #[.int .i64 0, .string (S 0)] 70) = w8 at *
                replace ST := ST8
                clear ST8
                refine hK.out _ _ (by have h := ST.out.z; exact ⟨by simp [World.cell?, h], by simp [World.cell?, h], own_cell0 ST.out.o1 h0⟩) (fun hHeld => ?_)
                clear hK KK
                refine oneT (i := 8) (by kernel_rfl) rfl (fun KK hK => ?_)
                refine step_append_any w8 (some 57) rfl rfl (.tmp 50) (.tmp 56) 24 rfl (w.heap.size + 1) 70 iw (.agg #[.int .i64 0, .string ⟨#[]⟩]) 2 24 Try.underlying24 hiw hzw0 hzw1 hzw2 rfl (by decide) (.slice ca nC ck) nC _ rfl ST.out.o2 (some ⟨We.heap.size, 0, none⟩) 1 1 [.int .i64 0, .string (S 0)] rfl rfl (.inr ⟨_, rfl, nw⟩) (by intro u hu; simp at hu; rcases hu with rfl | rfl <;> rfl) (by unfold maxLen; omega) (by omega) ST.out.lt1 ?_
                intro v9 w9 o9 g9 t9
                obtain ⟨a9, c9, ea⟩ := own_slice o9
                subst ea
                rw [← wL_upd A X nC 0 (S 0)] at o9
                have ST9 := hide (ST.out.app2 g9 o9 t9)
                have zz := (g9.block Z ST.out.zs (fun e => ST.out.n2 Z e.symm rfl)).trans ST.out.z
                have d0 : w9.cell? ⟨Z, 1, none⟩ = some (.slice ca nC ck) := by simp [World.cell?, zz]
                have f0 : w9.frozen? ⟨Z, 1, none⟩ = false := by simp [World.frozen?, zz]
                have d1 : w9.cell? ⟨Z, 0, none⟩ = some (.slice (some ⟨b0, 0, none⟩) nS sk) := by simp [World.cell?, zz]
                have zs9 := g9
                have e9 : w9.cell? ⟨b0, 0, none⟩ = some (.string (S 0)) := by rw [← own_cell0 ST.out.o1 h0]; exact cell_same (g9.block b0 (ST.out.o1.lt b0 rfl).2 (fun e => ST.out.ap b0 rfl e.symm)) 0
                simp only [Act.put, List.setIfInBounds_toArray, List.set_cons_zero, List.set_cons_succ]
                refine hK.out _ _ ⟨d1, d0, e9⟩ (fun hHeld => ?_)
                clear hK KK zz
                refine takeT (i := 9) [10] (v := .pointer (some ⟨Z, 1, none⟩)) (some 58) rfl rfl (by kernel_rfl) (by kernel_rfl) (by kernel_rfl) (by kernel_rfl) (fun _ _ _ h => h) (Or.inl ⟨by rfl, fun w hSw => by go_simp⟩) hHeld ?_
                simp only [Act.put, List.setIfInBounds_toArray, List.set_cons_zero, List.set_cons_succ]
                refine lastT (by kernel_rfl) rfl (fun KK hK => ?_)
                go_simp
                generalize w9.setCell ⟨Z, 1, none⟩ (.slice a9 (nC + 1) c9) = w10 at *
                refine hK.out _ _ ?_
                clear hK KK o9 g9 t9 d0 f0 nw d1 zs9
                replace ST := ST9
                clear ST9
                refine wpAnyT_done (by kernel_rfl) ?_ _
                go_wp2_with fail
                have HC2 := hide (show cacheLen w10 Z = nC + 1 from cacheLen_at ST.out.z)
                go_roundw
                case rel => exact ⟨nC + 1, _, _, a9, c9, by omega, ST, hide ⟨SM.out.1, fun j hj => by
                  show (if j = nC then S 0 else X j).size ≤ 64
                  split
                  · exact SM.out.1 0 h0
                  · exact SM.out.2 j (by omega)⟩⟩
                case measure => rw [HC2.out, HCL.out]; omega
              · have hlr1 : decide ((nC : Int) < 399 + (r : Int)) = false := decide_eq_false (by omega)
                refine takeD (i := 11) (v := .bool false) (some 47) rfl rfl (by kernel_rfl) (by kernel_rfl) (by kernel_rfl) (fun _ _ _ h => h) (Or.inl ⟨by rfl, fun w hSw => by go_simp⟩) hHeld ?_
                simp only [Act.put, List.setIfInBounds_toArray, List.set_cons_zero, List.set_cons_succ]
                refine takeD (i := 12) (v := .bool false) (some 48) rfl rfl (by kernel_rfl) (by kernel_rfl) (by kernel_rfl) (fun _ _ _ h => h) (Or.inl ⟨by rfl, fun w hSw => by go_simp⟩) hHeld ?_
                simp only [Act.put, List.setIfInBounds_toArray, List.set_cons_zero, List.set_cons_succ]
                refine wpAnyH_done (by kernel_rfl) ?_ _
                have z0 : w7.cell? ⟨Z, 0, none⟩ = some (.slice sa nS sk) := by have h := ST.out.z; simp [World.cell?, h]
                have z1 : w7.cell? ⟨Z, 1, none⟩ = some (.slice ca nC ck) := by have h := ST.out.z; simp [World.cell?, h]
                have r0 : w7.cell? ⟨w.heap.size, 0, none⟩ = some (.slice none 0 0) := by have h := ST.out.r; simp [World.cell?, h]
                have r1 : w7.cell? ⟨w.heap.size, 1, none⟩ = some (.slice none 0 0) := by have h := ST.out.r; simp [World.cell?, h]
                have r2 : w7.frozen? ⟨w.heap.size, 0, none⟩ = false := by have h := ST.out.r; simp [World.frozen?, h]
                have r3 : w7.frozen? ⟨w.heap.size, 1, none⟩ = false := by have h := ST.out.r; simp [World.frozen?, h]
                go_wp2_with fail
                have u1 : ((w7.setCell ⟨w.heap.size, 0, none⟩ (.slice sa nS sk)).setCell ⟨w.heap.size, 1, none⟩ (.slice ca nC ck)).heap[w.heap.size]? = some (.cells #[.slice sa nS sk, .slice ca nC ck] 26) := set2_blk _ _ _ _ _ _ _ ST.out.r
                have FE := ST.out.endOf (.slice sa nS sk) (.slice ca nC ck)
                generalize ((w7.setCell ⟨w.heap.size, 0, none⟩ (.slice sa nS sk)).setCell ⟨w.heap.size, 1, none⟩ (.slice ca nC ck)) = w9 at *
                exact bodyPost_ret (results_cell_row Try.results33 _ _ w.heap.size 26 #[.slice sa nS sk, .slice ca nC ck] (0, 0) _ rfl u1 Try.underlying26 rfl (by kernel_rfl)) rfl ⟨_, _, _, _, _, _, _, rfl, FE.1, FE.2.1, ST.out.ap, by omega, by omega, SM.out, FE.2.2.1, FE.2.2.2⟩
            · have h0d : decide ((0 : Int) < (nS : Int)) = false := decide_eq_false (by omega)
              have h0n : decide (0 < nS) = false := decide_eq_false h0
              go_wp2_with fail
              refine wp_region_held_drew (S := fun u => u.cell? ⟨Z, 0, none⟩ = some (.slice sa nS sk) ∧ u.cell? ⟨Z, 1, none⟩ = some (.slice ca nC ck)) (by kernel_rfl) (by have h := ST.out.draw.z; exact ⟨by simp [World.cell?, h], by simp [World.cell?, h]⟩) (fun hHeld => ?_)
              replace ST := hide ST.out.draw
              generalize wr.drew = Wd at *
              refine takeD (i := 0) (v := .pointer (some ⟨Z, 0, none⟩)) (some 36) rfl rfl (by kernel_rfl) (by kernel_rfl) (by kernel_rfl) (fun _ _ _ h => h) (Or.inl ⟨by rfl, fun w hSw => by go_simp⟩) hHeld ?_
              simp only [Act.put, List.setIfInBounds_toArray, List.set_cons_zero, List.set_cons_succ]
              refine takeD (i := 1) (v := .slice sa nS sk) (some 37) rfl rfl (by kernel_rfl) (by kernel_rfl) (by kernel_rfl) (fun _ _ _ h => h) (Or.inl ⟨by rfl, fun w hSw => by obtain ⟨s0, s1⟩ := hSw; go_simp⟩) hHeld ?_
              simp only [Act.put, List.setIfInBounds_toArray, List.set_cons_zero, List.set_cons_succ]
              refine takeD (i := 2) (v := .int .i64 (nS : Int)) (some 38) rfl rfl (by kernel_rfl) (by kernel_rfl) (by kernel_rfl) (fun _ _ _ h => h) (Or.inl ⟨by rfl, fun w hSw => by go_simp⟩) hHeld ?_
              simp only [Act.put, List.setIfInBounds_toArray, List.set_cons_zero, List.set_cons_succ]
              refine takeD (i := 3) (v := .bool false) (some 39) rfl rfl (by kernel_rfl) (by kernel_rfl) (by kernel_rfl) (fun _ _ _ h => h) (Or.inl ⟨by rfl, fun w hSw => by go_simp⟩) hHeld ?_
              simp only [Act.put, List.setIfInBounds_toArray, List.set_cons_zero, List.set_cons_succ]
              refine takeD (i := 4) (v := .bool false) (some 40) rfl rfl (by kernel_rfl) (by kernel_rfl) (by kernel_rfl) (fun _ _ _ h => h) (Or.inl ⟨by rfl, fun w hSw => by go_simp⟩) hHeld ?_
              simp only [Act.put, List.setIfInBounds_toArray, List.set_cons_zero, List.set_cons_succ]
              refine takeD (i := 5) (v := undef) (some 41) rfl rfl (by kernel_rfl) (by kernel_rfl) (by kernel_rfl) (fun _ _ _ h => h) (Or.inr ⟨rfl, rfl⟩) hHeld ?_
              simp only [Act.put, List.setIfInBounds_toArray, List.set_cons_zero, List.set_cons_succ]
              refine takeD (i := 6) (v := undef) (some 42) rfl rfl (by kernel_rfl) (by kernel_rfl) (by kernel_rfl) (fun _ _ _ h => h) (Or.inr ⟨rfl, rfl⟩) hHeld ?_
              simp only [Act.put, List.setIfInBounds_toArray, List.set_cons_zero, List.set_cons_succ]
              refine takeD (i := 7) (v := undef) (some 43) rfl rfl (by kernel_rfl) (by kernel_rfl) (by kernel_rfl) (fun _ _ _ h => h) (Or.inr ⟨rfl, rfl⟩) hHeld ?_
              simp only [Act.put, List.setIfInBounds_toArray, List.set_cons_zero, List.set_cons_succ]
              refine takeD (i := 8) (v := undef) (some 44) rfl rfl (by kernel_rfl) (by kernel_rfl) (by kernel_rfl) (fun _ _ _ h => h) (Or.inr ⟨rfl, rfl⟩) hHeld ?_
              simp only [Act.put, List.setIfInBounds_toArray, List.set_cons_zero, List.set_cons_succ]
              refine wpAnyH_ready (rs := [9]) (by kernel_rfl) (by simp) ?_
              refine AllReadyH.cons rfl (fun KK hK => ?_) AllReadyH.nil
              go_simp
              refine hK.out _ _ (by have h := ST.out.z; exact ⟨by simp [World.cell?, h], by simp [World.cell?, h]⟩) (fun hHeld => ?_)
              clear hK KK
              refine takeD (i := 10) (v := undef) (some 46) rfl rfl (by kernel_rfl) (by kernel_rfl) (by kernel_rfl) (fun _ _ _ h => h) (Or.inr ⟨rfl, rfl⟩) hHeld ?_
              simp only [Act.put, List.setIfInBounds_toArray, List.set_cons_zero, List.set_cons_succ]
              refine takeD (i := 11) (v := undef) (some 47) rfl rfl (by kernel_rfl) (by kernel_rfl) (by kernel_rfl) (fun _ _ _ h => h) (Or.inr ⟨rfl, rfl⟩) hHeld ?_
              simp only [Act.put, List.setIfInBounds_toArray, List.set_cons_zero, List.set_cons_succ]
              refine takeD (i := 12) (v := .bool false) (some 48) rfl rfl (by kernel_rfl) (by kernel_rfl) (by kernel_rfl) (fun _ _ _ h => h) (Or.inl ⟨by rfl, fun w hSw => by go_simp⟩) hHeld ?_
              simp only [Act.put, List.setIfInBounds_toArray, List.set_cons_zero, List.set_cons_succ]
              refine wpAnyH_done (by kernel_rfl) ?_ _
              have z0 : Wd.cell? ⟨Z, 0, none⟩ = some (.slice sa nS sk) := by have h := ST.out.z; simp [World.cell?, h]
              have z1 : Wd.cell? ⟨Z, 1, none⟩ = some (.slice ca nC ck) := by have h := ST.out.z; simp [World.cell?, h]
              have r0 : Wd.cell? ⟨w.heap.size, 0, none⟩ = some (.slice none 0 0) := by have h := ST.out.r; simp [World.cell?, h]
              have r1 : Wd.cell? ⟨w.heap.size, 1, none⟩ = some (.slice none 0 0) := by have h := ST.out.r; simp [World.cell?, h]
              have r2 : Wd.frozen? ⟨w.heap.size, 0, none⟩ = false := by have h := ST.out.r; simp [World.frozen?, h]
              have r3 : Wd.frozen? ⟨w.heap.size, 1, none⟩ = false := by have h := ST.out.r; simp [World.frozen?, h]
              go_wp2_with fail
              have u1 : ((Wd.setCell ⟨w.heap.size, 0, none⟩ (.slice sa nS sk)).setCell ⟨w.heap.size, 1, none⟩ (.slice ca nC ck)).heap[w.heap.size]? = some (.cells #[.slice sa nS sk, .slice ca nC ck] 26) := set2_blk _ _ _ _ _ _ _ ST.out.r
              have FE := ST.out.endOf (.slice sa nS sk) (.slice ca nC ck)
              generalize ((Wd.setCell ⟨w.heap.size, 0, none⟩ (.slice sa nS sk)).setCell ⟨w.heap.size, 1, none⟩ (.slice ca nC ck)) = w9 at *
              exact bodyPost_ret (results_cell_row Try.results33 _ _ w.heap.size 26 #[.slice sa nS sk, .slice ca nC ck] (0, 0) _ rfl u1 Try.underlying26 rfl (by kernel_rfl)) rfl ⟨_, _, _, _, _, _, _, rfl, FE.1, FE.2.1, ST.out.ap, by omega, by omega, SM.out, FE.2.2.1, FE.2.2.2⟩
end Go.Proofs.Ytipeelkmmjgehab
