/- Put together: Row8, ShaA, Copy, Bytes8. -/
import Derived.ArgAppend
import Derived.Below
import Derived.Laws.IdiomStrings
import Derived.Test.YtconcnndghmdfaaGreatDoorSe1
import Derived.Test.YtconcnndghmdfaaGreatDoorSe2
import Derived.Laws.CopyOwn
import Derived.Lib.BufferWrite
import Derived.WalkKit
import Derived.Deep.OwnRows
import Derived.Laws.BitsLemmas
namespace Go.Proofs.YtconcnndghmdfaaGreatDoor
open Go.RowKit Go

def hasRow (w : World) (base : Nat) (v : Value) (l : List UInt8) : Prop :=
  ∃ g cap, v = .slice (some ⟨g, 0, none⟩) l.length cap ∧ base ≤ g ∧ g < w.heap.size ∧ l.length ≤ cap ∧ (∀ j, j < cap → (w.cell? ⟨g, j, none⟩).isSome = true ∧ w.frozen? ⟨g, j, none⟩ = false) ∧ ∀ j u, l[j]? = some u → w.cell? ⟨g, j, none⟩ = some (byteV u)

theorem hasRow.of_own {w : World} {base e : Nat} {v : Value} {l : List UInt8} (h : w.ownsRow base e 1 v l.length (l.map byteV)) (hne : l ≠ []) : hasRow w base v l := by
  have h0 := h
  obtain ⟨_, ⟨_, hn⟩ | ⟨g, cap, cur, rfl, hg, hb, hcap, _, hsz, _⟩⟩ := h
  · exact absurd (List.length_eq_zero_iff.1 hn) hne
  · refine ⟨g, cap, rfl, hg, (h0.lt g rfl).2, hcap, fun j hj => ⟨?_, ?_⟩, fun j u hj => ?_⟩
    · simp only [World.cell?, hb]
      rw [Array.getElem?_eq_getElem (by omega)]; rfl
    · simp [World.frozen?, hb]
    · have hlt : j < l.length := by
        rcases Nat.lt_or_ge j l.length with h | h
        · exact h
        · rw [List.getElem?_eq_none h] at hj; cases hj
      have := h0.cellAt j (by omega)
      rw [this, List.getElem?_map, hj]; rfl

theorem hasRow.of_block {w w' : World} {base : Nat} {v : Value} {l : List UInt8} (h : hasRow w base v l) (hk : ∀ g, v.ownBlock = some g → g < w'.heap.size ∧ w'.heap[g]? = w.heap[g]?) : hasRow w' base v l := by
  obtain ⟨g, cap, rfl, hg, _, hc, hs, hl⟩ := h
  obtain ⟨h1, h2⟩ := hk g rfl
  refine ⟨g, cap, rfl, hg, h1, hc, fun j hj => ?_, fun j u hu => ?_⟩
  · rw [World.cell?_of_block (w := w) h2, World.frozen?_of_block (w := w) h2]; exact hs j hj
  · rw [World.cell?_of_block (w := w) h2]; exact hl j u hu
theorem hasRow.drew {w : World} {base : Nat} {v : Value} {l : List UInt8} (h : hasRow w base v l) : hasRow w.drew base v l := h
theorem hasRow.form {w : World} {base : Nat} {v : Value} {l : List UInt8} (h : hasRow w base v l) : ∃ g cap, v = .slice (some ⟨g, 0, none⟩) l.length cap ∧ base ≤ g ∧ g < w.heap.size := by
  obtain ⟨g, cap, e, h1, h2, _⟩ := h; exact ⟨g, cap, e, h1, h2⟩
/-- A byte laid into a block of its own, ahead of an append. -/
theorem one_byte {w : World} (x : UInt8) (t n : Nat) {X : Int} (hn : w.heap.size = n) (hX : X = (x.toNat : Int)) : ∀ (j : Nat) (u : Value), ([x].map byteV)[j]? = some u → (w.alloc (.cells #[.int .u8 X] t)).cell? ((⟨n, 0, none⟩ : Addr).add j) = some u := by
  subst hn hX; exact one_cell w (byteV x) t
theorem hasRow.alloc {w : World} {base : Nat} {v : Value} {l : List UInt8} (h : hasRow w base v l) (o : Obj) : hasRow (w.alloc o) base v l := by
  have h0 := h
  obtain ⟨g, cap, rfl, _, hlt, _⟩ := h0
  exact h.of_block fun k hk => by cases hk; exact ⟨by simp; omega, Below.heap_alloc _ _ _ hlt⟩
/-- '[]byte(s)'. -/
theorem hasRow.of_text (w : World) (base e cap : Nat) (s : ByteArray) (hcap : s.size ≤ cap) (hb : base ≤ w.heap.size) :
    hasRow (w.alloc (.cells (bytesRow s cap) e ((bytesRow s cap).size, (bytesRow s cap).size + 1))) base (.slice (some ⟨w.heap.size, 0, none⟩) s.size cap) s.data.toList := by
  have hsz : (bytesRow s cap).size = cap := by
    have : s.data.size = s.size := rfl
    unfold bytesRow; simp; omega
  have hh := heap_alloc_new w (.cells (bytesRow s cap) e ((bytesRow s cap).size, (bytesRow s cap).size + 1))
  refine ⟨w.heap.size, cap, by simp, hb, by simp, by simpa using hcap, fun j hj => ⟨?_, ?_⟩, fun j u hj => ?_⟩
  · simp only [World.cell?, hh]
    rw [Array.getElem?_eq_getElem (by omega)]; rfl
  · simp only [World.frozen?, hh]
    simp; omega
  · simp only [World.cell?, hh]
    have hlt : j < s.data.size := by
      rcases Nat.lt_or_ge j s.data.size with h | h
      · exact h
      · rw [List.getElem?_eq_none (by simpa using h)] at hj; cases hj
    rw [bytesRow_at s cap j hlt]
    have : s.data[j] = u := by
      rw [Array.getElem?_toList, Array.getElem?_eq_getElem hlt] at hj
      exact Option.some.inj hj
    rw [this]; rfl

theorem below_setCells {B : Nat} {a : World} : ∀ (vs : List Value) (o : Nat) (w : World) (b : Nat), Below B a w → B ≤ b → Below B a (w.setCells b o vs)
  | [], _, _, _, h, _ => h
  | _ :: vs, o, _, b, h, hb => below_setCells vs (o + 1) _ b (h.setCell hb _) hb

theorem wpList_append_row {P : Program} {w : World} {ops : Array Oper} {rest : List Oper} {o : Oper} {a : Act} {Q : Exit → Act → World → Prop}
    (hg : o.guard = none) (s x : Operand) (t : TypeId) (hop : o.op = Op.call { callee := Callee.builtin Builtin.append, args := #[s, x], argTypes := #[t, t] })
    (e : TypeId) (i : TypeInfo) (h1 : P.underlying t = some (.slice e)) (h2 : P.info? e = some i) (h3 : i.zero = some (.int .u8 0)) (h4 : i.size = 1) (h5 : i.bytes = 1)
    (base : Nat) (v : Value) (l : List UInt8) (hs : a.eval s = v) (hrow : hasRow w base v l)
    (ad : Addr) (c : Nat) (k : List UInt8) (hne : k ≠ []) (hx : a.eval x = .slice (some ad) k.length c) (hc : ∀ j u, (k.map byteV)[j]? = some u → w.cell? (ad.add j) = some u)
    (b2 : l.length + k.length ≤ 140737488355328) (hbase : base ≤ w.heap.size)
    (h : ∀ v' w', hasRow w' base v' (l ++ k) → Below base w w' → wpList P ops Q rest (a.put o.dst v') w') :
    wpList P ops Q (o :: rest) a w := by
  have hrow0 := hrow
  obtain ⟨g, cap, rfl, hgb, hlt, hcap, hcells, hl⟩ := hrow
  refine wpList_append_arg w hg s x t hop e i _ 1 1 h1 h2 h3 h4 h5 rfl (by omega) g 0 l.length cap (l.map byteV) hs (by simp) ?_ ad k.length c (k.map byteV) hx (by simp) hc ?_ ?_ (by unfold maxLen; omega) (by omega) ?_ ?_
  · intro j u hj
    rw [List.getElem?_map] at hj
    obtain ⟨y, hy, rfl⟩ := Option.map_eq_some_iff.1 hj
    rw [Nat.zero_add]; exact hl j y hy
  · intro u hu
    obtain ⟨y, _, rfl⟩ := List.mem_map.1 hu
    rfl
  · intro hr j hj
    rw [List.length_map] at hj
    exact hcells _ (by omega)
  · intro hr
    have hcs : ∀ j, j < (k.map byteV).length → (w.cell? ⟨g, 0 + l.length * 1 + j, none⟩).isSome = true := fun j hj => (hcells _ (by rw [List.length_map] at hj; omega)).1
    have hb := below_setCells (k.map byteV) (0 + l.length * 1) w g (Below.refl base w) hgb
    have he : (Value.slice (some ⟨g, 0, none⟩) (l.length + k.length) cap) = .slice (some ⟨g, 0, none⟩) (l ++ k).length cap := by rw [List.length_append]
    rw [he]
    refine h _ _ ⟨g, cap, rfl, hgb, Nat.lt_of_lt_of_le hlt hb.size, by rw [List.length_append]; exact hr, fun j hj => ⟨?_, ?_⟩, fun j u hj => ?_⟩ hb
    · by_cases hin : l.length ≤ j ∧ j < l.length + k.length
      · have := World.cell?_setCells_in g (k.map byteV) (0 + l.length * 1) w hcs (j - l.length) (by rw [List.length_map]; omega)
        rw [show 0 + l.length * 1 + (j - l.length) = j by omega] at this
        rw [this]; rfl
      · rw [World.cell?_setCells_out g _ _ w ⟨g, j, none⟩ (fun _ _ => by rw [List.length_map]; show j < _ ∨ _ ≤ j; omega)]
        exact (hcells j hj).1
    · rw [World.frozen?_setCells]; exact (hcells j hj).2
    · by_cases hin : j < l.length
      · rw [World.cell?_setCells_out g _ _ w ⟨g, j, none⟩ (fun _ _ => by show j < _ ∨ _ ≤ j; omega)]
        rw [List.getElem?_append_left hin] at hj
        exact hl j u hj
      · rw [List.getElem?_append_right (by omega)] at hj
        have hjk : j - l.length < k.length := by
          rcases Nat.lt_or_ge (j - l.length) k.length with h | h
          · exact h
          · rw [List.getElem?_eq_none h] at hj; cases hj
        have := World.cell?_setCells_in g (k.map byteV) (0 + l.length * 1) w hcs (j - l.length) (by rw [List.length_map]; omega)
        rw [show 0 + l.length * 1 + (j - l.length) = j by omega] at this
        rw [this, List.getElem_map]
        rw [List.getElem?_eq_getElem hjk] at hj
        rw [Option.some.inj hj]
  · intro _ v' w' hown hgr
    refine h v' w' (hasRow.of_own (e := e) ?_ (by simp [hne])) ((Below.refl _ _).grown hgr hbase (fun k hk => by cases hk))
    have hown' := hown
    rw [← List.map_append, ← List.length_append] at hown'
    obtain ⟨p, q⟩ := hown'
    refine ⟨p, ?_⟩
    rcases q with q | ⟨g', cap', cur, r1, r2, r3⟩
    · exact .inl q
    · exact .inr ⟨g', cap', cur, r1, by omega, r3⟩
theorem hasRow.below {w w' : World} {base : Nat} {v : Value} {l : List UInt8} (h : hasRow w base v l) (hb : Below w.heap.size w w') : hasRow w' base v l := by
  have h0 := h
  obtain ⟨g, cap, rfl, _, hlt, _⟩ := h0
  exact h.of_block fun k hk => by cases hk; exact ⟨Nat.lt_of_lt_of_le hlt hb.size, hb.block _ hlt⟩
theorem row_conv {P : Program} {w : World} {base g PL cap c p src dst e : Nat} {l : List UInt8} (h : hasRow w base (.slice (some ⟨g, 0, none⟩) PL cap) l) (hp : p + 64 ≤ l.length) (hs : P.underlying src = some (.slice e)) (he : P.underlying e = some (.int .u8)) (hd : P.underlying dst = some .string) :
    (convert src dst (.slice (some ⟨g, p, none⟩) 64 c)).run P w = .ok (.string ⟨((l.drop p).take 64).toArray⟩) w := by
  obtain ⟨g', cap', e1, _, _, _, _, hl⟩ := h
  cases e1
  have hn : ((l.drop p).take 64).length = 64 := by rw [List.length_take, List.length_drop]; omega
  have hr := run_convert_bytes_back (P := P) w src dst e ⟨g, p, none⟩ c ((l.drop p).take 64) hs he hd (fun j hj => by
    rw [hn] at hj
    have e2 : l[p + j]? = some (((l.drop p).take 64)[j]'(by omega)) := by
      rw [List.getElem_take, List.getElem_drop, List.getElem?_eq_getElem]
    have e3 : (⟨g, p, none⟩ : Addr).add j = ⟨g, p + j, none⟩ := by by_cases hz : j = 0 <;> simp [Addr.add, hz]
    rw [e3, hl _ _ e2]; rfl)
  rw [hn] at hr
  exact hr
theorem row_conv0 {P : Program} {w : World} {base src dst e : Nat} {v : Value} {l : List UInt8} (h : hasRow w base v l) (hs : P.underlying src = some (.slice e)) (he : P.underlying e = some (.int .u8)) (hd : P.underlying dst = some .string) :
    (convert src dst v).run P w = .ok (.string ⟨l.toArray⟩) w := by
  obtain ⟨g, cap, rfl, _, _, _, _, hl⟩ := h
  exact run_convert_bytes_back (P := P) w src dst e ⟨g, 0, none⟩ cap l hs he hd (fun j hj => by
    have e3 : (⟨g, 0, none⟩ : Addr).add j = ⟨g, j, none⟩ := by by_cases hz : j = 0 <;> simp [Addr.add, hz]
    rw [e3, hl j l[j] (List.getElem?_eq_getElem hj)]; rfl)
theorem hasRow.made (w : World) (base t n : Nat) (hb : base ≤ w.heap.size) (hn : w.heap.size = n) : hasRow (w.alloc (.cells #[] t)) base (.slice (some ⟨n, 0, none⟩) 0 0) [] := by
  subst hn
  exact ⟨w.heap.size, 0, rfl, hb, by simp, Nat.le_refl _, fun j hj => by omega, fun j u hu => by simp at hu⟩
end Go.Proofs.YtconcnndghmdfaaGreatDoor
namespace Go.Proofs.YtconcnndghmdfaaGreatDoor
open Go.RowKit
theorem Tryz.infoSha8 : (Tryz.prog.info? 5).map (fun i => (i.zero, i.size, i.bytes)) = some (some (.int .u8 0), 1, 1) := by kernel_rfl
/-- How many zeros go behind a text of n bytes and its mark. -/
def zerosN (n : Nat) : Nat := (119 - n % 64) % 64
def lenB (n m : Nat) : UInt8 := UInt8.ofNat (8 * n / 2 ^ (56 - 8 * m) % 256)
def padded1 (t : ByteArray) : List UInt8 := t.data.toList ++ [128] ++ List.replicate (zerosN t.size) 0
def padded (t : ByteArray) : List UInt8 := padded1 t ++ (List.range 8).map (lenB t.size)
theorem lenB_eq (n m p q : Nat) (hqm : q + m = 8) (hp : p = 8 * q - 8) (_hq : 1 ≤ q) : 8 * (n : Int) / 2 ^ p % 256 = ((lenB n m).toNat : Int) := by
  have e : 56 - 8 * m = p := by omega
  unfold lenB
  rw [e, ofNat_byte _ (by omega)]
  simp
/-- The state behind m blocks of a row of bytes. -/
def stAt (l : List UInt8) : Nat → Nat → Nat
  | 0 => shaStart1
  | m + 1 => blockF (byteAt ⟨((l.drop (64 * m)).take 64).toArray⟩) (stAt l m)
theorem stAt_lt (l : List UInt8) : ∀ m j, stAt l m j < 4294967296
  | 0, j => start_lt j
  | _ + 1, j => lt_block _ _ j
def wordB (x : Nat) : List UInt8 := [UInt8.ofNat (x / 16777216 % 256), UInt8.ofNat (x / 65536 % 256), UInt8.ofNat (x / 256 % 256), UInt8.ofNat (x % 256)]
def outB (st : Nat → Nat) (i : Nat) : List UInt8 := (List.range i).flatMap fun j => wordB (st j)
theorem outB_succ (st : Nat → Nat) (i : Nat) : outB st i ++ wordB (st i) = outB st (i + 1) := by
  unfold outB; rw [List.range_succ, List.flatMap_append]; simp
theorem outB_len (st : Nat → Nat) : ∀ i, (outB st i).length = 4 * i
  | 0 => rfl
  | i + 1 => by rw [← outB_succ, List.length_append, outB_len st i]; simp [wordB]; omega
/-- The digest of a text. -/
def digestL (t : ByteArray) : List UInt8 := outB (stAt (padded t) ((padded t).length / 64)) 8
theorem four_bytes (w : World) (S t : Nat) (hS : S < 4294967296) : ∀ (j : Nat) (u : Value), ((wordB S).map byteV)[j]? = some u → (w.alloc (.cells #[.int .u8 ((S : Int) / 16777216), .int .u8 ((S : Int) / 65536 % 256), .int .u8 ((S : Int) / 256 % 256), .int .u8 ((S : Int) % 256)] t)).cell? ((⟨w.heap.size, 0, none⟩ : Addr).add j) = some u := by
  have e0 : byteV (UInt8.ofNat (S / 16777216 % 256)) = .int .u8 ((S : Int) / 16777216) := by unfold byteV; rw [ofNat_byte _ (by omega), Nat.mod_eq_of_lt (by omega)]; simp
  have e1 : byteV (UInt8.ofNat (S / 65536 % 256)) = .int .u8 ((S : Int) / 65536 % 256) := by unfold byteV; rw [ofNat_byte _ (by omega)]; simp
  have e2 : byteV (UInt8.ofNat (S / 256 % 256)) = .int .u8 ((S : Int) / 256 % 256) := by unfold byteV; rw [ofNat_byte _ (by omega)]; simp
  have e3 : byteV (UInt8.ofNat (S % 256)) = .int .u8 ((S : Int) % 256) := by unfold byteV; rw [ofNat_byte _ (by omega)]; simp
  intro j u hj
  simp only [wordB, List.map_cons, List.map_nil, e0, e1, e2, e3] at hj
  match j, hj with
  | 0, hj => simp at hj; subst hj; simp [Addr.add]
  | 1, hj => simp at hj; subst hj; simp [Addr.add]
  | 2, hj => simp at hj; subst hj; simp [Addr.add]
  | 3, hj => simp at hj; subst hj; simp [Addr.add]
def lenA : Value → Nat
  | .slice _ n _ => n
  | _ => 0
def zRow (t : ByteArray) (z : Nat) : List UInt8 := t.data.toList ++ [128] ++ List.replicate z 0
theorem zRow_len (t : ByteArray) (z : Nat) : (zRow t z).length = t.size + 1 + z := by
  have : t.data.toList.length = t.size := by simp
  unfold zRow; rw [List.length_append, List.length_append, List.length_replicate, this]; rfl
theorem padded1_len (t : ByteArray) : (padded1 t).length = t.size + 1 + zerosN t.size := zRow_len t (zerosN t.size)
theorem padded_len (t : ByteArray) : (padded t).length = t.size + 1 + zerosN t.size + 8 := by
  unfold padded; rw [List.length_append, padded1_len, List.length_map, List.length_range]
theorem zRow_succ (t : ByteArray) (z : Nat) : zRow t z ++ [0] = zRow t (z + 1) := by
  unfold zRow; rw [List.replicate_succ', ← List.append_assoc]
set_option maxRecDepth 100000 in
set_option maxHeartbeats 1600000 in
theorem spec_all (t : ByteArray) (w : World) (ht : t.size ≤ 4194304) :
    Calls Tryz.prog 60 #[.string t] w fun e w' => e = .returned (.string ⟨(digestL t).toArray⟩) ∧ Below w.heap.size w w' := by
  obtain ⟨i0, hi, hz0, hz1, hz2⟩ := info_parts Tryz.infoSha8
  have hcv := fun (w : World) => run_bytes_of_string (P := Tryz.prog) w 9 22 5 t Tryz.underlying9 Tryz.underlying22 Tryz.underlying5
  have hl : t.data.toList.length = t.size := by simp
  have hcap := grownCap_ge w t.size 0 5
  have hrow0 := hide (hasRow.of_text w.drew w.heap.size 5 (grownCap w t.size 0 5) t hcap (Nat.le_refl _))
  have hbl0 := hide ((Below.refl w.heap.size w).drew.alloc (Nat.le_refl _) (.cells (bytesRow t (grownCap w t.size 0 5)) 5 ((bytesRow t (grownCap w t.size 0 5)).size, (bytesRow t (grownCap w t.size 0 5)).size + 1)))
  go_enter Tryz.func60, Tryz.ntmps60
  go_wp2_with (at_builtin; refine wpList_append_row rfl _ _ 22 rfl 5 i0 Tryz.underlying22 hi hz0 hz1 hz2 w.heap.size _ t.data.toList rfl ((hrow0.out.alloc _)) ⟨w.heap.size + 1, 0, none⟩ 1 [128] (by simp) rfl (one_byte 128 5 _ ?c1 rfl) ?c2 ?c3 ?_)
  case c1 => simp
  case c2 => rw [hl]; simp; omega
  case c3 => simp; omega
  intro v1 w1 hr1 hb1
  have hb := (hbl0.out.alloc hbl0.out.size _).trans hb1
  clear hrow0 hbl0 hb1 hcv hcap
  go_wp2_with fail
  go_loopw [3] (fun v wx => ∃ z, z ≤ zerosN t.size ∧ hasRow wx w.heap.size v (zRow t z) ∧ Below w.heap.size w wx) (fun v _ => zerosN t.size + t.size + 1 - lenA v)
  case atStart => exact ⟨0, Nat.zero_le _, by simpa [zRow] using hr1, hb⟩
  case round =>
    clear hr1 hb
    obtain ⟨z, hz, hr, hbl⟩ := hrel
    have HR := hide hr
    obtain ⟨g, cap, rfl, hg1, hg2⟩ := hr.form
    have hlen := zRow_len t z
    have hzz := hide (show z ≤ (119 - t.size % 64) % 64 from hz)
    obtain ⟨L, hL⟩ : ∃ L, L = (zRow t z).length := ⟨_, rfl⟩
    rw [← hL] at HR hlen ⊢
    have HL := hide hL
    have HL2 := hide hlen
    have hLb : L ≤ 4194400 := by have := hzz.out; omega
    have hsz := hbl.size
    clear hL hr hlen
    by_cases hq : L % 64 = 56
    · have hq' : (L : Int) % 64 = 56 := by omega
      have hzE : z = zerosN t.size := by
        have h1 := hzz.out
        have h2 := HL2.out
        unfold zerosN; omega
      have hr3 : hasRow wr w.heap.size (.slice (some ⟨g, 0, none⟩) L cap) (padded1 t ++ (List.range 0).map (lenB t.size)) := by
        have := HR.out; rw [hzE] at this; simpa [padded1, zRow] using this
      have HR3 := hide hr3
      clear hzE hr3 HR HL HL2 hzz hz
      go_wp2_with fail
      clear hq hq'
      go_loopw [3, 5] (fun v i wx => ∃ q m : Nat, q + m = 8 ∧ i = .int .i64 (8 * (q : Int) - 8) ∧ hasRow wx w.heap.size v (padded1 t ++ (List.range m).map (lenB t.size)) ∧ Below w.heap.size w wx) (fun _ i _ => (intOf i + 8).toNat)
      case atStart => exact ⟨8, 0, by omega, rfl, HR3.out, hbl⟩
      case round =>
        clear HR3 hbl hsz hg2
        obtain ⟨q, m, hqm, rfl, hr, hbl⟩ := hrel
        by_cases hq1 : 1 ≤ q
        · obtain ⟨p, hp⟩ : ∃ p : Nat, p = 8 * q - 8 := ⟨_, rfl⟩
          have hpi : 8 * (q : Int) - 8 = (p : Int) := by omega
          have hp56 : (p : Int) ≤ 56 := by omega
          have HP := hide hp
          have HX := hide (lenB_eq t.size m p q hqm hp hq1)
          have hlp : (padded1 t ++ (List.range m).map (lenB t.size)).length ≤ 4194500 := by
            rw [List.length_append, padded1_len, List.length_map, List.length_range]; unfold zerosN; omega
          have HLP := hide hlp
          have hsz := hbl.size
          rw [hpi]
          clear hp hpi hlp
          go_wp2_with (at_builtin; refine wpList_append_row rfl _ _ 22 rfl 5 i0 Tryz.underlying22 hi hz0 hz1 hz2 w.heap.size _ (padded1 t ++ (List.range m).map (lenB t.size)) rfl (hr.alloc _) ⟨wr.heap.size, 0, none⟩ 1 [lenB t.size m] (by simp) rfl (one_byte (lenB t.size m) 5 _ rfl HX.out) ?e2 ?e3 ?_)
          case e2 => have := HLP.out; simp only [List.length_singleton]; omega
          case e3 => simp; omega
          intro v2 w2 hr2 hb2
          have hr3 : hasRow w2 w.heap.size v2 (padded1 t ++ (List.range (m + 1)).map (lenB t.size)) := by
            rw [List.range_succ, List.map_append]; simpa using hr2
          have hb3 := (hbl.alloc hbl.size _).trans hb2
          clear hr hr2 hb2 HX HLP
          go_wp2_with fail
          have hpe := HP.out
          go_roundw
          case rel => exact ⟨q - 1, m + 1, by omega, int_eq (by omega), hr3, hb3⟩
          case measure => simp [intOf]; omega
        · have hm8 : m = 8 := by omega
          have hr8 : hasRow wr w.heap.size u3 (padded t) := by rw [hm8] at hr; exact hr
          have hq0 : 8 * (q : Int) - 8 < 0 := by omega
          clear hr hm8
          go_wp2_with fail
          --BLOCKS
          refine (spec_start _).mono ?_
          rintro e w1 ⟨rfl, hst, hb1⟩
          have hbl1 : Below w.heap.size w w1 := hbl.trans (hb1.mono hbl.size)
          have hr1 : hasRow w1 w.heap.size u3 (padded t) := hr8.below hb1
          have hc1 : ∀ j, j < 8 → w1.cell? ⟨wr.heap.size, j, none⟩ = some (.int .i64 (stAt (padded t) 0 j : Nat)) := fun j hj => hst.cell hj
          have hg1' := hst.lt
          have hsz := hbl.size
          obtain ⟨g3, hg3⟩ : ∃ x, x = wr.heap.size := ⟨_, rfl⟩
          rw [← hg3] at hc1 hg1' hsz ⊢
          clear hst hb1 hr8 hg3
          have HC1 := hide hc1
          obtain ⟨g4, cap4, rfl, hg41, hg42⟩ := hr1.form
          have hPl := padded_len t
          obtain ⟨PL, hPL⟩ : ∃ x, x = (padded t).length := ⟨_, rfl⟩
          obtain ⟨nb, hnb⟩ : ∃ x, x = PL / 64 := ⟨_, rfl⟩
          have hPLb : PL ≤ 4194600 := by rw [hPL, hPl]; unfold zerosN; omega
          have hcap4 : PL ≤ cap4 := by obtain ⟨_, _, e, _, _, h, _⟩ := hr1; cases e; rw [hPL]; exact h
          have HPL := hide (show PL = 64 * nb by rw [hPL] at hnb; rw [hPL, hnb, hPl]; unfold zerosN; omega)
          rw [← hPL] at hr1 ⊢
          have HR1 := hide hr1
          have HQ := hide hPL
          clear hPL hPl hnb hc1 hr1
          go_wp2_with fail
          go_loopw [6, 7] (fun s i wx => ∃ (m p g c : Nat), m ≤ nb ∧ Hid (p = 64 * m) ∧ i = .int .i64 p ∧ s = .slice (some ⟨g, 0, none⟩) 8 c ∧ w.heap.size ≤ g ∧ g < wx.heap.size ∧ Hid (∀ j, j < 8 → wx.cell? ⟨g, j, none⟩ = some (.int .i64 (stAt (padded t) m j : Nat))) ∧ Hid (hasRow wx w.heap.size (.slice (some ⟨g4, 0, none⟩) PL cap4) (padded t)) ∧ Below w.heap.size w wx) (fun _ i _ => PL - (intOf i).toNat)
          case atStart => exact ⟨0, 0, g3, 8, Nat.zero_le _, rfl, rfl, rfl, hsz, hg1', HC1.out, HR1.out, hbl1⟩
          case round =>
            clear HC1 HR1 hbl1 hg1' hbl
            obtain ⟨m, p, g5, c5, hm, hp, rfl, rfl, hg51, hg52, hc5, hr5, hbl5⟩ := hrel
            by_cases hlt : p < PL
            · have hp64 : p + 64 ≤ PL := by have h1 := hp.out; have h2 := HPL.out; omega
              have hlt' : (p : Int) < (PL : Int) := by omega
              have hcv := row_conv (P := Tryz.prog) (c := cap4 - p) hr5.out (show p + 64 ≤ (padded t).length by rw [← HQ.out]; exact hp64) Tryz.underlying22 Tryz.underlying5 Tryz.underlying9
              obtain ⟨B, hB⟩ : ∃ x : ByteArray, x = ⟨(((padded t).drop p).take 64).toArray⟩ := ⟨_, rfl⟩
              rw [← hB] at hcv
              have hBs : B.size = 64 := by
                rw [hB, size_mk, List.length_take, List.length_drop, ← HQ.out]; omega
              have HB := hide hB
              clear hB
              go_wp2_with fail
              refine (spec_block g5 c5 (stAt (padded t) m) B wr (stAt_lt _ m) hBs hg52 hc5.out).mono ?_
              rintro e w2 ⟨g6, c6, rfl, hg61, hg62, hc6, hb6⟩
              have hbl6 : Below w.heap.size w w2 := hbl5.trans (hb6.mono hbl5.size)
              have hr6 := hide (hr5.out.below hb6)
              have hc6' := hide (show ∀ j, j < 8 → w2.cell? ⟨g6, j, none⟩ = some (.int .i64 (stAt (padded t) (m + 1) j : Nat)) by
                intro j hj
                rw [hc6 j hj, HB.out, hp.out]; rfl)
              have hsz5 := hbl5.size
              clear hcv hc6 hb6 hr5 hc5 HB
              go_wp2_with fail
              go_roundw
              case rel => exact ⟨m + 1, p + 64, g6, c6, by have h1 := hp.out; have h2 := HPL.out; omega, by have h1 := hp.out; show p + 64 = 64 * (m + 1); omega, by go_num, rfl, by omega, hg62, hc6', hr6, hbl6⟩
              case measure => simp [intOf]; omega
            · have hmn : m = (padded t).length / 64 := by
                have h1 := hp.out
                have h2 := HPL.out
                rw [← HQ.out]; omega
              have HM := hide hmn
              have hszO := hbl5.size
              clear hmn
              go_wp2_with fail
              obtain ⟨ST, hST⟩ : ∃ f, f = stAt (padded t) m := ⟨_, rfl⟩
              have hSTb : ∀ j, ST j < 4294967296 := by rw [hST]; exact stAt_lt _ m
              rw [← hST] at hc5
              have HST := hide hST
              clear hST hr5
              go_loopw [8, 9] (fun v i wx => ∃ k : Nat, k ≤ 8 ∧ i = .int .i64 k ∧ hasRow wx (g5 + 1) v (outB ST k) ∧ Below (g5 + 1) wr wx) (fun _ i _ => 8 - (intOf i).toNat)
              case atStart => exact ⟨0, by omega, rfl, hasRow.made wr (g5 + 1) _ _ (by omega) rfl, (Below.refl _ _).alloc (by omega) _⟩
              case round =>
                obtain ⟨k, hk, rfl, hr, hb4⟩ := hrel
                have hs4 := hb4.size
                by_cases hlt : k < 8
                · have c : wr.cell? ⟨g5, k, none⟩ = some (.int .i64 (ST k : Nat)) := (hb4.cell (p := ⟨g5, k, none⟩) (Nat.lt_succ_self g5)).trans (hc5.out k hlt)
                  have hSb := hSTb k
                  obtain ⟨S, hS⟩ : ∃ x, x = ST k := ⟨_, rfl⟩
                  rw [← hS] at c hSb
                  have hSb' : (S : Int) ≤ 4294967295 := by omega
                  have HS := hide hS
                  clear hS
                  go_wp2_with (at_builtin; refine wpList_append_row rfl _ _ 22 rfl 5 i0 Tryz.underlying22 hi hz0 hz1 hz2 (g5 + 1) _ (outB ST k) rfl (hr.alloc _) ⟨wr.heap.size, 0, none⟩ 4 (wordB S) (by simp [wordB]) rfl (four_bytes wr S 5 hSb) ?f2 ?f3 ?_)
                  case f2 => rw [outB_len]; simp [wordB]; omega
                  case f3 => simp; omega
                  intro v2 w2 hr2 hb2
                  have hr3 : hasRow w2 (g5 + 1) v2 (outB ST (k + 1)) := by rw [← outB_succ, ← HS.out]; exact hr2
                  have hb3 := (hb4.alloc (by omega) _).trans hb2
                  clear hr hr2 hb2 c
                  go_wp2_with fail
                  go_roundw
                  case rel => exact ⟨k + 1, by omega, by go_num, hr3, hb3⟩
                  case measure => simp [intOf]; omega
                · have hcv := row_conv0 (P := Tryz.prog) hr Tryz.underlying22 Tryz.underlying5 Tryz.underlying9
                  have hE : outB ST k = digestL t := by
                    rw [show k = 8 by omega, HST.out, HM.out]; rfl
                  rw [hE] at hcv
                  clear hE hr
                  go_wp2_with fail
                  go_ret
                  exact ⟨rfl, hbl5.trans (hb4.mono (by omega))⟩
    · have hq' : ¬ (L : Int) % 64 = 56 := by omega
      go_wp2_with (at_builtin; refine wpList_append_row rfl _ _ 22 rfl 5 i0 Tryz.underlying22 hi hz0 hz1 hz2 w.heap.size _ (zRow t z) rfl ((HR.out.alloc _)) ⟨wr.heap.size, 0, none⟩ 1 [0] (by simp) rfl (one_byte 0 5 _ rfl rfl) ?d2 ?d3 ?_)
      case d2 => rw [← HL.out]; have := hzz.out; simp; omega
      case d3 => simp; omega
      intro v2 w2 hr2 hb2
      rw [zRow_succ] at hr2
      have hb3 := (hbl.alloc hbl.size _).trans hb2
      obtain ⟨g2, cap2, e2, _⟩ := hr2.form
      have hl2 := zRow_len t (z + 1)
      clear HR hb2
      go_wp2_with fail
      go_roundw
      case rel => exact ⟨z + 1, by have h1 := hzz.out; have h2 := HL2.out; unfold zerosN; omega, hr2, hb3⟩
      case measure =>
        have h1 := hzz.out
        have h2 := HL2.out
        rw [hl2] at e2
        subst e2
        simp only [lenA]
        unfold zerosN
        omega
end Go.Proofs.YtconcnndghmdfaaGreatDoor
namespace Go.Proofs.YtconcnndghmdfaaGreatDoor
open Go.RowKit Go Go.Lib

theorem wpList_copy_str {P : Program} {w : World} {ops : Array Oper} {rest : List Oper} {o : Oper} {a : Act} {Q : Exit → Act → World → Prop} (hgd : o.guard = none) (d s : Operand) (dT sT : TypeId)
    (ho : o.op = .call { callee := .builtin .copy, args := #[d, s], argTypes := #[dT, sT] }) (elem : TypeId) (hu : P.underlying dT = some (.slice elem)) (hsz : (P.info? elem).map (·.size) = some 1)
    (dp : Option Addr) (dLen dCap : Nat) (hd : a.eval d = .slice dp dLen dCap) (t : ByteArray) (hs : a.eval s = .string t)
    (g off : Nat) (cur : List Value) (ty : TypeId) (hg : w.heap[g]? = some (.cells cur.toArray ty (0, 0))) (hle : t.size ≤ dLen) (hpos : 0 < t.size → dp = some ⟨g, off, none⟩)
    (hfit : off + t.size ≤ cur.length) (B : Nat) (w0 : World) (hb : Below B w0 w) (hBg : B ≤ g)
    (h : ∀ w', Hid (w'.heap[g]? = some (.cells (splice cur off (t.data.toList.map byteV)).toArray ty (0, 0))) → Below B w0 w' → wpList P ops Q rest (a.put o.dst (goInt t.size)) w') :
    wpList P ops Q (o :: rest) a w := by
  have hsz' : ((P.info? elem).map (·.size)).isSome = true := by rw [hsz]; rfl
  have hsize : t.data.toList.length = t.size := by simp
  refine wpList_plain hgd fun K hK => ?_
  by_cases h0 : t.size = 0
  · have hrun := run_copy_empty_string (P := P) w dT sT o.type elem dp dLen dCap t hu hsz' h0
    have hnil : t.data.toList = [] := List.eq_nil_of_length_eq_zero (by rw [hsize]; exact h0)
    unfold Oper.wp
    simp [execOp, ho, resolve, invoke, builtin, hd, hs, hrun, Result.andThen]
    refine hK _ _ ?_
    have := h w (show _ = _ by rw [hnil]; simpa [splice] using hg) hb
    rw [h0] at this; exact this
  · obtain rfl := hpos (by omega)
    have hrun := run_copy_row_string (P := P) w dT sT o.type elem g off dLen dCap t cur.toArray ty hu hsz hg hle (by simpa using hfit)
    unfold Oper.wp
    simp [execOp, ho, resolve, invoke, builtin, hd, hs, hrun, Result.andThen]
    refine hK _ _ (h _ (show _ = _ from ?_) (below_setRow hb hBg _))
    have hrow := setRow_heap w g _ (cur.toArray.toList.take off ++ byteCells t.data.toList ++ cur.toArray.toList.drop (off + t.size)).toArray ty _ hg
    have e : (splice cur off (t.data.toList.map byteV)).toArray = (cur.toArray.toList.take off ++ byteCells t.data.toList ++ cur.toArray.toList.drop (off + t.size)).toArray := by
      unfold splice
      rw [List.length_map, hsize, List.append_assoc]
      rfl
    rw [e]
    simpa using hrow
end Go.Proofs.YtconcnndghmdfaaGreatDoor
namespace Go.Proofs.YtconcnndghmdfaaGreatDoor
open Go Go.RowKit
def u8V (f : Nat → UInt8) (j : Nat) : Value := .int .u8 ((f j).toNat : Int)
theorem r_xor8 (a b : UInt8) : bits .xor .u8 (a.toNat : Int) (b.toNat : Int) = (((a ^^^ b).toNat : Nat) : Int) := by
  have hx : a.toNat ^^^ b.toNat < 2 ^ 8 := Nat.xor_lt_two_pow a.toNat_lt b.toNat_lt
  have ha := a.toNat_lt
  have hb := b.toNat_lt
  show IntKind.u8.wrap ((BitVec.ofInt 8 (a.toNat : Int) ^^^ BitVec.ofInt 8 (b.toNat : Int)).toNat : Int) = _
  rw [BitVec.toNat_xor, BitVec.ofInt_natCast, BitVec.ofInt_natCast, BitVec.toNat_ofNat, BitVec.toNat_ofNat, IntKind.wrap_u8, UInt8.toNat_xor, Nat.mod_eq_of_lt ha, Nat.mod_eq_of_lt hb]
  omega
theorem set_byte {wr : World} {g t n k : Nat} {f : Nat → UInt8} {X : Nat} {Y : UInt8} (h : wr.rowIs g t n (u8V f)) (hX : X = Y.toNat) : (wr.setCell ⟨g, k, none⟩ (.int .u8 (X : Int))).rowIs g t n (u8V fun j => if j = k then Y else f j) := by
  subst hX
  refine (h.set k _).congr ?_
  intro i _
  simp only [u8V]
  split <;> rfl
theorem zeros8_row (n : Nat) (w : World) (c : Array Value) (t : Nat) (hc : c = (List.replicate n (Value.int .u8 0)).toArray) : (w.alloc (.cells c t)).rowIs w.heap.size t n (u8V fun _ => 0) := by
  subst hc
  have h := World.rowIs_alloc w (List.replicate n (Value.int .u8 0)).toArray t (u8V fun _ => 0) (by
    intro i hi
    have : i < n := by simpa using hi
    rw [List.getElem?_toArray, List.getElem?_replicate, if_pos this]; rfl)
  simpa using h
theorem conv_row {P : Program} {w : World} {g e src dst cap T n : Nat} {f : Nat → UInt8} {l : List UInt8} (h : w.rowIs g T n (u8V f)) (hl : ∀ j, j < n → l[j]? = some (f j)) (hn : l.length = n) (hs : P.underlying src = some (.slice e)) (he : P.underlying e = some (.int .u8)) (hd : P.underlying dst = some .string) :
    (convert src dst (.slice (some ⟨g, 0, none⟩) n cap)).run P w = .ok (.string ⟨l.toArray⟩) w := by
  have hr := run_convert_bytes_back (P := P) w src dst e ⟨g, 0, none⟩ cap l hs he hd (fun j hj => by
    have hc := h.cell (i := j) (by omega)
    have ea : (⟨g, 0, none⟩ : Addr).add j = ⟨g, j, none⟩ := by by_cases hz : j = 0 <;> simp [Addr.add, hz]
    have e2 := hl j (by omega)
    rw [List.getElem?_eq_getElem hj] at e2
    rw [ea, hc, Option.some.inj e2]
    rfl)
  rw [hn] at hr
  exact hr
end Go.Proofs.YtconcnndghmdfaaGreatDoor
