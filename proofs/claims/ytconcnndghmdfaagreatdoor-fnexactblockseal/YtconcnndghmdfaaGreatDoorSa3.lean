/- A row of bytes of the call's own, told by its cells alone (whatever mark its block bears): how it is born, appended to, read. No program is named here. -/
import Derived.ArgAppend
import Derived.Below
import Derived.Laws.IdiomStrings
import Derived.Test.YtconcnndghmdfaaGreatDoorSa1
namespace Go.Proofs.YtconcnndghmdfaaGreatDoor
open Go.RowKit Go

def hasRow (w : World) (base : Nat) (v : Value) (l : List UInt8) : Prop :=
  ∃ g cap, v = .slice (some ⟨g, 0, none⟩) l.length cap ∧ base ≤ g ∧ g < w.heap.size ∧ l.length ≤ cap ∧ (∀ j, j < cap → (w.cell? ⟨g, j, none⟩).isSome = true ∧ w.frozen? ⟨g, j, none⟩ = false) ∧ ∀ j u, l[j]? = some u → w.cell? ⟨g, j, none⟩ = some (byteV u)

theorem hasRow.of_own {w : World} {base e : Nat} {v : Value} {l : List UInt8} (h : w.ownsRow base e 1 v l.length (l.map byteV)) (hne : l ≠ []) : hasRow w base v l := by
  have h0 := h
  obtain ⟨_, ⟨_, hn⟩ | ⟨g, cap, cur, rfl, hg, hb, hcap, _, hsz, _⟩⟩ := h
  · exact absurd (List.length_eq_zero_iff.1 hn) hne
  · refine ⟨g, cap, rfl, hg, (h0.lt g rfl).2, hcap, fun j hj => ⟨?_, ?_⟩, fun j u hj => ?_⟩
    · simp only [World.cell?, hb]
      rw [Array.getElem?_eq_getElem (by omega)]; rfl
    · simp [World.frozen?, hb]
    · have hlt : j < l.length := by
        rcases Nat.lt_or_ge j l.length with h | h
        · exact h
        · rw [List.getElem?_eq_none h] at hj; cases hj
      have := h0.cellAt j (by omega)
      rw [this, List.getElem?_map, hj]; rfl

theorem hasRow.of_block {w w' : World} {base : Nat} {v : Value} {l : List UInt8} (h : hasRow w base v l) (hk : ∀ g, v.ownBlock = some g → g < w'.heap.size ∧ w'.heap[g]? = w.heap[g]?) : hasRow w' base v l := by
  obtain ⟨g, cap, rfl, hg, _, hc, hs, hl⟩ := h
  obtain ⟨h1, h2⟩ := hk g rfl
  refine ⟨g, cap, rfl, hg, h1, hc, fun j hj => ?_, fun j u hu => ?_⟩
  · rw [World.cell?_of_block (w := w) h2, World.frozen?_of_block (w := w) h2]; exact hs j hj
  · rw [World.cell?_of_block (w := w) h2]; exact hl j u hu
theorem hasRow.drew {w : World} {base : Nat} {v : Value} {l : List UInt8} (h : hasRow w base v l) : hasRow w.drew base v l := h
theorem hasRow.form {w : World} {base : Nat} {v : Value} {l : List UInt8} (h : hasRow w base v l) : ∃ g cap, v = .slice (some ⟨g, 0, none⟩) l.length cap ∧ base ≤ g ∧ g < w.heap.size := by
  obtain ⟨g, cap, e, h1, h2, _⟩ := h; exact ⟨g, cap, e, h1, h2⟩
/-- A byte laid into a block of its own, ahead of an append. -/
theorem one_byte {w : World} (x : UInt8) (t n : Nat) {X : Int} (hn : w.heap.size = n) (hX : X = (x.toNat : Int)) : ∀ (j : Nat) (u : Value), ([x].map byteV)[j]? = some u → (w.alloc (.cells #[.int .u8 X] t)).cell? ((⟨n, 0, none⟩ : Addr).add j) = some u := by
  subst hn hX; exact one_cell w (byteV x) t
theorem hasRow.alloc {w : World} {base : Nat} {v : Value} {l : List UInt8} (h : hasRow w base v l) (o : Obj) : hasRow (w.alloc o) base v l := by
  have h0 := h
  obtain ⟨g, cap, rfl, _, hlt, _⟩ := h0
  exact h.of_block fun k hk => by cases hk; exact ⟨by simp; omega, Below.heap_alloc _ _ _ hlt⟩
/-- '[]byte(s)'. -/
theorem hasRow.of_text (w : World) (base e cap : Nat) (s : ByteArray) (hcap : s.size ≤ cap) (hb : base ≤ w.heap.size) :
    hasRow (w.alloc (.cells (bytesRow s cap) e ((bytesRow s cap).size, (bytesRow s cap).size + 1))) base (.slice (some ⟨w.heap.size, 0, none⟩) s.size cap) s.data.toList := by
  have hsz : (bytesRow s cap).size = cap := by
    have : s.data.size = s.size := rfl
    unfold bytesRow; simp; omega
  have hh := heap_alloc_new w (.cells (bytesRow s cap) e ((bytesRow s cap).size, (bytesRow s cap).size + 1))
  refine ⟨w.heap.size, cap, by simp, hb, by simp, by simpa using hcap, fun j hj => ⟨?_, ?_⟩, fun j u hj => ?_⟩
  · simp only [World.cell?, hh]
    rw [Array.getElem?_eq_getElem (by omega)]; rfl
  · simp only [World.frozen?, hh]
    simp; omega
  · simp only [World.cell?, hh]
    have hlt : j < s.data.size := by
      rcases Nat.lt_or_ge j s.data.size with h | h
      · exact h
      · rw [List.getElem?_eq_none (by simpa using h)] at hj; cases hj
    rw [bytesRow_at s cap j hlt]
    have : s.data[j] = u := by
      rw [Array.getElem?_toList, Array.getElem?_eq_getElem hlt] at hj
      exact Option.some.inj hj
    rw [this]; rfl

theorem below_setCells {B : Nat} {a : World} : ∀ (vs : List Value) (o : Nat) (w : World) (b : Nat), Below B a w → B ≤ b → Below B a (w.setCells b o vs)
  | [], _, _, _, h, _ => h
  | _ :: vs, o, _, b, h, hb => below_setCells vs (o + 1) _ b (h.setCell hb _) hb

theorem wpList_append_row {P : Program} {w : World} {ops : Array Oper} {rest : List Oper} {o : Oper} {a : Act} {Q : Exit → Act → World → Prop}
    (hg : o.guard = none) (s x : Operand) (t : TypeId) (hop : o.op = Op.call { callee := Callee.builtin Builtin.append, args := #[s, x], argTypes := #[t, t] })
    (e : TypeId) (i : TypeInfo) (h1 : P.underlying t = some (.slice e)) (h2 : P.info? e = some i) (h3 : i.zero = some (.int .u8 0)) (h4 : i.size = 1) (h5 : i.bytes = 1)
    (base : Nat) (v : Value) (l : List UInt8) (hs : a.eval s = v) (hrow : hasRow w base v l)
    (ad : Addr) (c : Nat) (k : List UInt8) (hne : k ≠ []) (hx : a.eval x = .slice (some ad) k.length c) (hc : ∀ j u, (k.map byteV)[j]? = some u → w.cell? (ad.add j) = some u)
    (b2 : l.length + k.length ≤ 140737488355328) (hbase : base ≤ w.heap.size)
    (h : ∀ v' w', hasRow w' base v' (l ++ k) → Below base w w' → wpList P ops Q rest (a.put o.dst v') w') :
    wpList P ops Q (o :: rest) a w := by
  have hrow0 := hrow
  obtain ⟨g, cap, rfl, hgb, hlt, hcap, hcells, hl⟩ := hrow
  refine wpList_append_arg w hg s x t hop e i _ 1 1 h1 h2 h3 h4 h5 rfl (by omega) g 0 l.length cap (l.map byteV) hs (by simp) ?_ ad k.length c (k.map byteV) hx (by simp) hc ?_ ?_ (by unfold maxLen; omega) (by omega) ?_ ?_
  · intro j u hj
    rw [List.getElem?_map] at hj
    obtain ⟨y, hy, rfl⟩ := Option.map_eq_some_iff.1 hj
    rw [Nat.zero_add]; exact hl j y hy
  · intro u hu
    obtain ⟨y, _, rfl⟩ := List.mem_map.1 hu
    rfl
  · intro hr j hj
    rw [List.length_map] at hj
    exact hcells _ (by omega)
  · intro hr
    have hcs : ∀ j, j < (k.map byteV).length → (w.cell? ⟨g, 0 + l.length * 1 + j, none⟩).isSome = true := fun j hj => (hcells _ (by rw [List.length_map] at hj; omega)).1
    have hb := below_setCells (k.map byteV) (0 + l.length * 1) w g (Below.refl base w) hgb
    have he : (Value.slice (some ⟨g, 0, none⟩) (l.length + k.length) cap) = .slice (some ⟨g, 0, none⟩) (l ++ k).length cap := by rw [List.length_append]
    rw [he]
    refine h _ _ ⟨g, cap, rfl, hgb, Nat.lt_of_lt_of_le hlt hb.size, by rw [List.length_append]; exact hr, fun j hj => ⟨?_, ?_⟩, fun j u hj => ?_⟩ hb
    · by_cases hin : l.length ≤ j ∧ j < l.length + k.length
      · have := World.cell?_setCells_in g (k.map byteV) (0 + l.length * 1) w hcs (j - l.length) (by rw [List.length_map]; omega)
        rw [show 0 + l.length * 1 + (j - l.length) = j by omega] at this
        rw [this]; rfl
      · rw [World.cell?_setCells_out g _ _ w ⟨g, j, none⟩ (fun _ _ => by rw [List.length_map]; show j < _ ∨ _ ≤ j; omega)]
        exact (hcells j hj).1
    · rw [World.frozen?_setCells]; exact (hcells j hj).2
    · by_cases hin : j < l.length
      · rw [World.cell?_setCells_out g _ _ w ⟨g, j, none⟩ (fun _ _ => by show j < _ ∨ _ ≤ j; omega)]
        rw [List.getElem?_append_left hin] at hj
        exact hl j u hj
      · rw [List.getElem?_append_right (by omega)] at hj
        have hjk : j - l.length < k.length := by
          rcases Nat.lt_or_ge (j - l.length) k.length with h | h
          · exact h
          · rw [List.getElem?_eq_none h] at hj; cases hj
        have := World.cell?_setCells_in g (k.map byteV) (0 + l.length * 1) w hcs (j - l.length) (by rw [List.length_map]; omega)
        rw [show 0 + l.length * 1 + (j - l.length) = j by omega] at this
        rw [this, List.getElem_map]
        rw [List.getElem?_eq_getElem hjk] at hj
        rw [Option.some.inj hj]
  · intro _ v' w' hown hgr
    refine h v' w' (hasRow.of_own (e := e) ?_ (by simp [hne])) ((Below.refl _ _).grown hgr hbase (fun k hk => by cases hk))
    have hown' := hown
    rw [← List.map_append, ← List.length_append] at hown'
    obtain ⟨p, q⟩ := hown'
    refine ⟨p, ?_⟩
    rcases q with q | ⟨g', cap', cur, r1, r2, r3⟩
    · exact .inl q
    · exact .inr ⟨g', cap', cur, r1, by omega, r3⟩
theorem hasRow.below {w w' : World} {base : Nat} {v : Value} {l : List UInt8} (h : hasRow w base v l) (hb : Below w.heap.size w w') : hasRow w' base v l := by
  have h0 := h
  obtain ⟨g, cap, rfl, _, hlt, _⟩ := h0
  exact h.of_block fun k hk => by cases hk; exact ⟨Nat.lt_of_lt_of_le hlt hb.size, hb.block _ hlt⟩
theorem row_conv {P : Program} {w : World} {base g PL cap c p src dst e : Nat} {l : List UInt8} (h : hasRow w base (.slice (some ⟨g, 0, none⟩) PL cap) l) (hp : p + 64 ≤ l.length) (hs : P.underlying src = some (.slice e)) (he : P.underlying e = some (.int .u8)) (hd : P.underlying dst = some .string) :
    (convert src dst (.slice (some ⟨g, p, none⟩) 64 c)).run P w = .ok (.string ⟨((l.drop p).take 64).toArray⟩) w := by
  obtain ⟨g', cap', e1, _, _, _, _, hl⟩ := h
  cases e1
  have hn : ((l.drop p).take 64).length = 64 := by rw [List.length_take, List.length_drop]; omega
  have hr := run_convert_bytes_back (P := P) w src dst e ⟨g, p, none⟩ c ((l.drop p).take 64) hs he hd (fun j hj => by
    rw [hn] at hj
    have e2 : l[p + j]? = some (((l.drop p).take 64)[j]'(by omega)) := by
      rw [List.getElem_take, List.getElem_drop, List.getElem?_eq_getElem]
    have e3 : (⟨g, p, none⟩ : Addr).add j = ⟨g, p + j, none⟩ := by by_cases hz : j = 0 <;> simp [Addr.add, hz]
    rw [e3, hl _ _ e2]; rfl)
  rw [hn] at hr
  exact hr
theorem row_conv0 {P : Program} {w : World} {base src dst e : Nat} {v : Value} {l : List UInt8} (h : hasRow w base v l) (hs : P.underlying src = some (.slice e)) (he : P.underlying e = some (.int .u8)) (hd : P.underlying dst = some .string) :
    (convert src dst v).run P w = .ok (.string ⟨l.toArray⟩) w := by
  obtain ⟨g, cap, rfl, _, _, _, _, hl⟩ := h
  exact run_convert_bytes_back (P := P) w src dst e ⟨g, 0, none⟩ cap l hs he hd (fun j hj => by
    have e3 : (⟨g, 0, none⟩ : Addr).add j = ⟨g, j, none⟩ := by by_cases hz : j = 0 <;> simp [Addr.add, hz]
    rw [e3, hl j l[j] (List.getElem?_eq_getElem hj)]; rfl)
theorem hasRow.made (w : World) (base t n : Nat) (hb : base ≤ w.heap.size) (hn : w.heap.size = n) : hasRow (w.alloc (.cells #[] t)) base (.slice (some ⟨n, 0, none⟩) 0 0) [] := by
  subst hn
  exact ⟨w.heap.size, 0, rfl, hb, by simp, Nat.le_refl _, fun j hj => by omega, fun j u hu => by simp at hu⟩
end Go.Proofs.YtconcnndghmdfaaGreatDoor
