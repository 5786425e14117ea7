/- A row of bytes of the call's own that may begin anywhere in its block, and 'append(row, text...)' onto it. No program is named here. -/
import Derived.ArgAppend
import Derived.Below
import Derived.Lib.AppendStr
import Derived.Test.YtconcnndghmdfaaDoorOwn
import Derived.Test.YtconcnndghmdfaaDoorSrc
import Derived.Test.YtconcnndghmdfaaDoorRow8
namespace Go.Proofs.YtconcnndghmdfaaDoor
open Go.RowKit Go

/-- Block g is as it was. -/
def sameBlk (w w' : World) (g : Nat) : Prop := w'.heap[g]? = w.heap[g]?
/-- The value v is nil, or a row of bytes l, in a block from base on that is not hb. -/
def oRow (w : World) (base hb : Nat) (v : Value) (l : List UInt8) : Prop :=
  (v = .slice none 0 0 ∧ l = []) ∨
  ∃ g o cap, v = .slice (some ⟨g, o, none⟩) l.length cap ∧ base ≤ g ∧ g ≠ hb ∧ g < w.heap.size ∧ l.length ≤ cap ∧ (∀ j, j < cap → (w.cell? ⟨g, o + j, none⟩).isSome = true ∧ w.frozen? ⟨g, o + j, none⟩ = false) ∧ ∀ j u, l[j]? = some u → w.cell? ⟨g, o + j, none⟩ = some (byteV u)

theorem oRow.kept {w w' : World} {base hb : Nat} {v : Value} {l : List UInt8} (h : oRow w base hb v l) (hg : w.grownBy w' (some hb)) : oRow w' base hb v l := by
  rcases h with h | ⟨g, o, cap, rfl, h1, h2, h3, h4, h5, h6⟩
  · exact .inl h
  · have hbk := hg.block g h3 (by simpa using h2)
    refine .inr ⟨g, o, cap, rfl, h1, h2, Nat.lt_of_lt_of_le h3 hg.size, h4, fun j hj => ?_, fun j u hu => ?_⟩
    · rw [World.cell?_of_block (w := w) hbk, World.frozen?_of_block (w := w) hbk]; exact h5 j hj
    · rw [World.cell?_of_block (w := w) hbk]; exact h6 j u hu
theorem oRow.form {w : World} {base hb : Nat} {v : Value} {l : List UInt8} (h : oRow w base hb v l) : ∃ a cap, v = .slice a l.length cap := by
  rcases h with ⟨rfl, rfl⟩ | ⟨g, o, cap, rfl, _⟩
  · exact ⟨_, _, rfl⟩
  · exact ⟨_, _, rfl⟩
theorem setCells_other : ∀ (vs : List Value) (o : Nat) (w : World) (b k : Nat), k ≠ b → (w.setCells b o vs).heap[k]? = w.heap[k]?
  | [], _, _, _, _, _ => rfl
  | _ :: vs, o, w, b, k, h => by
    show ((w.setCell _ _).setCells b (o + 1) vs).heap[k]? = _
    rw [setCells_other vs (o + 1) _ b k h, Below.heap_setCell _ _ _ _ h]
theorem strCells_byteV (s : ByteArray) : Lib.strCells s = s.data.toList.map byteV := rfl
theorem strCells_get (s : ByteArray) (j : Nat) (u : UInt8) (h : s.data.toList[j]? = some u) : (Lib.strCells s)[j]? = some (byteV u) := by rw [strCells_byteV, List.getElem?_map, h]; rfl

theorem run_append_room_str {P : Program} (w : World) (t u ty e : TypeId) (i : TypeInfo) (ht : P.underlying t = some (.slice e)) (hu : P.underlying u = some .string) (hi : P.info? e = some i) (hs1 : i.size = 1)
    (b off sLen sCap : Nat) (s : ByteArray) (hroom : sLen + s.size ≤ sCap) (hc : ∀ j, j < s.size → (w.cell? ⟨b, off + sLen + j, none⟩).isSome = true) (hf : ∀ j, j < s.size → w.frozen? ⟨b, off + sLen + j, none⟩ = false) :
    (Builtin.append_ #[t, u] ty #[.slice (some ⟨b, off, none⟩) sLen sCap, .string s]).run P w = .ok (.slice (some ⟨b, off, none⟩) (sLen + s.size) sCap) (w.setCells b (off + sLen) (Lib.strCells s)) := by
  have hfc := Lib.run_firstCells_string (P := P) w 1 s
  have hst := run_storeCells_cells (P := P) b (off + sLen) (Lib.strCells s) 0 w (by simpa [Lib.strCells_length] using hc) (by simpa [Lib.strCells_length] using hf) (Lib.strCells_oneCell s)
  simp only [Nat.add_zero] at hst
  simp [Builtin.append_, run_underlying ht, run_underlying hu, sizeOf, typeInfo, hi, hs1, Builtin.lenOf, hroom, hfc, Addr.add_lit, hst]

theorem oRow.of_own {w : World} {base hb e : Nat} {v : Value} {l : List UInt8} (h : w.ownsRow base e 1 v l.length (l.map byteV)) (hb' : hb < base) : oRow w base hb v l := by
  have h0 := h
  obtain ⟨_, ⟨rfl, hn⟩ | ⟨g, cap, cur, rfl, hg, hbk, hcap, _, hsz, _⟩⟩ := h
  · exact .inl ⟨rfl, List.length_eq_zero_iff.1 hn⟩
  · refine .inr ⟨g, 0, cap, rfl, hg, by omega, (h0.lt g rfl).2, hcap, fun j hj => ⟨?_, ?_⟩, fun j u hj => ?_⟩
    · rw [Nat.zero_add]
      simp only [World.cell?, hbk]
      rw [Array.getElem?_eq_getElem (by omega)]; rfl
    · simp [World.frozen?, hbk]
    · have hlt : j < l.length := by
        rcases Nat.lt_or_ge j l.length with h | h
        · exact h
        · rw [List.getElem?_eq_none h] at hj; cases hj
      have := h0.cellAt j (by omega)
      rw [Nat.zero_add, this, List.getElem?_map, hj]; rfl

/-- The run of 'append(v, s...)'. -/
theorem run_append_orow {P : Program} (w : World) (t u ty e : TypeId) (i : TypeInfo) (ht : P.underlying t = some (.slice e)) (hu : P.underlying u = some .string) (hi : P.info? e = some i) (hz : i.zero = some (.int .u8 0)) (hsize : i.size = 1) (hby : i.bytes = 1)
    (base hb : Nat) (v : Value) (l : List UInt8) (hrow : oRow w base hb v l) (s : ByteArray) (hlen : l.length + s.size ≤ 140737488355328) (hbase : base ≤ w.heap.size) (hhb : hb < w.heap.size) :
    ∃ v' w', (Builtin.append_ #[t, u] ty #[v, .string s]).run P w = .ok v' w' ∧ oRow w' base hb v' (l ++ s.data.toList) ∧ Below base w w' ∧ w'.heap[hb]? = w.heap[hb]? := by
  have hm : l.length + s.size ≤ maxLen := by unfold maxLen; omega
  have hll : (l ++ s.data.toList).length = l.length + s.size := by rw [List.length_append]; rfl
  have hmap : (l ++ s.data.toList).map byteV = l.map byteV ++ Lib.strCells s := by rw [List.map_append]; rfl
  rcases hrow with ⟨rfl, rfl⟩ | ⟨g, o, cap, rfl, h1, h2, h3, h4, h5, h6⟩
  · obtain ⟨v', w', hr, hown, hgr, _⟩ := Lib.run_append_own_string (P := P) w w.heap.size t u ty e i ht hu hi hz hsize hby (.slice none 0 0) 0 [] (World.ownsRow_nil w _ e 1) s (by simpa using hm) (by simpa using hlen) (Nat.le_refl _)
    refine ⟨v', w', hr, ?_, (Below.refl _ _).grown hgr hbase (fun k hk => by cases hk), hgr.block hb hhb (by simp [Value.ownBlock])⟩
    have hown' : w'.ownsRow w.heap.size e 1 v' ([] ++ s.data.toList).length (([] ++ s.data.toList).map byteV) := by rw [hll, hmap]; simpa using hown
    have h := oRow.of_own hown' hhb
    rcases h with h | ⟨g, o, cap, a1, a2, a3⟩
    · exact .inl h
    · exact .inr ⟨g, o, cap, a1, by omega, a3⟩
  · by_cases hroom : l.length + s.size ≤ cap
    · have hc : ∀ j, j < s.size → (w.cell? ⟨g, o + l.length + j, none⟩).isSome = true := fun j hj => by rw [Nat.add_assoc]; exact (h5 (l.length + j) (by omega)).1
      have hf : ∀ j, j < s.size → w.frozen? ⟨g, o + l.length + j, none⟩ = false := fun j hj => by rw [Nat.add_assoc]; exact (h5 (l.length + j) (by omega)).2
      have hr := run_append_room_str (P := P) w t u ty e i ht hu hi hsize g o l.length cap s hroom hc hf
      have hB := below_setCells (Lib.strCells s) (o + l.length) w g (Below.refl base w) h1
      have hcs : ∀ j, j < (Lib.strCells s).length → (w.cell? ⟨g, o + l.length + j, none⟩).isSome = true := fun j hj => hc j (by rwa [Lib.strCells_length] at hj)
      refine ⟨_, _, hr, .inr ⟨g, o, cap, by rw [hll], h1, h2, Nat.lt_of_lt_of_le h3 hB.size, by rw [hll]; exact hroom, fun j hj => ⟨?_, ?_⟩, fun j u hj => ?_⟩, hB, ?_⟩
      · by_cases hin : l.length ≤ j ∧ j < l.length + s.size
        · have := World.cell?_setCells_in g (Lib.strCells s) (o + l.length) w hcs (j - l.length) (by rw [Lib.strCells_length]; omega)
          rw [show o + l.length + (j - l.length) = o + j by omega] at this
          rw [this]; rfl
        · rw [World.cell?_setCells_out g _ _ w ⟨g, o + j, none⟩ (fun _ _ => by rw [Lib.strCells_length]; show o + j < _ ∨ _ ≤ o + j; omega)]
          exact (h5 j hj).1
      · rw [World.frozen?_setCells]; exact (h5 j hj).2
      · by_cases hin : j < l.length
        · rw [World.cell?_setCells_out g _ _ w ⟨g, o + j, none⟩ (fun _ _ => by show o + j < _ ∨ _ ≤ o + j; omega)]
          rw [List.getElem?_append_left hin] at hj
          exact h6 j u hj
        · rw [List.getElem?_append_right (by omega)] at hj
          have hjk : j - l.length < (Lib.strCells s).length := by
            rw [Lib.strCells_length]
            rcases Nat.lt_or_ge (j - l.length) s.size with h | h
            · exact h
            · rw [List.getElem?_eq_none (by simpa using h)] at hj; cases hj
          have := World.cell?_setCells_in g (Lib.strCells s) (o + l.length) w hcs (j - l.length) hjk
          rw [show o + l.length + (j - l.length) = o + j by omega] at this
          rw [this]
          have e2 := strCells_get s _ _ hj
          rw [List.getElem?_eq_getElem hjk] at e2
          rw [Option.some.inj e2]
      · exact setCells_other (Lib.strCells s) (o + l.length) w g hb (fun e => h2 e.symm)
    · have holds : ∀ j x, (l.map byteV)[j]? = some x → w.cell? ((⟨g, o, none⟩ : Addr).add j) = some x := fun j x hx => by
        rw [List.getElem?_map] at hx
        obtain ⟨y, hy, rfl⟩ := Option.map_eq_some_iff.1 hx
        rw [Addr.add_lit]; exact h6 j y hy
      have hr := Lib.run_append_grow_string (P := P) w t u ty e i (.int .u8 0) ht hu hi hz ⟨g, o, none⟩ l.length cap (l.map byteV) (by rw [hsize]; simp) holds s (by omega) (by omega) (by rw [hby]; exact growslice_fits (by omega) (by omega))
      have hge := grownCap_ge w (l.length + s.size) cap e
      have hcm : grownCap w (l.length + s.size) cap e ≤ maxLen := grownCap_le_maxLen w (l.length + s.size) cap e hm
      have hgrow : w.grownBy (w.drew.alloc (.cells ((l.map byteV).toArray ++ (Lib.strCells s).toArray ++ Builtin.zeroCells (Value.int .u8 0).cells (grownCap w (l.length + s.size) cap e - (l.length + s.size))) e)) none := ⟨rfl, rfl, rfl, by simp, fun k hk _ => Below.heap_alloc w.drew _ k hk⟩
      refine ⟨_, _, hr, ?_, (Below.refl _ _).grown hgrow hbase (fun k hk => by cases hk), hgrow.block hb hhb (by simp)⟩
      have hown : (w.drew.alloc (.cells ((l.map byteV).toArray ++ (Lib.strCells s).toArray ++ Builtin.zeroCells (Value.int .u8 0).cells (grownCap w (l.length + s.size) cap e - (l.length + s.size))) e)).ownsRow w.heap.size e 1 (.slice (some ⟨w.heap.size, 0, none⟩) (l.length + s.size) (grownCap w (l.length + s.size) cap e)) (l.length + s.size) (l.map byteV ++ Lib.strCells s) := by
        have hlen2 : (l.map byteV ++ Lib.strCells s).length = (l.length + s.size) * 1 := by rw [List.length_append, List.length_map, Lib.strCells_length, Nat.mul_one]
        refine ⟨hlen2, .inr ⟨w.heap.size, _, _, rfl, Nat.le_refl _, heap_alloc_new w.drew _, hge, hcm, ?_, ?_⟩⟩
        · have hz1 : (Value.int IntKind.u8 0).cells.size = 1 := rfl
          simp only [Array.size_append, List.size_toArray, size_zeroCells, hz1, List.length_map, Lib.strCells_length]
          omega
        · simp only [Array.toList_append, List.append_assoc]
          rw [← List.append_assoc, ← hlen2]
          exact List.take_left
      rw [← hmap, ← hll] at hown
      have h := oRow.of_own hown hhb
      rw [hll] at h
      rcases h with h | ⟨g', o', cap', a1, a2, a3⟩
      · exact .inl h
      · exact .inr ⟨g', o', cap', a1, by omega, a3⟩
theorem wpList_append_orow {P : Program} {w : World} {ops : Array Oper} {rest : List Oper} {o : Oper} {a : Act} {Q : Exit → Act → World → Prop}
    (hgd : o.guard = none) (sl x : Operand) (t u : TypeId) (hop : o.op = Op.call { callee := Callee.builtin Builtin.append, args := #[sl, x], argTypes := #[t, u] })
    (e : TypeId) (i : TypeInfo) (ht : P.underlying t = some (.slice e)) (hu : P.underlying u = some .string) (hi : P.info? e = some i) (hz : i.zero = some (.int .u8 0)) (hsize : i.size = 1) (hby : i.bytes = 1)
    (base hb : Nat) (v : Value) (l : List UInt8) (hs : a.eval sl = v) (hrow : oRow w base hb v l) (s : ByteArray) (hx : a.eval x = .string s) (hlen : l.length + s.size ≤ 140737488355328) (hbase : base ≤ w.heap.size) (hhb : hb < w.heap.size)
    (h : ∀ v' w', oRow w' base hb v' (l ++ s.data.toList) → Below base w w' → sameBlk w w' hb → wpList P ops Q rest (a.put o.dst v') w') :
    wpList P ops Q (o :: rest) a w := by
  refine wpList_plain hgd fun K hK => ?_
  obtain ⟨v', w', hr, h2, h3, h4⟩ := run_append_orow (P := P) w t u o.type e i ht hu hi hz hsize hby base hb v l hrow s hlen hbase hhb
  unfold Oper.wp execOp
  simp only [hop, resolve, invoke, builtin, Sem.run_bind, Sem.run_pure, Result.andThen_ok, List.map_toArray, List.map_cons, List.map_nil, hs, hx, hr]
  exact hK _ _ (h v' w' h2 h3 h4)
end Go.Proofs.YtconcnndghmdfaaDoor
