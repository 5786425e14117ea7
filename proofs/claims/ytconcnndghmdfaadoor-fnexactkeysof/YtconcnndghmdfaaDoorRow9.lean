/- Append onto a row of bytes told by its cells (Row8), with where the new row lies, in a region that draws its order too. No program is named here. -/
import Derived.Deep.AppendLies
import Derived.Test.YtconcnndghmdfaaDoorRow8
namespace Go.Proofs.YtconcnndghmdfaaDoor
open Go.RowKit Go

theorem grownBy_setCells : ∀ (vs : List Value) (o : Nat) (w : World) (b : Nat), w.grownBy (w.setCells b o vs) (some b)
  | [], _, w, _ => ⟨rfl, rfl, rfl, Nat.le_refl _, fun _ _ _ => rfl⟩
  | v :: vs, o, w, b => by
    have h := grownBy_setCells vs (o + 1) (w.setCell ⟨b, o, none⟩ v) b
    refine ⟨h.os, h.tape, h.output, ?_, fun k hk hr => ?_⟩
    · have h1 := h.size
      have h2 : (w.setCell ⟨b, o, none⟩ v).heap.size = w.heap.size := by simp [World.setCell]
      rw [h2] at h1; exact h1
    · have e := h.block k (by simpa [World.setCell] using hk) hr
      rw [Below.heap_setCell _ _ _ _ (by intro e; exact hr (by simp [e]))] at e
      exact e
theorem run_append_hasrow {P : Program} (w : World) (t ty e : TypeId) (i : TypeInfo) (h1 : P.underlying t = some (.slice e)) (h2 : P.info? e = some i) (h3 : i.zero = some (.int .u8 0)) (h4 : i.size = 1) (h5 : i.bytes = 1)
    (base : Nat) (v : Value) (l : List UInt8) (hrow : hasRow w base v l)
    (ad : Addr) (c : Nat) (k : List UInt8) (hne : k ≠ []) (hc : ∀ j u, (k.map byteV)[j]? = some u → w.cell? (ad.add j) = some u)
    (b2 : l.length + k.length ≤ 140737488355328) (hbase : base ≤ w.heap.size) :
    ∃ g' cap' w', (Builtin.append_ #[t, t] ty #[v, .slice (some ad) k.length c]).run P w = .ok (.slice (some ⟨g', 0, none⟩) (l ++ k).length cap') w' ∧ hasRow w' base (.slice (some ⟨g', 0, none⟩) (l ++ k).length cap') (l ++ k) ∧ w.grownBy w' v.ownBlock ∧ (v.ownBlock = some g' ∨ (g' = w.heap.size ∧ w.grownBy w' none)) := by
  obtain ⟨g, cap, rfl, hgb, hlt, hcap, hcells, hl⟩ := hrow
  have hll : (l ++ k).length = l.length + k.length := List.length_append
  by_cases hr : l.length + k.length ≤ cap
  · have hrun := run_append_room_cells (P := P) w t ty e i h1 h2 g 0 l.length cap ad k.length c (k.map byteV) (by rw [h4]; simp) hc (by
      intro u hu
      obtain ⟨y, _, rfl⟩ := List.mem_map.1 hu
      rfl) hr (fun j hj => by rw [List.length_map] at hj; rw [h4]; exact (hcells _ (by omega)).1) (fun j hj => by rw [List.length_map] at hj; rw [h4]; exact (hcells _ (by omega)).2)
    rw [h4] at hrun
    have hcs : ∀ j, j < (k.map byteV).length → (w.cell? ⟨g, 0 + l.length * 1 + j, none⟩).isSome = true := fun j hj => (hcells _ (by rw [List.length_map] at hj; omega)).1
    have hg := grownBy_setCells (k.map byteV) (0 + l.length * 1) w g
    refine ⟨g, cap, _, by rw [hll]; exact hrun, ⟨g, cap, rfl, hgb, Nat.lt_of_lt_of_le hlt hg.size, by rw [hll]; exact hr, fun j hj => ⟨?_, ?_⟩, fun j u hj => ?_⟩, hg, .inl rfl⟩
    · by_cases hin : l.length ≤ j ∧ j < l.length + k.length
      · have := World.cell?_setCells_in g (k.map byteV) (0 + l.length * 1) w hcs (j - l.length) (by rw [List.length_map]; omega)
        rw [show 0 + l.length * 1 + (j - l.length) = j by omega] at this
        rw [this]; rfl
      · rw [World.cell?_setCells_out g _ _ w ⟨g, j, none⟩ (fun _ _ => by rw [List.length_map]; show j < _ ∨ _ ≤ j; omega)]
        exact (hcells j hj).1
    · rw [World.frozen?_setCells]; exact (hcells j hj).2
    · by_cases hin : j < l.length
      · rw [World.cell?_setCells_out g _ _ w ⟨g, j, none⟩ (fun _ _ => by show j < _ ∨ _ ≤ j; omega)]
        rw [List.getElem?_append_left hin] at hj
        exact hl j u hj
      · rw [List.getElem?_append_right (by omega)] at hj
        have hjk : j - l.length < k.length := by
          rcases Nat.lt_or_ge (j - l.length) k.length with h | h
          · exact h
          · rw [List.getElem?_eq_none h] at hj; cases hj
        have := World.cell?_setCells_in g (k.map byteV) (0 + l.length * 1) w hcs (j - l.length) (by rw [List.length_map]; omega)
        rw [show 0 + l.length * 1 + (j - l.length) = j by omega] at this
        rw [this, List.getElem_map]
        rw [List.getElem?_eq_getElem hjk] at hj
        rw [Option.some.inj hj]
  · have holds : ∀ j u, (l.map byteV)[j]? = some u → w.cell? ((⟨g, 0, none⟩ : Addr).add j) = some u := by
      intro j u hj
      rw [List.getElem?_map] at hj
      obtain ⟨y, hy, rfl⟩ := Option.map_eq_some_iff.1 hj
      rw [Addr.add_lit, Nat.zero_add]; exact hl j y hy
    have hm : l.length + k.length ≤ maxLen := by unfold maxLen; omega
    have hge := grownCap_ge w (l.length + k.length) cap e
    have hcm : grownCap w (l.length + k.length) cap e ≤ maxLen := grownCap_le_maxLen w (l.length + k.length) cap e hm
    have hlen : (l.map byteV ++ k.map byteV).length = (l.length + k.length) * 1 := by rw [List.length_append, List.length_map, List.length_map, Nat.mul_one]
    have hrun := run_append_grow (P := P) w t ty e i (.int .u8 0) h1 h2 h3 ⟨g, 0, none⟩ l.length cap (l.map byteV) (by rw [h4]; simp) holds ad k.length c (k.map byteV) (by rw [h4]; simp) hc (by omega) (by omega) (by rw [h5]; exact growslice_fits (by omega) (by omega))
    rw [hll]
    refine ⟨w.heap.size, _, _, hrun, ?_, ⟨rfl, rfl, rfl, by simp, fun x hx _ => Below.heap_alloc w.drew _ x hx⟩, .inr ⟨rfl, ⟨rfl, rfl, rfl, by simp, fun x hx _ => Below.heap_alloc w.drew _ x hx⟩⟩⟩
    have hown : (w.drew.alloc (.cells ((l.map byteV).toArray ++ (k.map byteV).toArray ++ Builtin.zeroCells (Value.int .u8 0).cells (grownCap w (l.length + k.length) cap e - (l.length + k.length))) e)).ownsRow base e 1 (.slice (some ⟨w.heap.size, 0, none⟩) (l.length + k.length) (grownCap w (l.length + k.length) cap e)) (l.length + k.length) (l.map byteV ++ k.map byteV) := by
      refine ⟨hlen, .inr ⟨w.heap.size, _, _, rfl, hbase, heap_alloc_new w.drew _, hge, hcm, ?_, ?_⟩⟩
      · have hz1 : (Value.int IntKind.u8 0).cells.size = 1 := rfl
        simp only [Array.size_append, List.size_toArray, size_zeroCells, hz1, List.length_map]
        omega
      · simp only [Array.toList_append, List.append_assoc]
        rw [← List.append_assoc, ← hlen]
        exact List.take_left
    rw [← List.map_append] at hown
    have hown2 := hown
    rw [← hll] at hown2
    have h := hasRow.of_own hown2 (by simp [hne])
    rw [hll] at h
    exact h

theorem step_append_row {P : Program} {w : World} {ops : Array Oper} {o : Oper} {a : Act} {K : Act → World → Prop} {Q : Exit → Act → World → Prop} {E : Prop} (hgd : o.guard = none) (s x : Operand) (t : TypeId)
    (ho : o.op = .call { callee := .builtin .append, args := #[s, x], argTypes := #[t, t] })
    (e : TypeId) (i : TypeInfo) (h1 : P.underlying t = some (.slice e)) (h2 : P.info? e = some i) (h3 : i.zero = some (.int .u8 0)) (h4 : i.size = 1) (h5 : i.bytes = 1)
    (base : Nat) (v : Value) (l : List UInt8) (hs : a.eval s = v) (hrow : hasRow w base v l)
    (ad : Addr) (c : Nat) (k : List UInt8) (hne : k ≠ []) (hx : a.eval x = .slice (some ad) k.length c) (hc : ∀ j u, (k.map byteV)[j]? = some u → w.cell? (ad.add j) = some u)
    (b2 : l.length + k.length ≤ 140737488355328) (hbase : base ≤ w.heap.size)
    (h : ∀ g' cap' w', hasRow w' base (.slice (some ⟨g', 0, none⟩) (l ++ k).length cap') (l ++ k) → w.grownBy w' v.ownBlock → (v.ownBlock = some g' ∨ (g' = w.heap.size ∧ w.grownBy w' none)) → K (a.put o.dst (.slice (some ⟨g', 0, none⟩) (l ++ k).length cap')) w') :
    if Region.wanted o (yielded ops a.tmps) = true then Oper.wp P o a w K Q else E := by
  have hw : Region.wanted o (yielded ops a.tmps) = true := by simp [Region.wanted, hgd]
  rw [if_pos hw]
  obtain ⟨g', cap', w', hr, r2, r3, r4⟩ := run_append_hasrow (P := P) w t o.type e i h1 h2 h3 h4 h5 base v l hrow ad c k hne hc b2 hbase
  unfold Oper.wp execOp
  simp only [ho, resolve, invoke, builtin, Sem.run_bind, Sem.run_pure, Result.andThen_ok, List.map_toArray, List.map_cons, List.map_nil, hs, hx, hr]
  exact h g' cap' w' r2 r3 r4
theorem wpList_append_hasrow {P : Program} {w : World} {ops : Array Oper} {rest : List Oper} {o : Oper} {a : Act} {Q : Exit → Act → World → Prop} (hgd : o.guard = none) (s x : Operand) (t : TypeId)
    (ho : o.op = .call { callee := .builtin .append, args := #[s, x], argTypes := #[t, t] })
    (e : TypeId) (i : TypeInfo) (h1 : P.underlying t = some (.slice e)) (h2 : P.info? e = some i) (h3 : i.zero = some (.int .u8 0)) (h4 : i.size = 1) (h5 : i.bytes = 1)
    (base : Nat) (v : Value) (l : List UInt8) (hs : a.eval s = v) (hrow : hasRow w base v l)
    (ad : Addr) (c : Nat) (k : List UInt8) (hne : k ≠ []) (hx : a.eval x = .slice (some ad) k.length c) (hc : ∀ j u, (k.map byteV)[j]? = some u → w.cell? (ad.add j) = some u)
    (b2 : l.length + k.length ≤ 140737488355328) (hbase : base ≤ w.heap.size)
    (h : ∀ g' cap' w', hasRow w' base (.slice (some ⟨g', 0, none⟩) (l ++ k).length cap') (l ++ k) → w.grownBy w' v.ownBlock → (v.ownBlock = some g' ∨ (g' = w.heap.size ∧ w.grownBy w' none)) → wpList P ops Q rest (a.put o.dst (.slice (some ⟨g', 0, none⟩) (l ++ k).length cap')) w') :
    wpList P ops Q (o :: rest) a w := by
  refine wpList_plain hgd fun K hK => ?_
  obtain ⟨g', cap', w', hr, r2, r3, r4⟩ := run_append_hasrow (P := P) w t o.type e i h1 h2 h3 h4 h5 base v l hrow ad c k hne hc b2 hbase
  unfold Oper.wp execOp
  simp only [ho, resolve, invoke, builtin, Sem.run_bind, Sem.run_pure, Result.andThen_ok, List.map_toArray, List.map_cons, List.map_nil, hs, hx, hr]
  exact hK _ _ (h g' cap' w' r2 r3 r4)
theorem hasRow.kept {w w' : World} {base : Nat} {v : Value} {l : List UInt8} {r : Option Nat} (h : hasRow w base v l) (hg : w.grownBy w' r) (hr : v.ownBlock ≠ r) : hasRow w' base v l := by
  have h0 := h
  obtain ⟨g, cap, rfl, _, hlt, _⟩ := h0
  exact h.of_block fun k hk => by cases hk; exact ⟨Nat.lt_of_lt_of_le hlt hg.size, hg.block _ hlt hr⟩
theorem hasRow.facts {w : World} {base g n cap : Nat} {l : List UInt8} (h : hasRow w base (.slice (some ⟨g, 0, none⟩) n cap) l) : l.length = n ∧ n ≤ cap ∧ base ≤ g ∧ g < w.heap.size := by
  obtain ⟨g', cap', e, h1, h2, h3, _⟩ := h
  injection e with e1 e2 e3
  injection e1 with e1
  injection e1 with e1
  subst e1 e2 e3
  exact ⟨rfl, h3, h1, h2⟩
theorem hasRow.cell {w : World} {base g n cap : Nat} {l : List UInt8} (h : hasRow w base (.slice (some ⟨g, 0, none⟩) n cap) l) (j : Nat) (u : UInt8) (hu : l[j]? = some u) : w.cell? ⟨g, j, none⟩ = some (.int .u8 (u.toNat : Int)) := by
  obtain ⟨g', cap', e, _, _, _, _, hl⟩ := h
  injection e with e1 e2 e3
  injection e1 with e1
  injection e1 with e1
  subst e1
  exact hl j u hu
/-- Behind an append the old row's cells are as they were. -/
theorem app_cell {w w' : World} {base g n cap g' m cap' q : Nat} {l k : List UInt8} {u : UInt8} (hrow : hasRow w base (.slice (some ⟨g, 0, none⟩) n cap) l) (hr' : hasRow w' base (.slice (some ⟨g', 0, none⟩) m cap') (l ++ k))
    (hat : (Value.slice (some ⟨g, 0, none⟩) n cap).ownBlock = some g' ∨ (g' = w.heap.size ∧ w.grownBy w' none)) (hu : l[q]? = some u) : w'.cell? ⟨g, q, none⟩ = some (.int .u8 (u.toNat : Int)) := by
  rcases hat with h | ⟨_, h⟩
  · have e : g = g' := by simpa [Value.ownBlock] using h
    subst e
    refine hr'.cell q u ?_
    rw [List.getElem?_append_left (by rcases Nat.lt_or_ge q l.length with h | h; exact h; rw [List.getElem?_eq_none h] at hu; cases hu)]
    exact hu
  · have hlt := hrow.facts.2.2.2
    rw [World.grownBy.cell_far h ⟨g, q, none⟩ hlt (by simp)]
    exact hrow.cell q u hu
end Go.Proofs.YtconcnndghmdfaaDoor
