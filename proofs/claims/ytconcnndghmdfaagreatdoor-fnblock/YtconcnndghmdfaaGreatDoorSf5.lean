/- Put together: Row9, RowC, AesM. -/
import Derived.Test.YtconcnndghmdfaaGreatDoorSf4
namespace Go.Proofs.YtconcnndghmdfaaGreatDoor
open Go.RowKit Go
theorem grownBy_setCells : ∀ (vs : List Value) (o : Nat) (w : World) (b : Nat), w.grownBy (w.setCells b o vs) (some b)
 | [], _, w, _ => ⟨rfl, rfl, rfl, Nat.le_refl _, fun _ _ _ => rfl⟩
 | v :: vs, o, w, b => by
   have h := grownBy_setCells vs (o + 1) (w.setCell ⟨b, o, none⟩ v) b
   refine ⟨h.os, h.tape, h.output, ?_, fun k hk hr => ?_⟩
   · have h1 := h.size
     have h2 : (w.setCell ⟨b, o, none⟩ v).heap.size = w.heap.size := by simp [World.setCell]
     rw [h2] at h1; exact h1
   · have e := h.block k (by simpa [World.setCell] using hk) hr
     rw [Below.heap_setCell _ _ _ _ (by intro e; exact hr (by simp [e]))] at e
     exact e
theorem run_append_hasrow {P : Program} (w : World) (t ty e : TypeId) (i : TypeInfo) (h1 : P.underlying t = some (.slice e)) (h2 : P.info? e = some i) (h3 : i.zero = some (.int .u8 0)) (h4 : i.size = 1) (h5 : i.bytes = 1)
 (base : Nat) (v : Value) (l : List UInt8) (hrow : hasRow w base v l)
 (ad : Addr) (c : Nat) (k : List UInt8) (hne : k ≠ []) (hc : ∀ j u, (k.map byteV)[j]? = some u → w.cell? (ad.add j) = some u)
 (b2 : l.length + k.length ≤ 140737488355328) (hbase : base ≤ w.heap.size) :
 ∃ g' cap' w', (Builtin.append_ #[t, t] ty #[v, .slice (some ad) k.length c]).run P w = .ok (.slice (some ⟨g', 0, none⟩) (l ++ k).length cap') w' ∧ hasRow w' base (.slice (some ⟨g', 0, none⟩) (l ++ k).length cap') (l ++ k) ∧ w.grownBy w' v.ownBlock ∧ (v.ownBlock = some g' ∨ (g' = w.heap.size ∧ w.grownBy w' none)) := by
 obtain ⟨g, cap, rfl, hgb, hlt, hcap, hcells, hl⟩ := hrow
 have hll : (l ++ k).length = l.length + k.length := List.length_append
 by_cases hr : l.length + k.length ≤ cap
 · have hrun := run_append_room_cells (P := P) w t ty e i h1 h2 g 0 l.length cap ad k.length c (k.map byteV) (by rw [h4]; simp) hc (by
    intro u hu
    obtain ⟨y, _, rfl⟩ := List.mem_map.1 hu
    rfl) hr (fun j hj => by rw [List.length_map] at hj; rw [h4]; exact (hcells _ (by omega)).1) (fun j hj => by rw [List.length_map] at hj; rw [h4]; exact (hcells _ (by omega)).2)
   rw [h4] at hrun
   have hcs : ∀ j, j < (k.map byteV).length → (w.cell? ⟨g, 0 + l.length * 1 + j, none⟩).isSome = true := fun j hj => (hcells _ (by rw [List.length_map] at hj; omega)).1
   have hg := grownBy_setCells (k.map byteV) (0 + l.length * 1) w g
   refine ⟨g, cap, _, by rw [hll]; exact hrun, ⟨g, cap, rfl, hgb, Nat.lt_of_lt_of_le hlt hg.size, by rw [hll]; exact hr, fun j hj => ⟨?_, ?_⟩, fun j u hj => ?_⟩, hg, .inl rfl⟩
   · by_cases hin : l.length ≤ j ∧ j < l.length + k.length
     · have := World.cell?_setCells_in g (k.map byteV) (0 + l.length * 1) w hcs (j - l.length) (by rw [List.length_map]; omega)
       rw [show 0 + l.length * 1 + (j - l.length) = j by omega] at this
       rw [this]; rfl
     · rw [World.cell?_setCells_out g _ _ w ⟨g, j, none⟩ (fun _ _ => by rw [List.length_map]; show j < _ ∨ _ ≤ j; omega)]
       exact (hcells j hj).1
   · rw [World.frozen?_setCells]; exact (hcells j hj).2
   · by_cases hin : j < l.length
     · rw [World.cell?_setCells_out g _ _ w ⟨g, j, none⟩ (fun _ _ => by show j < _ ∨ _ ≤ j; omega)]
       rw [List.getElem?_append_left hin] at hj
       exact hl j u hj
     · rw [List.getElem?_append_right (by omega)] at hj
       have hjk : j - l.length < k.length := by
        rcases Nat.lt_or_ge (j - l.length) k.length with h | h
        · exact h
        · rw [List.getElem?_eq_none h] at hj; cases hj
       have := World.cell?_setCells_in g (k.map byteV) (0 + l.length * 1) w hcs (j - l.length) (by rw [List.length_map]; omega)
       rw [show 0 + l.length * 1 + (j - l.length) = j by omega] at this
       rw [this, List.getElem_map]
       rw [List.getElem?_eq_getElem hjk] at hj
       rw [Option.some.inj hj]
 · have holds : ∀ j u, (l.map byteV)[j]? = some u → w.cell? ((⟨g, 0, none⟩ : Addr).add j) = some u := by
    intro j u hj
    rw [List.getElem?_map] at hj
    obtain ⟨y, hy, rfl⟩ := Option.map_eq_some_iff.1 hj
    rw [Addr.add_lit, Nat.zero_add]; exact hl j y hy
   have hm : l.length + k.length ≤ maxLen := by unfold maxLen; omega
   have hge := grownCap_ge w (l.length + k.length) cap e
   have hcm : grownCap w (l.length + k.length) cap e ≤ maxLen := grownCap_le_maxLen w (l.length + k.length) cap e hm
   have hlen : (l.map byteV ++ k.map byteV).length = (l.length + k.length) * 1 := by rw [List.length_append, List.length_map, List.length_map, Nat.mul_one]
   have hrun := run_append_grow (P := P) w t ty e i (.int .u8 0) h1 h2 h3 ⟨g, 0, none⟩ l.length cap (l.map byteV) (by rw [h4]; simp) holds ad k.length c (k.map byteV) (by rw [h4]; simp) hc (by omega) (by omega) (by rw [h5]; exact growslice_fits (by omega) (by omega))
   rw [hll]
   refine ⟨w.heap.size, _, _, hrun, ?_, ⟨rfl, rfl, rfl, by simp, fun x hx _ => Below.heap_alloc w.drew _ x hx⟩, .inr ⟨rfl, ⟨rfl, rfl, rfl, by simp, fun x hx _ => Below.heap_alloc w.drew _ x hx⟩⟩⟩
   have hown : (w.drew.alloc (.cells ((l.map byteV).toArray ++ (k.map byteV).toArray ++ Builtin.zeroCells (Value.int .u8 0).cells (grownCap w (l.length + k.length) cap e - (l.length + k.length))) e)).ownsRow base e 1 (.slice (some ⟨w.heap.size, 0, none⟩) (l.length + k.length) (grownCap w (l.length + k.length) cap e)) (l.length + k.length) (l.map byteV ++ k.map byteV) := by
    refine ⟨hlen, .inr ⟨w.heap.size, _, _, rfl, hbase, heap_alloc_new w.drew _, hge, hcm, ?_, ?_⟩⟩
    · have hz1 : (Value.int IntKind.u8 0).cells.size = 1 := rfl
      simp only [Array.size_append, List.size_toArray, size_zeroCells, hz1, List.length_map]
      omega
    · simp only [Array.toList_append, List.append_assoc]
      rw [← List.append_assoc, ← hlen]
      exact List.take_left
   rw [← List.map_append] at hown
   have hown2 := hown
   rw [← hll] at hown2
   have h := hasRow.of_own hown2 (by simp [hne])
   rw [hll] at h
   exact h
theorem step_append_row {P : Program} {w : World} {ops : Array Oper} {o : Oper} {a : Act} {K : Act → World → Prop} {Q : Exit → Act → World → Prop} {E : Prop} (hgd : o.guard = none) (s x : Operand) (t : TypeId)
 (ho : o.op = .call { callee := .builtin .append, args := #[s, x], argTypes := #[t, t] })
 (e : TypeId) (i : TypeInfo) (h1 : P.underlying t = some (.slice e)) (h2 : P.info? e = some i) (h3 : i.zero = some (.int .u8 0)) (h4 : i.size = 1) (h5 : i.bytes = 1)
 (base : Nat) (v : Value) (l : List UInt8) (hs : a.eval s = v) (hrow : hasRow w base v l)
 (ad : Addr) (c : Nat) (k : List UInt8) (hne : k ≠ []) (hx : a.eval x = .slice (some ad) k.length c) (hc : ∀ j u, (k.map byteV)[j]? = some u → w.cell? (ad.add j) = some u)
 (b2 : l.length + k.length ≤ 140737488355328) (hbase : base ≤ w.heap.size)
 (h : ∀ g' cap' w', hasRow w' base (.slice (some ⟨g', 0, none⟩) (l ++ k).length cap') (l ++ k) → w.grownBy w' v.ownBlock → (v.ownBlock = some g' ∨ (g' = w.heap.size ∧ w.grownBy w' none)) → K (a.put o.dst (.slice (some ⟨g', 0, none⟩) (l ++ k).length cap')) w') :
 if Region.wanted o (yielded ops a.tmps) = true then Oper.wp P o a w K Q else E := by
 have hw : Region.wanted o (yielded ops a.tmps) = true := by simp [Region.wanted, hgd]
 rw [if_pos hw]
 obtain ⟨g', cap', w', hr, r2, r3, r4⟩ := run_append_hasrow (P := P) w t o.type e i h1 h2 h3 h4 h5 base v l hrow ad c k hne hc b2 hbase
 unfold Oper.wp execOp
 simp only [ho, resolve, invoke, builtin, Sem.run_bind, Sem.run_pure, Result.andThen_ok, List.map_toArray, List.map_cons, List.map_nil, hs, hx, hr]
 exact h g' cap' w' r2 r3 r4
theorem wpList_append_hasrow {P : Program} {w : World} {ops : Array Oper} {rest : List Oper} {o : Oper} {a : Act} {Q : Exit → Act → World → Prop} (hgd : o.guard = none) (s x : Operand) (t : TypeId)
 (ho : o.op = .call { callee := .builtin .append, args := #[s, x], argTypes := #[t, t] })
 (e : TypeId) (i : TypeInfo) (h1 : P.underlying t = some (.slice e)) (h2 : P.info? e = some i) (h3 : i.zero = some (.int .u8 0)) (h4 : i.size = 1) (h5 : i.bytes = 1)
 (base : Nat) (v : Value) (l : List UInt8) (hs : a.eval s = v) (hrow : hasRow w base v l)
 (ad : Addr) (c : Nat) (k : List UInt8) (hne : k ≠ []) (hx : a.eval x = .slice (some ad) k.length c) (hc : ∀ j u, (k.map byteV)[j]? = some u → w.cell? (ad.add j) = some u)
 (b2 : l.length + k.length ≤ 140737488355328) (hbase : base ≤ w.heap.size)
 (h : ∀ g' cap' w', hasRow w' base (.slice (some ⟨g', 0, none⟩) (l ++ k).length cap') (l ++ k) → w.grownBy w' v.ownBlock → (v.ownBlock = some g' ∨ (g' = w.heap.size ∧ w.grownBy w' none)) → wpList P ops Q rest (a.put o.dst (.slice (some ⟨g', 0, none⟩) (l ++ k).length cap')) w') :
 wpList P ops Q (o :: rest) a w := by
 refine wpList_plain hgd fun K hK => ?_
 obtain ⟨g', cap', w', hr, r2, r3, r4⟩ := run_append_hasrow (P := P) w t o.type e i h1 h2 h3 h4 h5 base v l hrow ad c k hne hc b2 hbase
 unfold Oper.wp execOp
 simp only [ho, resolve, invoke, builtin, Sem.run_bind, Sem.run_pure, Result.andThen_ok, List.map_toArray, List.map_cons, List.map_nil, hs, hx, hr]
 exact hK _ _ (h g' cap' w' r2 r3 r4)
theorem hasRow.kept {w w' : World} {base : Nat} {v : Value} {l : List UInt8} {r : Option Nat} (h : hasRow w base v l) (hg : w.grownBy w' r) (hr : v.ownBlock ≠ r) : hasRow w' base v l := by
 have h0 := h
 obtain ⟨g, cap, rfl, _, hlt, _⟩ := h0
 exact h.of_block fun k hk => by cases hk; exact ⟨Nat.lt_of_lt_of_le hlt hg.size, hg.block _ hlt hr⟩
theorem hasRow.facts {w : World} {base g n cap : Nat} {l : List UInt8} (h : hasRow w base (.slice (some ⟨g, 0, none⟩) n cap) l) : l.length = n ∧ n ≤ cap ∧ base ≤ g ∧ g < w.heap.size := by
 obtain ⟨g', cap', e, h1, h2, h3, _⟩ := h
 injection e with e1 e2 e3
 injection e1 with e1
 injection e1 with e1
 subst e1 e2 e3
 exact ⟨rfl, h3, h1, h2⟩
theorem hasRow.cell {w : World} {base g n cap : Nat} {l : List UInt8} (h : hasRow w base (.slice (some ⟨g, 0, none⟩) n cap) l) (j : Nat) (u : UInt8) (hu : l[j]? = some u) : w.cell? ⟨g, j, none⟩ = some (.int .u8 (u.toNat : Int)) := by
 obtain ⟨g', cap', e, _, _, _, _, hl⟩ := h
 injection e with e1 e2 e3
 injection e1 with e1
 injection e1 with e1
 subst e1
 exact hl j u hu
theorem app_cell {w w' : World} {base g n cap g' m cap' q : Nat} {l k : List UInt8} {u : UInt8} (hrow : hasRow w base (.slice (some ⟨g, 0, none⟩) n cap) l) (hr' : hasRow w' base (.slice (some ⟨g', 0, none⟩) m cap') (l ++ k))
 (hat : (Value.slice (some ⟨g, 0, none⟩) n cap).ownBlock = some g' ∨ (g' = w.heap.size ∧ w.grownBy w' none)) (hu : l[q]? = some u) : w'.cell? ⟨g, q, none⟩ = some (.int .u8 (u.toNat : Int)) := by
 rcases hat with h | ⟨_, h⟩
 · have e : g = g' := by simpa [Value.ownBlock] using h
   subst e
   refine hr'.cell q u ?_
   rw [List.getElem?_append_left (by rcases Nat.lt_or_ge q l.length with h | h; exact h; rw [List.getElem?_eq_none h] at hu; cases hu)]
   exact hu
 · have hlt := hrow.facts.2.2.2
   rw [World.grownBy.cell_far h ⟨g, q, none⟩ hlt (by simp)]
   exact hrow.cell q u hu
end Go.Proofs.YtconcnndghmdfaaGreatDoor
namespace Go.Proofs.YtconcnndghmdfaaGreatDoor
open Go Go.RowKit
theorem w_add {a b q : Nat} (h : a + b = q) (hq : q ≤ 4611686018427387904) : IntKind.i64.wrap ((a : Int) + (b : Int)) = (q : Int) := by simp only [IntKind.wrap_i64]; omega
theorem w_mul {a b q : Nat} (h : a * b = q) (hq : q ≤ 4611686018427387904) : IntKind.i64.wrap ((a : Int) * (b : Int)) = (q : Int) := by
 have e : (a : Int) * (b : Int) = (q : Int) := by rw [← h]; simp
 rw [e]; simp only [IntKind.wrap_i64]; omega
theorem cell_far {wr : World} {o g q k : Nat} {v x : Value} (d : o ≠ g) (c : wr.cell? ⟨g, q, none⟩ = some x) : (wr.setCell ⟨o, k, none⟩ v).cell? ⟨g, q, none⟩ = some x :=
 (World.cell?_setCell_other wr ⟨o, k, none⟩ ⟨g, q, none⟩ v (by intro e; injection e with e1; exact d e1)).trans c
def rowC (w : World) (g n : Nat) (f : Nat → UInt8) : Prop := g < w.heap.size ∧ ∀ j, j < n → w.cell? ⟨g, j, none⟩ = some (.int .u8 ((f j).toNat : Int)) ∧ w.frozen? ⟨g, j, none⟩ = false
theorem rowC.drew {w : World} {g n : Nat} {f : Nat → UInt8} (h : rowC w g n f) : rowC w.drew g n f := h
theorem rowC.of_block {w w' : World} {g n : Nat} {f : Nat → UInt8} (h : rowC w g n f) (hs : g < w'.heap.size) (hb : w'.heap[g]? = w.heap[g]?) : rowC w' g n f :=
 ⟨hs, fun j hj => by rw [World.cell?_of_block (w := w) hb, World.frozen?_of_block (w := w) hb]; exact h.2 j hj⟩
theorem rowC.below {w w' : World} {g n : Nat} {f : Nat → UInt8} (h : rowC w g n f) (hb : Below w.heap.size w w') : rowC w' g n f := h.of_block (Nat.lt_of_lt_of_le h.1 hb.size) (hb.block g h.1)
theorem rowC.alloc {w : World} {g n : Nat} {f : Nat → UInt8} (h : rowC w g n f) (o : Obj) : rowC (w.alloc o) g n f := h.below ((Below.refl _ _).alloc (Nat.le_refl _) _)
theorem rowC.far {w : World} {g n o k : Nat} {v : Value} {f : Nat → UInt8} (h : rowC w g n f) (d : g ≠ o) : rowC (w.setCell ⟨o, k, none⟩ v) g n f :=
 h.of_block (by have := h.1; simpa [World.setCell] using this) (Below.heap_setCell _ _ _ _ d)
theorem rowC.set {w : World} {g n k : Nat} {f : Nat → UInt8} {X : Nat} {Y : UInt8} (h : rowC w g n f) (hk : k < n) (hX : X = Y.toNat) : rowC (w.setCell ⟨g, k, none⟩ (.int .u8 (X : Int))) g n (fun j => if j = k then Y else f j) := by
 subst hX
 refine ⟨by have := h.1; simpa [World.setCell] using this, fun j hj => ⟨?_, ?_⟩⟩
 · show _ = some (Value.int .u8 ((if j = k then Y else f j).toNat : Int))
   by_cases e : j = k
   · subst e
     rw [World.cell?_setCell_same _ _ _ (h.2 j hj).1, if_pos rfl]
   · rw [World.cell?_setCell_other _ _ _ _ (by intro e2; injection e2 with _ e3; exact e e3.symm), if_neg e]
     exact (h.2 j hj).1
 · rw [World.frozen?_setCell]; exact (h.2 j hj).2
theorem rowC.of_text {w : World} {base g n cap : Nat} {l : List UInt8} {f : Nat → UInt8} (h : hasRow w base (.slice (some ⟨g, 0, none⟩) n cap) l) (hl : ∀ j, j < n → l[j]? = some (f j)) : rowC w g n f := by
 obtain ⟨h1, h2, _, h4⟩ := h.facts
 obtain ⟨g', cap', e, _, _, _, hc, _⟩ := id h
 injection e with e1 e2 e3
 injection e1 with e1
 injection e1 with e1
 subst e1 e2 e3
 exact ⟨h4, fun j hj => ⟨h.cell j _ (hl j hj), (hc j (by omega)).2⟩⟩
def bF (b : ByteArray) (j : Nat) : UInt8 := b.data.toList.getD j 0
theorem bF_at (b : ByteArray) (n : Nat) (hb : b.size = n) : ∀ j, j < n → b.data.toList[j]? = some (bF b j) := by
 intro j hj
 have h : j < b.data.toList.length := by have e : b.data.toList.length = b.size := rfl; omega
 rw [bF, List.getD_eq_getElem?_getD, List.getElem?_eq_getElem h]; rfl
theorem conv_rowC {P : Program} {w : World} {g e src dst cap n : Nat} {f : Nat → UInt8} {l : List UInt8} (h : rowC w g n f) (hl : ∀ j, j < n → l[j]? = some (f j)) (hn : l.length = n) (hs : P.underlying src = some (.slice e)) (he : P.underlying e = some (.int .u8)) (hd : P.underlying dst = some .string) :
 (convert src dst (.slice (some ⟨g, 0, none⟩) n cap)).run P w = .ok (.string ⟨l.toArray⟩) w := by
 have hr := run_convert_bytes_back (P := P) w src dst e ⟨g, 0, none⟩ cap l hs he hd (fun j hj => by
  have hc := (h.2 j (by omega)).1
  have ea : (⟨g, 0, none⟩ : Addr).add j = ⟨g, j, none⟩ := by by_cases hz : j = 0 <;> simp [Addr.add, hz]
  have e2 := hl j (by omega)
  rw [List.getElem?_eq_getElem hj] at e2
  rw [ea, hc, Option.some.inj e2])
 rw [hn] at hr
 exact hr
end Go.Proofs.YtconcnndghmdfaaGreatDoor
namespace Go.Proofs.YtconcnndghmdfaaGreatDoor
open Go.RowKit
attribute [local irreducible] times
def mul (a : UInt8) (k : Nat) : UInt8 := UInt8.ofNat (times a.toNat k)
theorem mul_toNat (a : UInt8) (k : Nat) : (mul a k).toNat = times a.toNat k := by
 have h := times_lt a.toNat k a.toNat_lt
 unfold mul
 rw [UInt8.toNat_ofNat']; exact Nat.mod_eq_of_lt h
def mixB (f : Nat → UInt8) (c r : Nat) : UInt8 := mul (f (4 * c + r)) 2 ^^^ mul (f (4 * c + (r + 1) % 4)) 3 ^^^ f (4 * c + (r + 2) % 4) ^^^ f (4 * c + (r + 3) % 4)
def mixF (f : Nat → UInt8) (j : Nat) : UInt8 := mixB f (j / 4) (j % 4)
theorem spec_timesI (a : Nat) (B : Int) (w : World) (ha : a < 256) (hb0 : 0 ≤ B) (hb : B < 256) :
 Calls Tryz.prog 122 #[.int .i64 a, .int .i64 B] w fun e w' => e = .returned (.int .i64 (times a B.toNat : Nat)) ∧ w = w' := by
 have h := spec_times a B.toNat w ha (by omega)
 rwa [show ((B.toNat : Nat) : Int) = B by omega] at h
set_option maxRecDepth 100000 in
set_option maxHeartbeats 1600000 in
theorem spec_mix (g cap : Nat) (f : Nat → UInt8) (w : World) (hg : g < w.heap.size) (hf : ∀ j, j < 16 → w.cell? ⟨g, j, none⟩ = some (u8V f j)) :
 Calls Tryz.prog 123 #[.slice (some ⟨g, 0, none⟩) 16 cap] w fun e w' => e = .returned (.slice (some ⟨w.heap.size, 0, none⟩) 16 16) ∧ w'.rowIs w.heap.size 5 16 (u8V (mixF f)) ∧ Below w.heap.size w w' := by
 have HF := hide hf
 clear hf
 have hmk : ∀ w : World, (Instr.makeSlice 22 (.int .i64 16) (.int .i64 16)).run Tryz.prog w = .ok (.slice (some ⟨w.heap.size, 0, none⟩) 16 16) (w.alloc (.cells (madeCells #[.int .u8 0] 16) 5)) := run_make_row' (P := Tryz.prog) 22 5 (.int .u8 0) 1 (by kernel_rfl) Tryz.infoB8 rfl .i64 .i64 16 (by omega) (by omega)
 go_enter Tryz.func123, Tryz.ntmps123
 go_wp2_with fail
 clear hmk
 go_loopw [4] (fun i wx => ∃ (c : Nat) (h : Nat → UInt8), c ≤ 4 ∧ i = .int .i64 c ∧ Hid (∀ j, j < 4 * c → h j = mixF f j) ∧ wx.rowIs w.heap.size 5 16 (u8V h) ∧ Below w.heap.size w wx) (fun i _ => 4 - (intOf i).toNat)
 case atStart => exact ⟨0, fun _ => 0, by omega, rfl, fun j hj => by omega, World.rowIs_made _ _ _ _, (Below.refl _ _).alloc (Nat.le_refl _) _⟩
 case round =>
  obtain ⟨c, h, hc, rfl, hh, hrw, hbl⟩ := hrel
  by_cases hlt : c < 4
  · have hlt' : decide ((c : Int) < 4) = true := decide_eq_true (by omega)
    go_wp2_with fail
    go_loopw [5] (fun i wx => ∃ (r : Nat) (h : Nat → UInt8), r ≤ 4 ∧ i = .int .i64 r ∧ Hid (∀ j, j < 4 * c + r → h j = mixF f j) ∧ wx.rowIs w.heap.size 5 16 (u8V h) ∧ Below w.heap.size w wx) (fun i _ => 4 - (intOf i).toNat)
    case atStart => exact ⟨0, h, by omega, rfl, fun j hj => hh.out j (by omega), hrw, hbl⟩
    case round =>
     clear hh hrw hbl
     obtain ⟨r, h, hr, rfl, hh, hrw, hbl⟩ := hrel
     by_cases hlt4 : r < 4
     · obtain ⟨c4, ec4⟩ : ∃ q, q = 4 * c := ⟨_, rfl⟩
       obtain ⟨q0, e0⟩ : ∃ q, q = 4 * c + r := ⟨_, rfl⟩
       obtain ⟨r1, er1⟩ : ∃ q, q = (r + 1) % 4 := ⟨_, rfl⟩
       obtain ⟨r2, er2⟩ : ∃ q, q = (r + 2) % 4 := ⟨_, rfl⟩
       obtain ⟨r3, er3⟩ : ∃ q, q = (r + 3) % 4 := ⟨_, rfl⟩
       obtain ⟨s1, es1⟩ : ∃ q, q = r + 1 := ⟨_, rfl⟩
       obtain ⟨s2, es2⟩ : ∃ q, q = r + 2 := ⟨_, rfl⟩
       obtain ⟨s3, es3⟩ : ∃ q, q = r + 3 := ⟨_, rfl⟩
       have HE := hide (show r1 = (r + 1) % 4 ∧ r2 = (r + 2) % 4 ∧ r3 = (r + 3) % 4 from ⟨er1, er2, er3⟩)
       have t1 : (s1 : Int) % 4 = (r1 : Int) := by rw [er1, es1]; exact (Int.natCast_emod _ _).symm
       have t2 : (s2 : Int) % 4 = (r2 : Int) := by rw [er2, es2]; exact (Int.natCast_emod _ _).symm
       have t3 : (s3 : Int) % 4 = (r3 : Int) := by rw [er3, es3]; exact (Int.natCast_emod _ _).symm
       have b1 : r1 < 4 := by rw [er1]; exact Nat.mod_lt _ (by decide)
       have b2 : r2 < 4 := by rw [er2]; exact Nat.mod_lt _ (by decide)
       have b3 : r3 < 4 := by rw [er3]; exact Nat.mod_lt _ (by decide)
       have T := hide (And.intro t1 (And.intro t2 t3))
       clear er1 er2 er3 t1 t2 t3
       obtain ⟨q1, e1⟩ : ∃ q, q = 4 * c + r1 := ⟨_, rfl⟩
       obtain ⟨q2, e2⟩ : ∃ q, q = 4 * c + r2 := ⟨_, rfl⟩
       obtain ⟨q3, e3⟩ : ∃ q, q = 4 * c + r3 := ⟨_, rfl⟩
       have m4 : IntKind.i64.wrap (4 * (c : Int)) = (c4 : Int) := w_mul (show 4 * c = c4 by omega) (by omega)
       have m0 : IntKind.i64.wrap ((c4 : Int) + (r : Int)) = (q0 : Int) := w_add (by omega) (by omega)
       have mr1 : IntKind.i64.wrap ((r : Int) + 1) = (s1 : Int) := w_add (b := 1) es1.symm (by omega)
       have mr2 : IntKind.i64.wrap ((r : Int) + 2) = (s2 : Int) := w_add (b := 2) es2.symm (by omega)
       have mr3 : IntKind.i64.wrap ((r : Int) + 3) = (s3 : Int) := w_add (b := 3) es3.symm (by omega)
       have m1 : IntKind.i64.wrap ((c4 : Int) + (r1 : Int)) = (q1 : Int) := w_add (by omega) (by omega)
       have m2 : IntKind.i64.wrap ((c4 : Int) + (r2 : Int)) = (q2 : Int) := w_add (by omega) (by omega)
       have m3 : IntKind.i64.wrap ((c4 : Int) + (r3 : Int)) = (q3 : Int) := w_add (by omega) (by omega)
       have tt1 : (s1 : Int).tmod 4 = (r1 : Int) := by rw [Int.tmod_eq_emod_of_nonneg (by omega)]; exact T.out.1
       have tt2 : (s2 : Int).tmod 4 = (r2 : Int) := by rw [Int.tmod_eq_emod_of_nonneg (by omega)]; exact T.out.2.1
       have tt3 : (s3 : Int).tmod 4 = (r3 : Int) := by rw [Int.tmod_eq_emod_of_nonneg (by omega)]; exact T.out.2.2
       have w1 : IntKind.i64.wrap (r1 : Int) = (r1 : Int) := by simp only [IntKind.wrap_i64]; omega
       have w2 : IntKind.i64.wrap (r2 : Int) = (r2 : Int) := by simp only [IntKind.wrap_i64]; omega
       have w3 : IntKind.i64.wrap (r3 : Int) = (r3 : Int) := by simp only [IntKind.wrap_i64]; omega
       have t1 := T.out.1
       have t2 := T.out.2.1
       have t3 := T.out.2.2
       have n0 : (q0 : Int) < 16 := by omega
       have n1 : (q1 : Int) < 16 := by omega
       have n2 : (q2 : Int) < 16 := by omega
       have n3 : (q3 : Int) < 16 := by omega
       have c0 : wr.cell? ⟨g, q0, none⟩ = some (.int .u8 ((f q0).toNat : Int)) := (hbl.cell (p := ⟨g, q0, none⟩) hg).trans (HF.out q0 (by omega))
       have c1 : wr.cell? ⟨g, q1, none⟩ = some (.int .u8 ((f q1).toNat : Int)) := (hbl.cell (p := ⟨g, q1, none⟩) hg).trans (HF.out q1 (by omega))
       have c2 : wr.cell? ⟨g, q2, none⟩ = some (.int .u8 ((f q2).toNat : Int)) := (hbl.cell (p := ⟨g, q2, none⟩) hg).trans (HF.out q2 (by omega))
       have c3 : wr.cell? ⟨g, q3, none⟩ = some (.int .u8 ((f q3).toNat : Int)) := (hbl.cell (p := ⟨g, q3, none⟩) hg).trans (HF.out q3 (by omega))
       have co := hrw.cell (i := q0) (by omega)
       have hfz := hrw.frozen q0
       have HV := hide (show mixF f q0 = mul (f q0) 2 ^^^ mul (f q1) 3 ^^^ f q2 ^^^ f q3 by
        rw [mixF, show q0 / 4 = c by omega, show q0 % 4 = r by omega, mixB, ← e0, ← HE.out.1, ← HE.out.2.1, ← HE.out.2.2, ← e1, ← e2, ← e3])
       have HQ := hide e0
       clear e0 e1 e2 e3 es1 es2 es3 ec4 T b1 b2 b3
       generalize f q0 = A0 at *
       generalize f q1 = A1 at *
       generalize f q2 = A2 at *
       generalize f q3 = A3 at *
       have k2 : (A0.toNat : Int) ≤ 255 := by have := A0.toNat_lt; omega
       have k3 : (A1.toNat : Int) ≤ 255 := by have := A1.toNat_lt; omega
       have wa0 : IntKind.i64.wrap (A0.toNat : Int) = (A0.toNat : Int) := by simp only [IntKind.wrap_i64]; omega
       have wa1 : IntKind.i64.wrap (A1.toNat : Int) = (A1.toNat : Int) := by simp only [IntKind.wrap_i64]; omega
       go_wp2_with fail
       go_region_held3 (fun w' => w'.cell? ⟨g, q0, none⟩ = some (.int .u8 (A0.toNat : Int)) ∧ w'.cell? ⟨g, q1, none⟩ = some (.int .u8 (A1.toNat : Int))) (go_keep)
        (first | (go_at_call 122; refine (spec_timesI _ _ _ ?_ ?_ ?_).mono ?_; exact UInt8.toNat_lt _; decide; decide; rintro e w' ⟨rfl, rfl⟩))
       rename_i _ hH
       clear hH
       obtain ⟨M, hM⟩ : ∃ M, M = mul A0 2 ^^^ mul A1 3 := ⟨_, rfl⟩
       have hxm : bits .xor .i64 (↑(times A0.toNat 2) : Int) (↑(times A1.toNat 3) : Int) = ((M.toNat : Nat) : Int) := by
        have h2 := times_lt A0.toNat 2 A0.toNat_lt
        have h3 := times_lt A1.toNat 3 A1.toNat_lt
        rw [q_xor _ _ (by omega) (by omega), hM, UInt8.toNat_xor, mul_toNat, mul_toNat]
       simp only [hxm]
       have hMl : IntKind.u8.wrap (M.toNat : Int) = (M.toNat : Int) := by rw [IntKind.wrap_u8]; have := M.toNat_lt; omega
       have hMb : (M.toNat : Int) ≤ 255 := by have := M.toNat_lt; omega
       rw [← hM] at HV
       have x1 := r_xor8 M A2
       have x2 := r_xor8 (M ^^^ A2) A3
       obtain ⟨N, hN⟩ : ∃ N, N = M ^^^ A2 := ⟨_, rfl⟩
       obtain ⟨Y, hY⟩ : ∃ Y, Y = M ^^^ A2 ^^^ A3 := ⟨_, rfl⟩
       rw [← hY] at HV x2
       rw [← hN] at x1 x2
       have hne : w.heap.size ≠ g := by omega
       clear hxm hM hN hY k2 k3 wa0 wa1 c0 c1
       go_wp2_with fail
       go_region_held3 (fun w' => w'.cell? ⟨g, q2, none⟩ = some (.int .u8 (A2.toNat : Int)) ∧ w'.cell? ⟨g, q3, none⟩ = some (.int .u8 (A3.toNat : Int))) (first | exact ⟨(cell_far hne c2), (cell_far hne c3)⟩ | go_keep) (fail)
       rename_i _ hH
       clear hH x1 x2 hMl hMb m4 m0 mr1 mr2 mr3 m1 m2 m3 c2 c3 co hfz t1 t2 t3 tt1 tt2 tt3
       go_wp2_with fail
       go_roundw
       case rel =>
        refine ⟨r + 1, fun j => if j = q0 then Y else h j, by omega, by go_num, fun j hj => ?_, set_byte hrw rfl, ((hbl.setCell (Nat.le_refl _) _).drew).drew⟩
        show (if j = q0 then Y else h j) = _
        by_cases e : j = q0
        · rw [if_pos e, e, HV.out]
        · rw [if_neg e]; exact hh.out j (by have := HQ.out; omega)
       case measure => simp [intOf]; omega
     · go_wp2_with fail
       exact ⟨⟨c + 1, h, by omega, by go_num, fun j hj => hh.out j (by omega), hrw, hbl⟩, by simp [intOf]; omega⟩
  · have hr2 : wr.rowIs w.heap.size 5 16 (u8V (mixF f)) := hrw.congr fun i hi => by rw [u8V, u8V, hh.out i (by omega)]
    go_wp2_with fail
    go_ret
    exact ⟨rfl, hr2, hbl⟩
end Go.Proofs.YtconcnndghmdfaaGreatDoor
