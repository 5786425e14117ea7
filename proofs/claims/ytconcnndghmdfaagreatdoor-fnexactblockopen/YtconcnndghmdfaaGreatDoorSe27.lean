/- Put together: ImpRow, ImpAdd, ImpBytes, ImpHigh. -/
import Derived.ArgAppend
import Derived.Below
import Derived.Lib.AppendStr
import Derived.Test.YtconcnndghmdfaaGreatDoorSe1
import Derived.Test.YtconcnndghmdfaaGreatDoorSe6
import Derived.Test.YtconcnndghmdfaaGreatDoorSe3
import Derived.Test.YtconcnndghmdfaaGreatDoorSe26
import Derived.Test.YtconcnndghmdfaaGreatDoorSe4
import Derived.Test.YtconcnndghmdfaaGreatDoorRows
import Derived.Test.YtconcnndghmdfaaGreatDoorSe12
namespace Go.Proofs.YtconcnndghmdfaaGreatDoor
open Go.RowKit Go

/-- Block g is as it was. -/
def sameBlk (w w' : World) (g : Nat) : Prop := w'.heap[g]? = w.heap[g]?
/-- The value v is nil, or a row of bytes l, in a block from base on that is not hb. -/
def oRow (w : World) (base hb : Nat) (v : Value) (l : List UInt8) : Prop :=
  (v = .slice none 0 0 ∧ l = []) ∨
  ∃ g o cap, v = .slice (some ⟨g, o, none⟩) l.length cap ∧ base ≤ g ∧ g ≠ hb ∧ g < w.heap.size ∧ l.length ≤ cap ∧ (∀ j, j < cap → (w.cell? ⟨g, o + j, none⟩).isSome = true ∧ w.frozen? ⟨g, o + j, none⟩ = false) ∧ ∀ j u, l[j]? = some u → w.cell? ⟨g, o + j, none⟩ = some (byteV u)

theorem oRow.kept {w w' : World} {base hb : Nat} {v : Value} {l : List UInt8} (h : oRow w base hb v l) (hg : w.grownBy w' (some hb)) : oRow w' base hb v l := by
  rcases h with h | ⟨g, o, cap, rfl, h1, h2, h3, h4, h5, h6⟩
  · exact .inl h
  · have hbk := hg.block g h3 (by simpa using h2)
    refine .inr ⟨g, o, cap, rfl, h1, h2, Nat.lt_of_lt_of_le h3 hg.size, h4, fun j hj => ?_, fun j u hu => ?_⟩
    · rw [World.cell?_of_block (w := w) hbk, World.frozen?_of_block (w := w) hbk]; exact h5 j hj
    · rw [World.cell?_of_block (w := w) hbk]; exact h6 j u hu
theorem oRow.form {w : World} {base hb : Nat} {v : Value} {l : List UInt8} (h : oRow w base hb v l) : ∃ a cap, v = .slice a l.length cap := by
  rcases h with ⟨rfl, rfl⟩ | ⟨g, o, cap, rfl, _⟩
  · exact ⟨_, _, rfl⟩
  · exact ⟨_, _, rfl⟩
theorem setCells_other : ∀ (vs : List Value) (o : Nat) (w : World) (b k : Nat), k ≠ b → (w.setCells b o vs).heap[k]? = w.heap[k]?
  | [], _, _, _, _, _ => rfl
  | _ :: vs, o, w, b, k, h => by
    show ((w.setCell _ _).setCells b (o + 1) vs).heap[k]? = _
    rw [setCells_other vs (o + 1) _ b k h, Below.heap_setCell _ _ _ _ h]
theorem strCells_byteV (s : ByteArray) : Lib.strCells s = s.data.toList.map byteV := rfl
theorem strCells_get (s : ByteArray) (j : Nat) (u : UInt8) (h : s.data.toList[j]? = some u) : (Lib.strCells s)[j]? = some (byteV u) := by rw [strCells_byteV, List.getElem?_map, h]; rfl

theorem run_append_room_str {P : Program} (w : World) (t u ty e : TypeId) (i : TypeInfo) (ht : P.underlying t = some (.slice e)) (hu : P.underlying u = some .string) (hi : P.info? e = some i) (hs1 : i.size = 1)
    (b off sLen sCap : Nat) (s : ByteArray) (hroom : sLen + s.size ≤ sCap) (hc : ∀ j, j < s.size → (w.cell? ⟨b, off + sLen + j, none⟩).isSome = true) (hf : ∀ j, j < s.size → w.frozen? ⟨b, off + sLen + j, none⟩ = false) :
    (Builtin.append_ #[t, u] ty #[.slice (some ⟨b, off, none⟩) sLen sCap, .string s]).run P w = .ok (.slice (some ⟨b, off, none⟩) (sLen + s.size) sCap) (w.setCells b (off + sLen) (Lib.strCells s)) := by
  have hfc := Lib.run_firstCells_string (P := P) w 1 s
  have hst := run_storeCells_cells (P := P) b (off + sLen) (Lib.strCells s) 0 w (by simpa [Lib.strCells_length] using hc) (by simpa [Lib.strCells_length] using hf) (Lib.strCells_oneCell s)
  simp only [Nat.add_zero] at hst
  simp [Builtin.append_, run_underlying ht, run_underlying hu, sizeOf, typeInfo, hi, hs1, Builtin.lenOf, hroom, hfc, Addr.add_lit, hst]

theorem oRow.of_own {w : World} {base hb e : Nat} {v : Value} {l : List UInt8} (h : w.ownsRow base e 1 v l.length (l.map byteV)) (hb' : hb < base) : oRow w base hb v l := by
  have h0 := h
  obtain ⟨_, ⟨rfl, hn⟩ | ⟨g, cap, cur, rfl, hg, hbk, hcap, _, hsz, _⟩⟩ := h
  · exact .inl ⟨rfl, List.length_eq_zero_iff.1 hn⟩
  · refine .inr ⟨g, 0, cap, rfl, hg, by omega, (h0.lt g rfl).2, hcap, fun j hj => ⟨?_, ?_⟩, fun j u hj => ?_⟩
    · rw [Nat.zero_add]
      simp only [World.cell?, hbk]
      rw [Array.getElem?_eq_getElem (by omega)]; rfl
    · simp [World.frozen?, hbk]
    · have hlt : j < l.length := by
        rcases Nat.lt_or_ge j l.length with h | h
        · exact h
        · rw [List.getElem?_eq_none h] at hj; cases hj
      have := h0.cellAt j (by omega)
      rw [Nat.zero_add, this, List.getElem?_map, hj]; rfl

/-- The run of 'append(v, s...)'. -/
theorem run_append_orow {P : Program} (w : World) (t u ty e : TypeId) (i : TypeInfo) (ht : P.underlying t = some (.slice e)) (hu : P.underlying u = some .string) (hi : P.info? e = some i) (hz : i.zero = some (.int .u8 0)) (hsize : i.size = 1) (hby : i.bytes = 1)
    (base hb : Nat) (v : Value) (l : List UInt8) (hrow : oRow w base hb v l) (s : ByteArray) (hlen : l.length + s.size ≤ 140737488355328) (hbase : base ≤ w.heap.size) (hhb : hb < w.heap.size) :
    ∃ v' w', (Builtin.append_ #[t, u] ty #[v, .string s]).run P w = .ok v' w' ∧ oRow w' base hb v' (l ++ s.data.toList) ∧ Below base w w' ∧ w'.heap[hb]? = w.heap[hb]? := by
  have hm : l.length + s.size ≤ maxLen := by unfold maxLen; omega
  have hll : (l ++ s.data.toList).length = l.length + s.size := by rw [List.length_append]; rfl
  have hmap : (l ++ s.data.toList).map byteV = l.map byteV ++ Lib.strCells s := by rw [List.map_append]; rfl
  rcases hrow with ⟨rfl, rfl⟩ | ⟨g, o, cap, rfl, h1, h2, h3, h4, h5, h6⟩
  · obtain ⟨v', w', hr, hown, hgr, _⟩ := Lib.run_append_own_string (P := P) w w.heap.size t u ty e i ht hu hi hz hsize hby (.slice none 0 0) 0 [] (World.ownsRow_nil w _ e 1) s (by simpa using hm) (by simpa using hlen) (Nat.le_refl _)
    refine ⟨v', w', hr, ?_, (Below.refl _ _).grown hgr hbase (fun k hk => by cases hk), hgr.block hb hhb (by simp [Value.ownBlock])⟩
    have hown' : w'.ownsRow w.heap.size e 1 v' ([] ++ s.data.toList).length (([] ++ s.data.toList).map byteV) := by rw [hll, hmap]; simpa using hown
    have h := oRow.of_own hown' hhb
    rcases h with h | ⟨g, o, cap, a1, a2, a3⟩
    · exact .inl h
    · exact .inr ⟨g, o, cap, a1, by omega, a3⟩
  · by_cases hroom : l.length + s.size ≤ cap
    · have hc : ∀ j, j < s.size → (w.cell? ⟨g, o + l.length + j, none⟩).isSome = true := fun j hj => by rw [Nat.add_assoc]; exact (h5 (l.length + j) (by omega)).1
      have hf : ∀ j, j < s.size → w.frozen? ⟨g, o + l.length + j, none⟩ = false := fun j hj => by rw [Nat.add_assoc]; exact (h5 (l.length + j) (by omega)).2
      have hr := run_append_room_str (P := P) w t u ty e i ht hu hi hsize g o l.length cap s hroom hc hf
      have hB := below_setCells (Lib.strCells s) (o + l.length) w g (Below.refl base w) h1
      have hcs : ∀ j, j < (Lib.strCells s).length → (w.cell? ⟨g, o + l.length + j, none⟩).isSome = true := fun j hj => hc j (by rwa [Lib.strCells_length] at hj)
      refine ⟨_, _, hr, .inr ⟨g, o, cap, by rw [hll], h1, h2, Nat.lt_of_lt_of_le h3 hB.size, by rw [hll]; exact hroom, fun j hj => ⟨?_, ?_⟩, fun j u hj => ?_⟩, hB, ?_⟩
      · by_cases hin : l.length ≤ j ∧ j < l.length + s.size
        · have := World.cell?_setCells_in g (Lib.strCells s) (o + l.length) w hcs (j - l.length) (by rw [Lib.strCells_length]; omega)
          rw [show o + l.length + (j - l.length) = o + j by omega] at this
          rw [this]; rfl
        · rw [World.cell?_setCells_out g _ _ w ⟨g, o + j, none⟩ (fun _ _ => by rw [Lib.strCells_length]; show o + j < _ ∨ _ ≤ o + j; omega)]
          exact (h5 j hj).1
      · rw [World.frozen?_setCells]; exact (h5 j hj).2
      · by_cases hin : j < l.length
        · rw [World.cell?_setCells_out g _ _ w ⟨g, o + j, none⟩ (fun _ _ => by show o + j < _ ∨ _ ≤ o + j; omega)]
          rw [List.getElem?_append_left hin] at hj
          exact h6 j u hj
        · rw [List.getElem?_append_right (by omega)] at hj
          have hjk : j - l.length < (Lib.strCells s).length := by
            rw [Lib.strCells_length]
            rcases Nat.lt_or_ge (j - l.length) s.size with h | h
            · exact h
            · rw [List.getElem?_eq_none (by simpa using h)] at hj; cases hj
          have := World.cell?_setCells_in g (Lib.strCells s) (o + l.length) w hcs (j - l.length) hjk
          rw [show o + l.length + (j - l.length) = o + j by omega] at this
          rw [this]
          have e2 := strCells_get s _ _ hj
          rw [List.getElem?_eq_getElem hjk] at e2
          rw [Option.some.inj e2]
      · exact setCells_other (Lib.strCells s) (o + l.length) w g hb (fun e => h2 e.symm)
    · have holds : ∀ j x, (l.map byteV)[j]? = some x → w.cell? ((⟨g, o, none⟩ : Addr).add j) = some x := fun j x hx => by
        rw [List.getElem?_map] at hx
        obtain ⟨y, hy, rfl⟩ := Option.map_eq_some_iff.1 hx
        rw [Addr.add_lit]; exact h6 j y hy
      have hr := Lib.run_append_grow_string (P := P) w t u ty e i (.int .u8 0) ht hu hi hz ⟨g, o, none⟩ l.length cap (l.map byteV) (by rw [hsize]; simp) holds s (by omega) (by omega) (by rw [hby]; exact growslice_fits (by omega) (by omega))
      have hge := grownCap_ge w (l.length + s.size) cap e
      have hcm : grownCap w (l.length + s.size) cap e ≤ maxLen := grownCap_le_maxLen w (l.length + s.size) cap e hm
      have hgrow : w.grownBy (w.drew.alloc (.cells ((l.map byteV).toArray ++ (Lib.strCells s).toArray ++ Builtin.zeroCells (Value.int .u8 0).cells (grownCap w (l.length + s.size) cap e - (l.length + s.size))) e)) none := ⟨rfl, rfl, rfl, by simp, fun k hk _ => Below.heap_alloc w.drew _ k hk⟩
      refine ⟨_, _, hr, ?_, (Below.refl _ _).grown hgrow hbase (fun k hk => by cases hk), hgrow.block hb hhb (by simp)⟩
      have hown : (w.drew.alloc (.cells ((l.map byteV).toArray ++ (Lib.strCells s).toArray ++ Builtin.zeroCells (Value.int .u8 0).cells (grownCap w (l.length + s.size) cap e - (l.length + s.size))) e)).ownsRow w.heap.size e 1 (.slice (some ⟨w.heap.size, 0, none⟩) (l.length + s.size) (grownCap w (l.length + s.size) cap e)) (l.length + s.size) (l.map byteV ++ Lib.strCells s) := by
        have hlen2 : (l.map byteV ++ Lib.strCells s).length = (l.length + s.size) * 1 := by rw [List.length_append, List.length_map, Lib.strCells_length, Nat.mul_one]
        refine ⟨hlen2, .inr ⟨w.heap.size, _, _, rfl, Nat.le_refl _, heap_alloc_new w.drew _, hge, hcm, ?_, ?_⟩⟩
        · have hz1 : (Value.int IntKind.u8 0).cells.size = 1 := rfl
          simp only [Array.size_append, List.size_toArray, size_zeroCells, hz1, List.length_map, Lib.strCells_length]
          omega
        · simp only [Array.toList_append, List.append_assoc]
          rw [← List.append_assoc, ← hlen2]
          exact List.take_left
      rw [← hmap, ← hll] at hown
      have h := oRow.of_own hown hhb
      rw [hll] at h
      rcases h with h | ⟨g', o', cap', a1, a2, a3⟩
      · exact .inl h
      · exact .inr ⟨g', o', cap', a1, by omega, a3⟩
theorem wpList_append_orow {P : Program} {w : World} {ops : Array Oper} {rest : List Oper} {o : Oper} {a : Act} {Q : Exit → Act → World → Prop}
    (hgd : o.guard = none) (sl x : Operand) (t u : TypeId) (hop : o.op = Op.call { callee := Callee.builtin Builtin.append, args := #[sl, x], argTypes := #[t, u] })
    (e : TypeId) (i : TypeInfo) (ht : P.underlying t = some (.slice e)) (hu : P.underlying u = some .string) (hi : P.info? e = some i) (hz : i.zero = some (.int .u8 0)) (hsize : i.size = 1) (hby : i.bytes = 1)
    (base hb : Nat) (v : Value) (l : List UInt8) (hs : a.eval sl = v) (hrow : oRow w base hb v l) (s : ByteArray) (hx : a.eval x = .string s) (hlen : l.length + s.size ≤ 140737488355328) (hbase : base ≤ w.heap.size) (hhb : hb < w.heap.size)
    (h : ∀ v' w', oRow w' base hb v' (l ++ s.data.toList) → Below base w w' → sameBlk w w' hb → wpList P ops Q rest (a.put o.dst v') w') :
    wpList P ops Q (o :: rest) a w := by
  refine wpList_plain hgd fun K hK => ?_
  obtain ⟨v', w', hr, h2, h3, h4⟩ := run_append_orow (P := P) w t u o.type e i ht hu hi hz hsize hby base hb v l hrow s hlen hbase hhb
  unfold Oper.wp execOp
  simp only [hop, resolve, invoke, builtin, Sem.run_bind, Sem.run_pure, Result.andThen_ok, List.map_toArray, List.map_cons, List.map_nil, hs, hx, hr]
  exact hK _ _ (h v' w' h2 h3 h4)
end Go.Proofs.YtconcnndghmdfaaGreatDoor
namespace Go.Proofs.YtconcnndghmdfaaGreatDoor
open Go.RowKit
/-- A hash in block g that has taken in the bytes L, of them m blocks. -/
def HAt (w : World) (base g : Nat) (L : List UInt8) (m : Nat) : Prop :=
  ∃ rv, w.rowIs g 191 10 (hashV (stAt L m) rv (.int .u64 (L.length : Nat))) ∧ oRow w base g rv (L.drop (64 * m)) ∧ 64 * m ≤ L.length
theorem stAt_more (L K : List UInt8) : ∀ m, 64 * m ≤ L.length → stAt (L ++ K) m = stAt L m
  | 0, _ => rfl
  | m + 1, h => by
    have e : ((L ++ K).drop (64 * m)).take 64 = (L.drop (64 * m)).take 64 := by
      rw [List.drop_append_of_le_length (by omega), List.take_append_of_le_length (by rw [List.length_drop]; omega)]
    show blockF (byteAt ⟨(((L ++ K).drop (64 * m)).take 64).toArray⟩) (stAt (L ++ K) m) = blockF (byteAt ⟨((L.drop (64 * m)).take 64).toArray⟩) (stAt L m)
    rw [e, stAt_more L K m (by omega)]
theorem hash_rest {w : World} {g T : Nat} {st : Nat → Nat} {rv mv : Value} (h : w.rowIs g T 10 (hashV st rv mv)) : w.cell? ⟨g, 8, none⟩ = some rv := h.cell (i := 8) (by omega)
theorem hash_many {w : World} {g T : Nat} {st : Nat → Nat} {rv mv : Value} (h : w.rowIs g T 10 (hashV st rv mv)) : w.cell? ⟨g, 9, none⟩ = some mv := h.cell (i := 9) (by omega)
theorem hash_set8 {w : World} {g T : Nat} {st : Nat → Nat} {rv mv : Value} (h : w.rowIs g T 10 (hashV st rv mv)) (v : Value) : (w.setCell ⟨g, 8, none⟩ v).rowIs g T 10 (hashV st v mv) := by
  refine (h.set 8 v).congr ?_
  intro i _
  by_cases e : i = 8
  · subst e; rfl
  · rw [if_neg e, hashV, hashV, if_neg e, if_neg e]
theorem hash_set9 {w : World} {g T : Nat} {st : Nat → Nat} {rv mv : Value} (h : w.rowIs g T 10 (hashV st rv mv)) (v : Value) : (w.setCell ⟨g, 9, none⟩ v).rowIs g T 10 (hashV st rv v) := by
  refine (h.set 9 v).congr ?_
  intro i hi
  by_cases e : i = 9
  · subst e; rfl
  · rw [if_neg e, hashV, hashV]
    by_cases e2 : i < 8
    · rw [if_pos e2, if_pos e2]
    · rw [if_neg e2, if_neg e2, if_pos (by omega), if_pos (by omega)]
theorem byteAt_list (l : List UInt8) (j : Nat) (u : UInt8) (h : l[j]? = some u) : byteAt ⟨l.toArray⟩ j = u.toNat := by
  unfold byteAt
  rw [Array.getD_eq_getD_getElem?]
  show (l.toArray[j]?.getD 0).toNat = _
  rw [List.getElem?_toArray, h]; rfl
theorem byteAt_lt (b : ByteArray) (j : Nat) : byteAt b j < 256 := UInt8.toNat_lt _
/-- The first 64 bytes of a row, as a block takes them. -/
theorem block_bytes {w : World} {r o : Nat} {l : List UInt8} (h : ∀ j u, l[j]? = some u → w.cell? ⟨r, o + j, none⟩ = some (byteV u)) (hl : 64 ≤ l.length) :
    ∀ j, j < 64 → byteAt ⟨(l.take 64).toArray⟩ j < 256 ∧ w.cell? ⟨r, o + j, none⟩ = some (.int .u8 (byteAt ⟨(l.take 64).toArray⟩ j : Nat)) := by
  intro j hj
  have hj' : j < l.length := by omega
  have e : (l.take 64)[j]? = some l[j] := by rw [List.getElem?_take, if_pos hj, List.getElem?_eq_getElem hj']
  refine ⟨byteAt_lt _ _, ?_⟩
  rw [byteAt_list _ _ _ e, h j l[j] (List.getElem?_eq_getElem hj')]; rfl
theorem oRow.drop64 {w : World} {base hb r o n cap : Nat} {l : List UInt8} (h : oRow w base hb (.slice (some ⟨r, o, none⟩) n cap) l) (hn : 64 ≤ n) (hl : n = l.length) :
    oRow w base hb (.slice (if cap = 64 then some ⟨r, o, none⟩ else some ⟨r, o + 64, none⟩) (n - 64) (cap - 64)) (l.drop 64) := by
  rcases h with ⟨h, _⟩ | ⟨g, o', cap', h0, h1, h2, h3, h4, h5, h6⟩
  · cases h
  · cases h0
    by_cases e : cap = 64
    · rw [if_pos e]
      refine .inr ⟨r, o, cap - 64, by rw [List.length_drop, hl], h1, h2, h3, by rw [List.length_drop]; omega, fun j hj => by omega, fun j u hu => ?_⟩
      rw [List.drop_eq_nil_of_le (by omega)] at hu; simp at hu
    · rw [if_neg e]
      refine .inr ⟨r, o + 64, cap - 64, by rw [List.length_drop, hl], h1, h2, h3, by rw [List.length_drop]; omega, fun j hj => ?_, fun j u hu => ?_⟩
      · rw [Nat.add_assoc]; exact h5 (64 + j) (by omega)
      · rw [Nat.add_assoc]; rw [List.getElem?_drop] at hu; exact h6 (64 + j) u hu
/-- How many bytes wait in a hash. -/
def restLen (w : World) (g : Nat) : Nat := match w.cell? ⟨g, 8, none⟩ with | some (.slice _ n _) => n | _ => 0
theorem restLen_of {w : World} {g n cap : Nat} {a : Option Addr} (h : w.cell? ⟨g, 8, none⟩ = some (.slice a n cap)) : restLen w g = n := by simp [restLen, h]
theorem Tryz.infoO8 : (Tryz.prog.info? 5).map (fun i => (i.zero, i.size, i.bytes)) = some (some (.int .u8 0), 1, 1) := by kernel_rfl
set_option maxRecDepth 100000 in
set_option maxHeartbeats 1600000 in
theorem add (base g : Nat) (L : List UInt8) (t : ByteArray) (w : World) (hH : HAt w base g L (L.length / 64)) (htab : Tab w) (hb0 : 1 < base) (hbg : base ≤ g) (hlen : L.length + t.size ≤ 1099511627776) :
    Calls Tryz.prog 138 #[.pointer (some ⟨g, 0, none⟩), .string t] w fun e w' => e = .returned (.tuple #[]) ∧ HAt w' base g (L ++ t.data.toList) ((L ++ t.data.toList).length / 64) ∧ Below base w w' := by
  obtain ⟨rv, hrow, hor, hmL⟩ := hH
  obtain ⟨m, hm⟩ : ∃ m, m = L.length / 64 := ⟨_, rfl⟩
  rw [← hm] at hrow hor hmL
  obtain ⟨N, hN⟩ : ∃ N, N = L.length := ⟨_, rfl⟩
  rw [← hN] at hrow hmL
  have hN' : (N : Int) ≤ 1099511627776 := by omega
  have ht' : (t.size : Int) ≤ 1099511627776 := by omega
  have c8 := hash_rest hrow
  have c9 := hash_many hrow
  have f8 := hrow.frozen 8
  have f9 := hrow.frozen 9
  have hlt := hrow.lt
  obtain ⟨i0, hi, hz0, hz1, hz2⟩ := info_parts Tryz.infoO8
  have HT := hide htab
  have HN := hide hN
  have HM := hide hm
  have hrow1 := hash_set9 hrow (.int .u64 ((N : Int) + (t.size : Int)))
  have hor1 : oRow (w.setCell ⟨g, 9, none⟩ (.int .u64 ((N : Int) + (t.size : Int)))) base g rv (L.drop (64 * m)) := hor.kept (grownBy_set ⟨rfl, rfl, rfl, Nat.le_refl _, fun _ _ _ => rfl⟩ _)
  have c81 := hash_rest hrow1
  have hlt1 := hrow1.lt
  have hdl : (L.drop (64 * m)).length + t.size ≤ 140737488355328 := by rw [List.length_drop]; omega
  have hbs : base ≤ (w.setCell ⟨g, 9, none⟩ (.int .u64 ((N : Int) + (t.size : Int)))).heap.size := by omega
  have hB1 : Below base w (w.setCell ⟨g, 9, none⟩ (.int .u64 ((N : Int) + (t.size : Int)))) := (Below.refl _ _).setCell hbg _
  obtain ⟨L2, hL2⟩ : ∃ x, x = L ++ t.data.toList := ⟨_, rfl⟩
  rw [← hL2]
  have HL2 := hide hL2
  clear hN hm htab hL2
  go_enter Tryz.func138, Tryz.ntmps138
  go_wp2_with (at_builtin; refine wpList_append_orow rfl _ _ 22 9 rfl 5 i0 Tryz.underlying22 Tryz.underlying9 hi hz0 hz1 hz2 base g rv (L.drop (64 * m)) rfl hor1 t rfl hdl hbs hlt1 ?_)
  intro v2 w2 hor2 hb2 hk2
  have hrow2 := hrow1.of_block hk2
  have hBl2 := hB1.trans hb2
  clear hrow hor c8 c9 f8 f9 hlt hrow1 hor1 c81 hlt1 hdl hbs hB1 hb2 hk2
  have hT2 : Tab w2 := HT.out.below hBl2 hb0
  have f8 := hrow2.frozen 8
  have c8 := hash_rest hrow2
  have hL2 := HL2.out
  have hN2 : L2.length = N + t.size := by rw [hL2, List.length_append, ← HN.out]; rfl
  have hst : stAt L m = stAt L2 m := by rw [hL2]; exact (stAt_more L _ m (by rw [← HN.out]; exact hmL)).symm
  have hdr : L.drop (64 * m) ++ t.data.toList = L2.drop (64 * m) := by rw [hL2, List.drop_append_of_le_length (by rw [← HN.out]; exact hmL)]
  have hml2 : 64 * m ≤ L2.length := by omega
  rw [hst] at hrow2
  rw [hdr] at hor2
  have e2 : ((N : Int) + (t.size : Int)) = ((L2.length : Nat) : Int) := by omega
  rw [e2] at hrow2
  obtain ⟨a2, cap2, hv2⟩ := hor2.form
  obtain ⟨n2, hn2⟩ : ∃ n, n = (L2.drop (64 * m)).length := ⟨_, rfl⟩
  rw [← hn2] at hv2
  subst hv2
  have hle2 := hide (show L2.length ≤ 1099511627776 by rw [hN2]; have := HN.out; omega)
  have hH2 : HAt (w2.setCell ⟨g, 8, none⟩ (.slice a2 n2 cap2)) base g L2 m := ⟨_, hash_set8 hrow2 _, hor2.kept (grownBy_set ⟨rfl, rfl, rfl, Nat.le_refl _, fun _ _ _ => rfl⟩ _), hml2⟩
  have hB3 : Below base w (w2.setCell ⟨g, 8, none⟩ (.slice a2 n2 cap2)) := hBl2.setCell hbg _
  have hT3 : Tab (w2.setCell ⟨g, 8, none⟩ (.slice a2 n2 cap2)) := HT.out.below hB3 hb0
  clear hn2 hst hdr e2 hL2 HL2 hN2 hor2 hrow2 hT2 hBl2 HM HN hmL hlen hN' ht' hml2
  go_wp2_with fail
  clear f8 c8
  generalize w2.setCell ⟨g, 8, none⟩ (.slice a2 n2 cap2) = W3 at *
  go_loopw [23] (fun _ wx => ∃ m : Nat, HAt wx base g L2 m ∧ Hid (Tab wx) ∧ Hid (Below base w wx)) (fun _ wx => restLen wx g)
  case atStart => exact ⟨m, hH2, hT3, hB3⟩
  case round =>
    clear hH2 hT3 hB3
    obtain ⟨m, hH, hT, hB⟩ := hrel
    obtain ⟨rv', hrow, hor, hml⟩ := hH
    obtain ⟨n, hn⟩ : ∃ n, n = (L2.drop (64 * m)).length := ⟨_, rfl⟩
    by_cases hge : 64 ≤ n
    · rcases hor with ⟨_, h0⟩ | ⟨r, o, cap, rfl, hr1, hr2, hr3, hr4, hr5, hr6⟩
      · rw [h0] at hn; simp at hn; omega
      rw [← hn] at hrow hr4
      have HOR := hide (show oRow wr base g (.slice (some ⟨r, o, none⟩) n cap) (L2.drop (64 * m)) from .inr ⟨r, o, cap, by rw [hn], hr1, hr2, hr3, by rw [← hn]; exact hr4, hr5, hr6⟩)
      have hB64 := hide (block_bytes hr6 (by rw [← hn]; exact hge))
      have c8 := hash_rest hrow
      have hge' : (64 : Int) ≤ (n : Int) := by omega
      have hcap' : (64 : Int) ≤ (cap : Int) := by omega
      have HN := hide hn
      have hrD := hide (show wr.drew.rowIs g 191 10 (hashV (stAt L2 m) (.slice (some ⟨r, o, none⟩) n cap) (.int .u64 (L2.length : Nat))) from hrow)
      have hTD := hide (show Tab wr.drew from hT.out)
      have hBD := hide (show ∀ j, j < 64 → byteAt ⟨((L2.drop (64 * m)).take 64).toArray⟩ j < 256 ∧ wr.drew.cell? ⟨r, o + j, none⟩ = some (.int .u8 (byteAt ⟨((L2.drop (64 * m)).take 64).toArray⟩ j : Nat)) from hB64.out)
      clear hn hr5 hr6 hB64
      go_wp2_with fail
      go_region_held3 (fun w' => w'.cell? ⟨g, 8, none⟩ = some (.slice (some ⟨r, o, none⟩) n cap)) (first | exact hash_rest hrow' | go_keep)
        (first | (go_at_call 153; refine (take g r o cap (stAt L2 m) _ _ _ wr.drew hr3 hBD.out hrD.out hTD.out (by omega)).mono ?_; rintro e w' ⟨rfl, hrow', hgr'⟩))
      rename_i hHeld
      have f8 := hrow'.frozen 8
      have hgr : wr.grownBy w' (some g) := ⟨hgr'.os, hgr'.tape, hgr'.output, hgr'.size, hgr'.block⟩
      have hT' := hide (show Tab w' from hTD.out.below (grownBy_below hgr' (Nat.le_refl g) (Nat.le_of_lt hrow.lt)) (by omega))
      have hor' := hide ((HOR.out.kept hgr).drop64 hge HN.out)
      have hB' := hide (hB.out.trans (grownBy_below hgr hbg (by have := hrow.lt; omega)))
      have hR := hide (restLen_of c8)
      have hml' := hide (show 64 * (m + 1) ≤ L2.length by have h := HN.out; rw [List.length_drop] at h; omega)
      clear hT hTD hBD hrD HOR hB hrow c8 hgr' hgr
      go_wp2_with fail
      rw [List.drop_drop, show 64 * m + 64 = 64 * (m + 1) by omega] at hor'
      have hB'' := fun v => hB'.out.setCell (p := ⟨g, 8, none⟩) hbg v
      refine ⟨⟨m + 1, ⟨_, hash_set8 hrow' _, hor'.out.kept (grownBy_set ⟨rfl, rfl, rfl, Nat.le_refl _, fun _ _ _ => rfl⟩ _), hml'.out⟩, hT'.out.below ((Below.refl g _).setCell (Nat.le_refl _) _) (by omega), hB'' _⟩, ?_⟩
      rw [hR.out, restLen_of (World.cell?_setCell_same _ _ _ hHeld)]
      omega
    · have hlt' : (n : Int) < 64 := by omega
      obtain ⟨a, cap, e⟩ := hor.form
      rw [← hn] at e
      subst e
      have c8 := hash_rest hrow
      have hE := hide (show L2.length / 64 = m by rw [hn, List.length_drop] at hlt'; omega)
      have HN := hide hn
      have HO := hide hor
      clear hn hor
      go_wp2_with fail
      go_end0
      rw [hE.out]
      exact ⟨rfl, ⟨_, hrow, HO.out, hml⟩, hB.out⟩
end Go.Proofs.YtconcnndghmdfaaGreatDoor
namespace Go.Proofs.YtconcnndghmdfaaGreatDoor
open Go.RowKit
theorem outB_at (st : Nat → Nat) (j : Nat) (hj : j < 4) : ∀ n i, i < n → (outB st n)[4 * i + j]? = (wordB (st i))[j]?
  | n + 1, i, h => by
    rw [← outB_succ]
    by_cases e : i < n
    · rw [List.getElem?_append_left (by rw [outB_len]; omega)]; exact outB_at st j hj n i e
    · have : i = n := by omega
      subst this
      rw [List.getElem?_append_right (by rw [outB_len]; omega), outB_len, show 4 * i + j - 4 * i = j by omega]
theorem wordB_at (x j : Nat) (hj : j < 4) : (wordB x)[j]? = some (UInt8.ofNat (x / 2 ^ (24 - 8 * j) % 256)) := by
  match j, hj with
  | 0, _ => rfl
  | 1, _ => rfl
  | 2, _ => rfl
  | 3, _ => simp [wordB]
set_option maxRecDepth 100000 in
set_option maxHeartbeats 1600000 in
theorem tell (g : Nat) (st : Nat → Nat) (rv mv : Value) (w : World) (hst : ∀ j, st j < 4294967296) (hrow : w.rowIs g 191 10 (hashV st rv mv)) :
    Calls Tryz.prog 154 #[.pointer (some ⟨g, 0, none⟩)] w fun e w' => e = .returned (.string ⟨(outB st 8).toArray⟩) ∧ Below w.heap.size w w' := by
  have hlt := hrow.lt
  have HR := hide hrow
  clear hrow
  go_enter Tryz.func154, Tryz.ntmps154
  go_wp2_with fail
  go_loopw [8] (fun i wx => ∃ (k : Nat) (f : Nat → UInt8), k ≤ 8 ∧ i = .int .i64 k ∧ Hid (∀ p, p < 4 * k → (outB st 8)[p]? = some (f p)) ∧ wx.rowIs w.heap.size 238 32 (u8V f) ∧ Below w.heap.size w wx) (fun i _ => 8 - (intOf i).toNat)
  case atStart => exact ⟨0, fun _ => 0, by omega, rfl, fun p hp => by omega, zeros8_row 32 w _ _ rfl, (Below.refl _ _).alloc (Nat.le_refl _) _⟩
  case round =>
    obtain ⟨k, f, hk, rfl, hf, hrw, hbl⟩ := hrel
    by_cases hlt8 : k < 8
    · have ck : wr.cell? ⟨g, k, none⟩ = some (.int .u32 (st k : Nat)) := (hbl.cell (p := ⟨g, k, none⟩) hlt).trans (hash_cell HR.out k hlt8)
      have hsk := hst k
      obtain ⟨S, hS⟩ : ∃ S, S = st k := ⟨_, rfl⟩
      rw [← hS] at ck hsk
      have HS := hide hS
      clear hS
      have hsk' : (S : Int) ≤ 4294967295 := by omega
      go_wp2_with fail
      go_region
      go_wp2_with fail
      go_loopw [14] (fun i wx => ∃ (m : Nat) (f : Nat → UInt8), m ≤ 4 ∧ i = .int .i64 m ∧ Hid (∀ p, p < 4 * k + m → (outB st 8)[p]? = some (f p)) ∧ wx.rowIs w.heap.size 238 32 (u8V f) ∧ Below w.heap.size w wx) (fun i _ => 4 - (intOf i).toNat)
      case atStart => exact ⟨0, f, by omega, rfl, fun p hp => hf.out p (by omega), hrw, hbl.drew⟩
      case round =>
        clear hf hrw hbl ck
        obtain ⟨m, f, hm, rfl, hf, hrw, hbl⟩ := hrel
        by_cases hlt4 : m < 4
        · obtain ⟨q0, e0⟩ : ∃ q, q = 4 * k := ⟨_, rfl⟩
          obtain ⟨q, e⟩ : ∃ q, q = 4 * k + m := ⟨_, rfl⟩
          obtain ⟨z, ez⟩ : ∃ q, q = 24 - 8 * m := ⟨_, rfl⟩
          obtain ⟨y, ey⟩ : ∃ q, q = 8 * m := ⟨_, rfl⟩
          have m0 : IntKind.i64.wrap (4 * (k : Int)) = (q0 : Int) := by simp only [IntKind.wrap_i64]; omega
          have m1 : IntKind.i64.wrap ((q0 : Int) + (m : Int)) = (q : Int) := by simp only [IntKind.wrap_i64]; omega
          have m2 : IntKind.i64.wrap (8 * (m : Int)) = (y : Int) := by simp only [IntKind.wrap_i64]; omega
          have m3 : IntKind.i64.wrap (24 - (y : Int)) = (z : Int) := by simp only [IntKind.wrap_i64]; omega
          have nq : (q : Int) < 32 := by omega
          have hz : z ≤ 24 := by omega
          have hz' : (z : Int) ≤ 24 := by omega
          have cq := hrw.cell (i := q) (by omega)
          have hfz := hrw.frozen q
          have HE := hide e
          have HZ := hide ez
          have hq32 : q < 32 := by omega
          clear e0 e ez ey
          go_wp2_with fail
          obtain ⟨Y, hY⟩ : ∃ Y : UInt8, Y = UInt8.ofNat (S / 2 ^ z % 256) := ⟨_, rfl⟩
          have hv : ((S : Int) / 2 ^ z % 256) = ((Y.toNat : Nat) : Int) := by
            rw [hY, ofNat_byte _ (by omega)]; simp
          rw [hv]
          refine ⟨⟨m + 1, fun j => if j = q then Y else f j, by omega, by go_num, fun p hp => ?_, set_byte hrw rfl, hbl.setCell (Nat.le_refl _) _⟩, by simp [intOf]; omega⟩
          by_cases e : p = q
          · show _ = some (if p = q then Y else f p)
            rw [if_pos e, e, HE.out, outB_at st m hlt4 8 k hlt8, wordB_at _ _ hlt4, hY, HS.out, HZ.out]
          · show _ = some (if p = q then Y else f p)
            rw [if_neg e]; exact hf.out p (by have := HE.out; omega)
        · go_wp2_with fail
          exact ⟨⟨k + 1, f, by omega, by go_num, fun p hp => hf.out p (by omega), hrw, hbl⟩, by simp [intOf]; omega⟩
    · have hcv := conv_row (P := Tryz.prog) (cap := 32) hrw (fun j hj => hf.out j (by omega)) (by rw [outB_len]) Tryz.underlying22 Tryz.underlying5 Tryz.underlying9
      go_wp2_with fail
      go_ret
      exact ⟨rfl, hbl⟩
end Go.Proofs.YtconcnndghmdfaaGreatDoor
namespace Go.Proofs.YtconcnndghmdfaaGreatDoor
open Go.RowKit
/-- The bytes of a number, the highest one first. -/
def hiB (N j : Nat) : UInt8 := UInt8.ofNat (N / 2 ^ (56 - 8 * j) % 256)
theorem hiB_eq (N m s : Nat) (hs : s = 56 - 8 * m) : (N : Int) / 2 ^ s % 256 = ((hiB N m).toNat : Int) := by
  rw [hiB, ← hs, UInt8.toNat_ofNat']
  have e : ((N : Int) / 2 ^ s) = ((N / 2 ^ s : Nat) : Int) := by simp
  rw [e]; omega
theorem Tryz.size8b : (Tryz.prog.info? 105).map (·.size) = some 8 := by kernel_rfl
set_option maxRecDepth 100000 in
set_option maxHeartbeats 6400000 in
theorem imp_highest (N : Nat) (w : World) (hN : N ≤ 9223372036854775807) :
    Calls Tryz.prog 78 #[.int .u64 (N : Int)] w fun e w' => e = .returned (.agg (bL 8 (hiB N)).toArray) ∧ Below w.heap.size w w' := by
  have hN' : (N : Int) ≤ 9223372036854775807 := by omega
  go_enter Tryz.func78, Tryz.ntmps78
  go_wp2_with fail
  go_loopw [5] (fun i wx => ∃ (k : Nat) (f : Nat → UInt8), k ≤ 8 ∧ i = .int .i64 k ∧ Hid (∀ p, p < k → f p = hiB N p) ∧ wx.rowIs w.heap.size 105 8 (u8V fun _ => 0) ∧ wx.rowIs (w.heap.size + 1) 105 8 (u8V f) ∧ Below w.heap.size w wx) (fun i _ => 8 - (intOf i).toNat)
  case atStart =>
    refine ⟨0, fun _ => 0, by omega, rfl, fun p hp => by omega, (zeros8_row 8 w _ _ rfl).alloc _, ?_, ((Below.refl _ _).alloc (Nat.le_refl _) _).alloc (by simp) _⟩
    have h := zeros8_row 8 (w.alloc (.cells (List.replicate 8 (Value.int .u8 0)).toArray 105)) _ 105 rfl
    rw [World.size_alloc] at h
    exact h
  case round =>
    obtain ⟨k, f, hk, rfl, hf, r0, r1, hbl⟩ := hrel
    by_cases hlt8 : k < 8
    · obtain ⟨y, ey⟩ : ∃ q, q = 8 * k := ⟨_, rfl⟩
      obtain ⟨s, es⟩ : ∃ q, q = 56 - 8 * k := ⟨_, rfl⟩
      have m2 : IntKind.i64.wrap (8 * (k : Int)) = (y : Int) := by simp only [IntKind.wrap_i64]; omega
      have m3 : IntKind.i64.wrap (56 - (y : Int)) = (s : Int) := by simp only [IntKind.wrap_i64]; omega
      have hs' : (s : Int) ≤ 56 := by omega
      have cq := r1.cell (i := k) hlt8
      have hfz := r1.frozen k
      have HS := hide es
      clear ey es
      go_wp2_with fail
      have hv := hiB_eq N k s HS.out
      rw [hv]
      refine ⟨⟨k + 1, fun j => if j = k then hiB N k else f j, by omega, by go_num, fun p hp => ?_, r0.setOther (by simp) _, set_byte r1 rfl, hbl.setCell (by simp) _⟩, by simp [intOf]; omega⟩
      show (if p = k then hiB N k else f p) = _
      by_cases e : p = k
      · rw [if_pos e, e]
      · rw [if_neg e]; exact hf.out p (by omega)
    · have r1' : wr.rowIs (w.heap.size + 1) 105 8 (u8V (hiB N)) := r1.congr fun i hi => by rw [u8V, u8V, hf.out i (by omega)]
      have hth := row_there (o := 0) (n := 8) r0 (by omega)
      have hfin := row_setCells0 (k := hiB N) r0
      clear hf r1
      go_wp2_with (first | (refine wpList_load_B rfl 105 (.tmp 3) rfl (w.heap.size + 1) 0 rfl _ _ 8 _ (hiB N) _ r1' (by omega) (fun j _ => by rw [Nat.zero_add]) Tryz.underlying105 rfl Tryz.size8b ?_) | (refine wpList_store_B rfl 105 (.tmp 2) (.tmp 17) rfl w.heap.size 0 8 (hiB N) rfl rfl hth Tryz.size8b ?_))
      exact bodyPost_ret (ret_B Tryz.results78 _ _ w.heap.size 8 _ _ _ rfl hfin Tryz.underlying105 rfl Tryz.size8b) rfl ⟨rfl, below_setCells' hbl (Nat.le_refl _)⟩
end Go.Proofs.YtconcnndghmdfaaGreatDoor
