/- A map from numbers to sectors (arrays of 64 bytes) that the call owns: stored into, looked up, ranged over. No program is named here. -/
import Derived.Maps.RangeWalk
import Derived.Test.YtipeelkmmjgehabArr
namespace Go.Proofs.Ytipeelkmmjgehab
open Go Go.RowKit
open Go.Maps (Keyed)
/-- A sector as a value: what goes in of the text, and bytes 0 behind it. -/
def secV (t : ByteArray) : Value := .agg (bL 64 (bF t)).toArray
/-- The bytes of a sector. -/
def secD (t : ByteArray) : List UInt8 := (List.range 64).map (bF t)
/-- The text of a sector. -/
def secS (t : ByteArray) : ByteArray := ⟨(secD t).toArray⟩
theorem secV_D {t u : ByteArray} (h : secV t = secV u) : secD t = secD u := by
  have e : bL 64 (bF t) = bL 64 (bF u) := by
    have e1 : (bL 64 (bF t)).toArray = (bL 64 (bF u)).toArray := by unfold secV at h; injection h
    simpa using congrArg Array.toList e1
  unfold secD
  apply List.map_congr_left
  intro j hj
  have hj' := List.mem_range.1 hj
  have h1 := bL_at 64 (bF t) j hj'
  rw [e, bL_at 64 (bF u) j hj'] at h1
  have h2 := Option.some.inj h1
  simp only [u8V, Value.int.injEq, true_and] at h2
  exact (UInt8.toNat_inj.1 (by omega)).symm
theorem secD_V {t u : ByteArray} (h : secD t = secD u) : secV t = secV u := by
  unfold secV
  rw [bL_congr (f := bF t) (g := bF u) fun j hj => ?_]
  have h1 : (secD t)[j]? = (secD u)[j]? := by rw [h]
  simpa [secD, hj] using h1
theorem bF_mk (l : List UInt8) (j : Nat) (h : j < l.length) : bF ⟨l.toArray⟩ j = l[j] := by
  simp [bF, h]
theorem secD_S (t : ByteArray) : secD (secS t) = secD t := by
  unfold secD
  apply List.map_congr_left
  intro j hj
  have hj' := List.mem_range.1 hj
  show bF ⟨(secD t).toArray⟩ j = _
  rw [bF_mk _ _ (by simpa [secD] using hj')]
  simp [secD]
theorem secV_S (t : ByteArray) : secV (secS t) = secV t := secD_V (secD_S t)
theorem secS_size (t : ByteArray) : (secS t).size = 64 := by show (secD t).toArray.size = 64; simp [secD]
theorem secS_self {t : ByteArray} (h : t.size = 64) : secS t = t := by
  apply ByteArray.ext
  apply Array.ext_getElem?
  intro j
  show (secD t).toArray[j]? = _
  rw [List.getElem?_toArray, ← Array.getElem?_toList]
  by_cases hj : j < 64
  · rw [bF_at t 64 h j hj]; simp [secD, hj]
  · rw [List.getElem?_eq_none (by simp [secD]; omega), List.getElem?_eq_none (by have e : t.data.toList.length = t.size := rfl; omega)]
theorem secS_congr {t u : ByteArray} (h : secD t = secD u) : secS t = secS u := by unfold secS; rw [h]
theorem secV_inj {t u : ByteArray} (ht : t.size = 64) (hu : u.size = 64) (h : secV t = secV u) : t = u := by
  rw [← secS_self ht, ← secS_self hu, secS_congr (secV_D h)]
/-- How a sector reads. -/
structure SecG (R : Value → Option (DataW Unit × List MemPlace)) : Prop where
  yes : ∀ t, R (secV t) = some (.lit (.string (secD t)), [])
  inv : ∀ v y, R v = some y → ∃ t, v = secV t ∧ y = (.lit (.string (secD t)), [])
theorem secG_is : ∃ R, SecG R := by
  classical
  refine ⟨fun v => if h : ∃ t, v = secV t then some (.lit (.string (secD h.choose)), []) else none, ⟨fun t => ?_, fun v y hy => ?_⟩⟩
  · have h : ∃ u, secV t = secV u := ⟨t, rfl⟩
    show (if h : ∃ u, secV t = secV u then some (DataW.lit (.string (secD h.choose)), ([] : List MemPlace)) else none) = _
    rw [dif_pos h, secV_D h.choose_spec]
  · by_cases h : ∃ t, v = secV t
    · simp only [dif_pos h, Option.some.injEq] at hy
      exact ⟨h.choose, h.choose_spec, hy.symm⟩
    · simp only [dif_neg h] at hy
      cases hy
/-- What the datum says of each number. -/
def SecT (D : DataW Unit) (M : Int → Option ByteArray) : Prop := ∀ a, (M a = none → Maps.has D (.int .i64 a) = false) ∧ ∀ t, M a = some t → ∀ z, D.atKey (.int .i64 a) z = .lit (.string (secD t))
/-- The block mb is a map of at most n numbers, M. -/
def SecM (P : Program) (k : TypeId) (w : World) (mb n : Nat) (M : Int → Option ByteArray) : Prop :=
  ∃ (R : Value → Option (DataW Unit × List MemPlace)) (D : DataW Unit), SecG R ∧ w.ownsMap P k R mb n D ∧ SecT D M
/-- The map is ranged over; what is left to come is L. -/
def SecR (P : Program) (k : TypeId) (w : World) (mb r n : Nat) (M : Int → Option ByteArray) (L : Int → Bool) : Prop :=
  ∃ (R : Value → Option (DataW Unit × List MemPlace)) (D : DataW Unit) (left : Lit → Bool) (cnt : Nat), SecG R ∧ w.ranges P k R mb r n D left cnt ∧ SecT D M ∧ ∀ a, left (.int .i64 a) = L a
/-- One number more. -/
def updM (M : Int → Option ByteArray) (a : Int) (t : ByteArray) (b : Int) : Option ByteArray := if b = a then some t else M b
section
variable {P : Program} {k : TypeId} {w : World} {mb n r : Nat} {M : Int → Option ByteArray} {L : Int → Bool}
theorem SecM.made (w : World) (P : Program) (k : TypeId) : SecM P k (w.alloc (.map #[] 0)) w.heap.size 0 (fun _ => none) := by
  obtain ⟨R, hR⟩ := secG_is
  exact ⟨R, _, hR, World.ownsMap_made w P k R, fun a => ⟨fun _ => rfl, fun t h => by cases h⟩⟩
theorem SecM.lt (h : SecM P k w mb n M) : mb < w.heap.size := by obtain ⟨R, D, _, h, _⟩ := h; exact h.lt
theorem SecM.kept {w' : World} {row : Option Nat} (h : SecM P k w mb n M) (hg : w.grownBy w' row) (hne : some mb ≠ row) : SecM P k w' mb n M := by
  obtain ⟨R, D, h1, h2, h3⟩ := h
  exact ⟨R, D, h1, h2.kept hg hne, h3⟩
theorem SecM.blk {w' : World} (h : SecM P k w mb n M) (hb : w'.heap[mb]? = w.heap[mb]?) : SecM P k w' mb n M := by
  obtain ⟨R, D, h1, ⟨es, clock, e, h2⟩, h3⟩ := h
  exact ⟨R, D, h1, ⟨es, clock, hb.trans e, h2⟩, h3⟩
theorem SecM.below {w' : World} (h : SecM P k w mb n M) (hb : Below w.heap.size w w') : SecM P k w' mb n M := h.blk (hb.block mb h.lt)
theorem SecM.mono (h : SecM P k w mb n M) {n' : Nat} (hn : n ≤ n') : SecM P k w mb n' M := by
  obtain ⟨R, D, h1, h2, h3⟩ := h
  exact ⟨R, D, h1, h2.mono hn, h3⟩
theorem own_isMap {R : Value → Option (DataW Unit × List MemPlace)} {D : DataW Unit} (h : w.ownsMap P k R mb n D) : Maps.IsMap D := by
  obtain ⟨es, clock, _, _, _, e⟩ := h
  exact ⟨_, e⟩
theorem SecT.has {D : DataW Unit} (h : SecT D M) (a : Int) : Maps.has D (.int .i64 a) = (M a).isSome := by
  cases e : M a with
  | none => rw [(h a).1 e]; rfl
  | some t => rw [Maps.has_true_of_atKey ((h a).2 t e)]; rfl
theorem SecT.put {D : DataW Unit} (h : SecT D M) (hD : Maps.IsMap D) (a : Int) (t : ByteArray) (hk : WideAt.IsKeyLit (.int .i64 a)) : SecT (D.put (.int .i64 a) (.lit (.string (secD t)))) (updM M a t) := by
  intro b
  by_cases e : b = a
  · subst e
    refine ⟨fun h1 => by simp [updM] at h1, fun u hu z => ?_⟩
    simp only [updM, if_pos] at hu
    rw [Maps.atKey_put_same hD hk, Option.some.inj hu]
  · have e1 : updM M a t b = M b := if_neg e
    have e2 : Lit.int .i64 b ≠ Lit.int .i64 a := by intro h; injection h with _ h; exact e h
    rw [e1]
    refine ⟨fun h1 => by rw [Maps.has_put_other e2]; exact (h b).1 h1, fun u hu z => by rw [Maps.atKey_put_other e2]; exact (h b).2 u hu z⟩
theorem SecM.update {t e : TypeId} (h : SecM P k w mb n M) (hk : P.underlying k = some (.int .i64)) (ht : P.underlying t = some (.map k e)) (hn : n < maxLen) (a : Int) (hwf : (Lit.int .i64 a).wf = true) (T : ByteArray) :
    ∃ w', (Instr.mapUpdate t (.map (some mb)) (.int .i64 a) (secV T)).run P w = .ok () w' ∧ SecM P k w' mb (n + 1) (updM M a T) ∧ w.grownBy w' (some mb) := by
  obtain ⟨R, D, hR, ho, hT⟩ := h
  have hkey := Maps.keyOf_int_mk hk hwf
  obtain ⟨w', h1, h2, h3⟩ := ho.update (Maps.int_keyed hk) ht hn hkey (hR.yes T)
  exact ⟨w', h1, ⟨R, _, hR, h2, hT.put (own_isMap ho) a T ((Maps.int_keyed hk).key hkey)⟩, h3⟩
theorem SecM.look {t e : TypeId} (h : SecM P k w mb n M) (hk : P.underlying k = some (.int .i64)) (ht : P.underlying t = some (.map k e)) (hz : (zeroValue e).run P w = .ok (secV ⟨#[]⟩) w) (a : Int) (hwf : (Lit.int .i64 a).wf = true) :
    ∃ T ok, (Instr.lookup t (.map (some mb)) (.int .i64 a) true).run P w = .ok (.tuple #[secV T, .bool ok]) w ∧ (ok = true ∧ M a = some T ∨ ok = false ∧ M a = none) := by
  obtain ⟨R, D, hR, ho, hT⟩ := h
  have hkey := Maps.keyOf_int_mk hk hwf
  obtain ⟨v, ps, h1, h2⟩ := ho.look_ok (Maps.int_keyed hk) ht hz (hR.yes _) hkey
  rw [hT.has a] at h1
  obtain ⟨u, rfl, hu⟩ := hR.inv _ _ h2
  cases e : M a with
  | none => exact ⟨u, false, by rw [h1, e]; rfl, .inr ⟨rfl, rfl⟩⟩
  | some T =>
    have h4 := (hT a).2 T e (DataW.lit (.string (secD ⟨#[]⟩)))
    rw [h4] at hu
    have h5 : secD T = secD u := by simpa using congrArg Prod.fst hu
    exact ⟨T, true, by rw [h1, e, secD_V h5]; rfl, .inl ⟨rfl, rfl⟩⟩
theorem SecM.range {t e : TypeId} (h : SecM P k w mb n M) (hk : P.underlying k = some (.int .i64)) (ht : P.underlying t = some (.map k e)) :
    ∃ w', (Instr.range t (.map (some mb))).run P w = .ok (.pointer (some ⟨w.heap.size, 0, none⟩)) w' ∧ SecR P k w' mb w.heap.size n M (fun a => (M a).isSome) ∧ w.grownBy w' none ∧ w'.heap.size = w.heap.size + 1 := by
  obtain ⟨R, D, hR, ho, hT⟩ := h
  obtain ⟨w', h1, h2, h3, h4⟩ := ho.range (Maps.int_keyed hk) ht
  exact ⟨w', h1, ⟨R, D, _, _, hR, h2, hT, hT.has⟩, h3, h4⟩
theorem SecR.kept {w' : World} (h : SecR P k w mb r n M L) (hb : w'.heap[mb]? = w.heap[mb]?) (hr : w'.heap[r]? = w.heap[r]?) : SecR P k w' mb r n M L := by
  obtain ⟨R, D, left, cnt, hR, ⟨es, clock, since, seen, c0, h1, F, hs, hD, h2, rest⟩, hT, hL⟩ := h
  exact ⟨R, D, left, cnt, hR, ⟨es, clock, since, seen, c0, hb.trans h1, F, hs, hD, hr.trans h2, rest⟩, hT, hL⟩
theorem SecR.lt (h : SecR P k w mb r n M L) : mb < w.heap.size ∧ r < w.heap.size := by
  obtain ⟨R, D, left, cnt, hR, h, _⟩ := h
  exact ⟨h.owns.lt, h.lt⟩
theorem left_kept {w w' : World} {mb r : Nat} (hb : w'.heap[mb]? = w.heap[mb]?) (hr : w'.heap[r]? = w.heap[r]?) : w'.rangeLeft mb r = w.rangeLeft mb r := by
  unfold World.rangeLeft
  rw [hb, hr]
theorem SecR.next (h : SecR P k w mb r n M L) (hk : P.underlying k = some (.int .i64)) (ty : TypeId) :
    ((∀ a, L a = false) ∧ (Instr.next (.pointer (some ⟨r, 0, none⟩)) false ty).run P w = .ok (.tuple #[.bool false]) w) ∨
    ∃ a T w', (Lit.int .i64 a).wf = true ∧ L a = true ∧ M a = some T ∧ (Instr.next (.pointer (some ⟨r, 0, none⟩)) false ty).run P w = .ok (.tuple #[.bool true, .int .i64 a, secV T]) w' ∧ SecR P k w' mb r n M (fun b => L b && !decide (b = a)) ∧ w'.rangeLeft mb r < w.rangeLeft mb r ∧
      w.grownBy w' (some r) ∧ w'.heap.size = w.heap.size ∧ (Instr.entry (.pointer (some ⟨r, 0, none⟩))).run P w' = .ok (.tuple #[.int .i64 a, secV T]) w' := by
  obtain ⟨R, D, left, cnt, hR, h, hT, hL⟩ := h
  rcases h.next (Maps.int_keyed hk) ty with ⟨_, hl, hrun⟩ | ⟨key, v, kl, y, w', cnt', hkey, hlk, hv, hat, hrun, hrg, hlt, hgr, hsz, hen⟩
  · exact .inl ⟨fun a => by rw [← hL a]; exact hl _, hrun⟩
  · obtain ⟨a, rfl, rfl, hwf⟩ := Maps.keyOf_int_inv hk hkey
    obtain ⟨u, rfl, rfl⟩ := hR.inv _ _ hv
    have hh := hT.has a
    rw [Maps.has_true_of_atKey hat] at hh
    cases e : M a with
    | none => rw [e] at hh; cases hh
    | some T =>
      have h5 : secD T = secD u := by
        have h6 := ((hT a).2 T e .nil).symm.trans (hat .nil)
        simpa using h6
      have h7 := secD_V h5
      refine .inr ⟨a, T, w', hwf, by rw [← hL a]; exact hlk, e, by rw [h7]; exact hrun, ⟨R, D, _, cnt', hR, hrg, hT, fun b => ?_⟩, by rw [hrg.left_eq, h.left_eq]; exact hlt, hgr, hsz, by rw [h7]; exact hen⟩
      show (left (.int .i64 b) && !(Lit.int .i64 b).sameKey (.int .i64 a)) = _
      rw [hL b]
      congr 2
      by_cases eb : b = a
      · subst eb; rw [WideAt.sameKey_self ((Maps.int_keyed hk).key hkey)]; simp
      · rw [Maps.sameKey_ne (fun h => by injection h with _ h; exact eb h)]; simp [eb]
end
section
variable {P : Program} (w : World) {ops : Array Oper} {rest : List Oper} {o : Oper} {a : Act} {Q : Exit → Act → World → Prop}
theorem wpList_sec_update (hg : o.guard = none) (m x v : Operand) (t : TypeId) (hop : o.op = Op.mapUpdate t m x v) (k e : TypeId) (hk : P.underlying k = some (.int .i64)) (ht : P.underlying t = some (.map k e)) (mb n : Nat) (M : Int → Option ByteArray)
    (hm : a.eval m = .map (some mb)) (h : SecM P k w mb n M) (hn : n < maxLen) (A : Int) (T : ByteArray) (hx : a.eval x = .int .i64 A) (hwf : (Lit.int .i64 A).wf = true) (hv : a.eval v = secV T)
    (hK : ∀ w', SecM P k w' mb (n + 1) (updM M A T) → w.grownBy w' (some mb) → wpList P ops Q rest (a.put o.dst undef) w') : wpList P ops Q (o :: rest) a w := by
  refine wpList_plain hg fun K' hK' => ?_
  obtain ⟨w', hrun, h1, h2⟩ := h.update hk ht hn A hwf T
  unfold Oper.wp
  simp [execOp, hop, hm, hx, hv, hrun, Result.andThen]
  exact hK' _ _ (hK w' h1 h2)
theorem wpList_sec_look (hg : o.guard = none) (m x : Operand) (t : TypeId) (hop : o.op = Op.lookup t m x true) (k e : TypeId) (hk : P.underlying k = some (.int .i64)) (ht : P.underlying t = some (.map k e)) (hz : (zeroValue e).run P w = .ok (secV ⟨#[]⟩) w) (mb n : Nat) (M : Int → Option ByteArray)
    (hm : a.eval m = .map (some mb)) (h : SecM P k w mb n M) (A : Int) (hx : a.eval x = .int .i64 A) (hwf : (Lit.int .i64 A).wf = true)
    (hK : ∀ T ok, (ok = true ∧ M A = some T ∨ ok = false ∧ M A = none) → wpList P ops Q rest (a.put o.dst (.tuple #[secV T, .bool ok])) w) : wpList P ops Q (o :: rest) a w := by
  refine wpList_plain hg fun K' hK' => ?_
  obtain ⟨T, ok, hrun, h1⟩ := h.look hk ht hz A hwf
  unfold Oper.wp
  simp [execOp, hop, hm, hx, hrun, Result.andThen]
  exact hK' _ _ (hK T ok h1)
theorem wpList_sec_range (hg : o.guard = none) (m : Operand) (t : TypeId) (hop : o.op = Op.range t m) (k e : TypeId) (hk : P.underlying k = some (.int .i64)) (ht : P.underlying t = some (.map k e)) (mb n : Nat) (M : Int → Option ByteArray)
    (hm : a.eval m = .map (some mb)) (h : SecM P k w mb n M)
    (hK : ∀ w', SecR P k w' mb w.heap.size n M (fun a => (M a).isSome) → w.grownBy w' none → w'.heap.size = w.heap.size + 1 → wpList P ops Q rest (a.put o.dst (.pointer (some ⟨w.heap.size, 0, none⟩))) w') :
    wpList P ops Q (o :: rest) a w := by
  refine wpList_plain hg fun K' hK' => ?_
  obtain ⟨w', hrun, r1, r2, r3⟩ := h.range hk ht
  unfold Oper.wp
  simp [execOp, hop, hm, hrun, Result.andThen]
  exact hK' _ _ (hK w' r1 r2 r3)
theorem wpList_sec_next (hg : o.guard = none) (it : Operand) (hop : o.op = Op.next it false) (k : TypeId) (hk : P.underlying k = some (.int .i64)) (mb r n : Nat) (M : Int → Option ByteArray) (L : Int → Bool)
    (hit : a.eval it = .pointer (some ⟨r, 0, none⟩)) (h : SecR P k w mb r n M L)
    (hDone : (∀ a, L a = false) → wpList P ops Q rest (a.put o.dst (.tuple #[.bool false])) w)
    (hMore : ∀ (A : Int) (T : ByteArray) (w' : World), (Lit.int .i64 A).wf = true → L A = true → M A = some T → SecR P k w' mb r n M (fun b => L b && !decide (b = A)) → w'.rangeLeft mb r < w.rangeLeft mb r → w.grownBy w' (some r) → w'.heap.size = w.heap.size →
      (Instr.entry (.pointer (some ⟨r, 0, none⟩))).run P w' = .ok (.tuple #[.int .i64 A, secV T]) w' → wpList P ops Q rest (a.put o.dst (.tuple #[.bool true, .int .i64 A, secV T])) w') : wpList P ops Q (o :: rest) a w := by
  refine wpList_plain hg fun K' hK' => ?_
  unfold Oper.wp
  rcases h.next hk o.type with ⟨hl, hrun⟩ | ⟨A, T, w', h1, h2, h3, hrun, h4, h5, h6, h7, h8⟩
  · simp [execOp, hop, hit, hrun, Result.andThen]
    exact hK' _ _ (hDone hl)
  · simp [execOp, hop, hit, hrun, Result.andThen]
    exact hK' _ _ (hMore A T w' h1 h2 h3 h4 h5 h6 h7 h8)
end
end Go.Proofs.Ytipeelkmmjgehab
