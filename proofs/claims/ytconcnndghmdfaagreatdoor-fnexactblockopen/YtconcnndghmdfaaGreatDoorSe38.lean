/- Put together: PastM, PastK, PastP. -/
import Derived.WideKeyEntry
import Derived.DeepKeys4
import Derived.Below
import Derived.Laws.AppendOwn
import Derived.Test.YtconcnndghmdfaaGreatDoorSe12
import Derived.Test.YtconcnndghmdfaaGreatDoorRows
import Derived.Test.YtconcnndghmdfaaGreatDoorChecked
import Derived.Test.YtconcnndghmdfaaGreatDoorSe5
import Derived.Test.YtconcnndghmdfaaGreatDoorSe8
namespace Go.Proofs.YtconcnndghmdfaaGreatDoor
open Go Go.RowKit Go.MapKept Go.WideElems Go.ChangeMaps
open Go.WideMaps (KeyLaw)
def intV (n : Nat) : Value := .int .i64 (n : Int)
/-- Three bytes as a key. -/
def kV (f : Nat → UInt8) : Value := .agg (bL 3 f).toArray
theorem own_of_block {w w' : World} {base e s : Nat} {v : Value} {n : Nat} {xs : List Value} (h : w.ownsRow base e s v n xs) (hb : ∀ g, v.ownBlock = some g → w'.heap[g]? = w.heap[g]?) : w'.ownsRow base e s v n xs := by
  obtain ⟨h1, h | ⟨g, cap, cur, rfl, h2, h3, h4⟩⟩ := h
  · exact ⟨h1, .inl h⟩
  · exact ⟨h1, .inr ⟨g, cap, cur, rfl, h2, (hb g rfl).trans h3, h4⟩⟩
theorem setBlock_other (w : World) (b k : Nat) (o : Obj) (h : k ≠ b) : (setBlock w b o).heap[k]? = w.heap[k]? := by
  show (w.heap.setIfInBounds b o)[k]? = _
  rw [Array.getElem?_setIfInBounds_ne (fun e => h e.symm)]
theorem setBlock_same (w : World) (b : Nat) (o : Obj) (h : b < w.heap.size) : (setBlock w b o).heap[b]? = some o := by
  show (w.heap.setIfInBounds b o)[b]? = _
  rw [Array.getElem?_setIfInBounds_self_of_lt h]
theorem setBlock_size (w : World) (b : Nat) (o : Obj) : (setBlock w b o).heap.size = w.heap.size := by
  show (w.heap.setIfInBounds b o).size = _
  simp
theorem mem_set_cases {α : Type} {l : List α} {j : Nat} {a x : α} (h : x ∈ l.set j a) : x = a ∨ ∃ i, i ≠ j ∧ l[i]? = some x := by
  obtain ⟨i, hi⟩ := List.mem_iff_getElem?.1 h
  by_cases e : j = i
  · subst e
    rw [List.getElem?_set_self' ] at hi
    cases hl : l[j]? with
    | none => rw [hl] at hi; cases hi
    | some y => rw [hl] at hi; exact .inl (Option.some.inj hi).symm
  · rw [List.getElem?_set_ne e] at hi
    exact .inr ⟨i, fun h => e h.symm, hi⟩
structure PlM (w : World) (base mb e : Nat) (L : Value → List Nat) (No : Nat → Prop) (es : Array MapEntry) (clock : Nat) : Prop where
  blk : w.heap[mb]? = some (.map es clock)
  st : Stamped es clock
  keys : ∀ x ∈ es.toList, ∃ f, x.key = kV f
  own : ∀ x ∈ es.toList, w.ownsRow base e 1 x.val (L x.key).length ((L x.key).map intV)
  off : ∀ x ∈ es.toList, ∀ g, x.val.ownBlock = some g → ¬ No g
  all : ∀ v, L v ≠ [] → ∃ x ∈ es.toList, x.key = v
  sep : ∀ x ∈ es.toList, ∀ y ∈ es.toList, x.key ≠ y.key → ∀ g, x.val.ownBlock = some g → y.val.ownBlock ≠ some g
  hb : mb < base
theorem PlM.made {w : World} {base mb e : Nat} (h : w.heap[mb]? = some (.map #[] 0)) (hb : mb < base) : PlM w base mb e (fun _ => []) (fun _ => False) #[] 0 :=
  ⟨h, ⟨by simp, by simp, by simp⟩, by simp, by simp, by simp, fun v hv => absurd rfl hv, by simp, hb⟩
theorem PlM.kept {w w' : World} {base mb e : Nat} {L : Value → List Nat} {No : Nat → Prop} {es : Array MapEntry} {clock : Nat} (h : PlM w base mb e L No es clock)
    (hm : w'.heap[mb]? = w.heap[mb]?) (hr : ∀ g, base ≤ g → g < w.heap.size → ¬ No g → w'.heap[g]? = w.heap[g]?) : PlM w' base mb e L No es clock :=
  ⟨hm.trans h.blk, h.st, h.keys, fun x hx => own_of_block (h.own x hx) (fun g hg => hr g ((h.own x hx).lt g hg).1 ((h.own x hx).lt g hg).2 (h.off x hx g hg)), h.off, h.all, h.sep, h.hb⟩
theorem PlM.reno {w : World} {base mb e : Nat} {L : Value → List Nat} {No No' : Nat → Prop} {es : Array MapEntry} {clock : Nat} (h : PlM w base mb e L No es clock)
    (hn : ∀ g, No' g → No g ∨ w.heap.size ≤ g) : PlM w base mb e L No' es clock :=
  ⟨h.blk, h.st, h.keys, h.own, fun x hx g hg e => by
    rcases hn g e with h1 | h1
    · exact h.off x hx g hg h1
    · have := ((h.own x hx).lt g hg).2; omega, h.all, h.sep, h.hb⟩
theorem PlM.lt {w : World} {base mb e : Nat} {L : Value → List Nat} {No : Nat → Prop} {es : Array MapEntry} {clock : Nat} (h : PlM w base mb e L No es clock) : mb < w.heap.size := by
  rcases Nat.lt_or_ge mb w.heap.size with hlt | hge
  · exact hlt
  · have := h.blk; rw [Array.getElem?_eq_none hge] at this; cases this
section
variable {P : Program} {t k e : TypeId}
theorem PlM.lookup (K : KeyLaw P k) (hk : ∀ f, ∃ l, keyOf P k (kV f) = some l) {et : TypeId} (ht : P.underlying t = some (.map k et)) (hz : ∀ u : World, (zeroValue et).run P u = .ok (.slice none 0 0) u) {w : World} {base mb : Nat} {L : Value → List Nat} {No : Nat → Prop} {es : Array MapEntry} {clock : Nat} (h : PlM w base mb e L No es clock) (f : Nat → UInt8) :
    ∃ v, (∀ w2 : World, w2.heap[mb]? = w.heap[mb]? → (Instr.lookup t (.map (some mb)) (kV f) false).run P w2 = .ok v w2) ∧ w.ownsRow base e 1 v (L (kV f)).length ((L (kV f)).map intV) := by
  obtain ⟨l, hl⟩ := hk f
  have hks : ∀ x ∈ es.toList, ∃ l, keyOf P k x.key = some l := fun x hx => by
    obtain ⟨g, hg⟩ := h.keys x hx
    rw [hg]; exact hk g
  have hfd := fun w2 => K.find w2 hl es.toList hks
  by_cases hex : ∃ x ∈ es.toList, x.key = kV f
  · obtain ⟨x, hx, hxk⟩ := hex
    refine ⟨x.val, fun w2 hw2 => ?_, by rw [← hxk]; exact h.own x hx⟩
    rcases hfd w2 with ⟨_, h2⟩ | ⟨j, e0, h1, h2, h3⟩
    · exact absurd hxk (h2 x hx)
    · have hxe : e0 = x := by
        obtain ⟨i, hi⟩ := List.mem_iff_getElem?.1 hx
        have hij : i = j := by
          refine (List.getElem?_inj (l := es.toList.map (·.key)) (by rw [List.length_map]; exact (List.getElem?_eq_some_iff.1 hi).1) h.st.2.2).1 ?_
          rw [List.getElem?_map, List.getElem?_map, hi, h2]
          show some x.key = some e0.key
          rw [hxk, h3]
        subst hij
        rw [hi] at h2
        exact (Option.some.inj h2).symm
      subst hxe
      simp [Instr.lookup, run_underlying ht, MapKept.run_getObj_map (hw2.trans h.blk), K.check w2 es.isEmpty hl, h1, Result.andThen]
  · have hL : L (kV f) = [] := by
      rcases List.eq_nil_or_concat (L (kV f)) with h0 | ⟨_, _, h0⟩
      · exact h0
      · exact absurd (h.all (kV f) (by rw [h0]; simp)) (fun ⟨x, hx, hxk⟩ => hex ⟨x, hx, hxk⟩)
    refine ⟨.slice none 0 0, fun w2 hw2 => ?_, by rw [hL]; exact World.ownsRow_nil w _ _ _⟩
    rcases hfd w2 with ⟨h1, _⟩ | ⟨j, e0, _, h2, h3⟩
    · simp [Instr.lookup, run_underlying ht, MapKept.run_getObj_map (hw2.trans h.blk), K.check w2 es.isEmpty hl, h1, hz, Result.andThen]
    · exact absurd ⟨e0, List.mem_of_getElem? h2, h3⟩ hex
open Classical in
theorem PlM.entry (K : KeyLaw P k) (hk : ∀ f, ∃ l, keyOf P k (kV f) = some l) {et : TypeId} (ht : P.underlying t = some (.map k et)) (hz : ∀ u : World, (zeroValue et).run P u = .ok (.slice none 0 0) u) {w : World} {base mb : Nat} {L : Value → List Nat} {No : Nat → Prop} {es : Array MapEntry} {clock : Nat} (h : PlM w base mb e L No es clock) (f : Nat → UInt8) (hNo : ∀ g, No g → g < w.heap.size) :
    ∃ (v : Value) (st : Nat) (es1 : Array MapEntry) (clock1 : Nat), (∀ w2 : World, w2.heap[mb]? = w.heap[mb]? → (Instr.mapEntry t (.map (some mb)) (kV f)).run P w2 = .ok (.tuple #[v, goInt st]) (setBlock w2 mb (.map es1 clock1))) ∧
      w.ownsRow base e 1 v (L (kV f)).length ((L (kV f)).map intV) ∧ (∀ g, v.ownBlock = some g → ¬ No g) ∧
      ∀ (w3 : World) (v' : Value) (x : Nat), w3.heap[mb]? = some (.map es1 clock1) → (∀ g, base ≤ g → g < w.heap.size → v.ownBlock ≠ some g → ¬ No g → w3.heap[g]? = w.heap[g]?) →
        w3.ownsRow base e 1 v' ((L (kV f)).length + 1) ((L (kV f)).map intV ++ [intV x]) → (v'.ownBlock = v.ownBlock ∨ ∃ g, v'.ownBlock = some g ∧ w.heap.size ≤ g) →
        ∃ es' clock', (Instr.entryStore t (.map (some mb)) (goInt st) v').run P w3 = .ok () (setBlock w3 mb (.map es' clock')) ∧
          PlM (setBlock w3 mb (.map es' clock')) base mb e (fun u => if u = kV f then L u ++ [x] else L u) No es' clock' := by
  obtain ⟨l, hl⟩ := hk f
  have hks : ∀ x ∈ es.toList, ∃ l, keyOf P k x.key = some l := fun x hx => by
    obtain ⟨g, hg⟩ := h.keys x hx
    rw [hg]; exact hk g
  have hfd := fun w2 => K.find w2 hl es.toList hks
  obtain ⟨s1, s2, s3⟩ := h.st
  have hmb := h.hb
  by_cases hex : ∃ x ∈ es.toList, x.key = kV f
  · -- the key is there
    obtain ⟨x0, hx0, hxk⟩ := hex
    obtain ⟨j, hj⟩ := List.mem_iff_getElem?.1 hx0
    have hjl := (List.getElem?_eq_some_iff.1 hj).1
    have hja : es[j]? = some x0 := by simpa using hj
    have hkj : ∀ i y, es.toList[i]? = some y → i ≠ j → y.key ≠ kV f := fun i y hy hij hyk => by
      refine hij ((List.getElem?_inj (l := es.toList.map (·.key)) (by rw [List.length_map]; exact (List.getElem?_eq_some_iff.1 hy).1) s3).1 ?_)
      rw [List.getElem?_map, List.getElem?_map, hy, hj]
      show some y.key = some x0.key
      rw [hyk, hxk]
    have hfj : ∀ w2 : World, (Instr.findKey k (kV f) es.toList).run P w2 = .ok (some (j, x0.val)) w2 := fun w2 => by
      rcases hfd w2 with ⟨_, h2⟩ | ⟨i, e0, h1, h2, h3⟩
      · exact absurd hxk (h2 x0 hx0)
      · by_cases e : i = j
        · subst e
          rw [hj] at h2
          rw [← Option.some.inj h2] at h1
          exact h1
        · exact absurd h3 (hkj i e0 h2 e)
    have hsame : es.modify j (fun e => { e with key := kV f }) = es := by
      apply Array.ext'
      rw [Array.toList_modify, modify_eq_set _ _ _ _ hj]
      have : ({ x0 with key := kV f } : MapEntry) = x0 := by rw [← hxk]
      rw [this]
      exact set_self _ _ _ hj
    refine ⟨x0.val, x0.born, es, clock, fun w2 hw2 => ?_, by rw [← hxk]; exact h.own x0 hx0, h.off x0 hx0, fun w3 v' x hw3 hrows hown hlies => ?_⟩
    · simp [Instr.mapEntry, run_underlying ht, MapKept.run_getObj_map (hw2.trans h.blk), K.check w2 false hl, hfj w2, hja, hxk, K.stays w2 hl, hsame, MapKept.run_setObj_map _ (hw2.trans h.blk), Result.andThen, setBlock]
    · have hidx : es.findIdx? (fun e => ((e.born : Nat) : Int) == ((x0.born : Nat) : Int)) = some j := by
        rw [findIdx_arr]
        exact findIdx_born s2 hj
      have hlt3 : mb < w3.heap.size := by
        rcases Nat.lt_or_ge mb w3.heap.size with hlt | hge
        · exact hlt
        · rw [Array.getElem?_eq_none hge] at hw3; cases hw3
      obtain ⟨es', hes'⟩ : ∃ es', es' = es.modify j (fun e => { e with val := v' }) := ⟨_, rfl⟩
      have hel : es'.toList = es.toList.set j { x0 with val := v' } := by rw [hes', Array.toList_modify, modify_eq_set _ _ _ _ hj]
      refine ⟨es', clock, ?_, ?_⟩
      · rw [hes']
        simp [Instr.entryStore, MapKept.run_getObj_map hw3, asInt, asIntOf, goInt, hidx, MapKept.run_setObj_map _ hw3, Result.andThen, setBlock]
      · have hmem : ∀ y ∈ es'.toList, y = { x0 with val := v' } ∨ (y ∈ es.toList ∧ y.key ≠ kV f) := fun y hy => by
          rw [hel] at hy
          rcases mem_set_cases hy with h1 | ⟨i, hij, hi⟩
          · exact .inl h1
          · exact .inr ⟨List.mem_of_getElem? hi, hkj i y hi hij⟩
        have hkeep : ∀ y ∈ es.toList, y.key ≠ kV f → ∀ g, y.val.ownBlock = some g → base ≤ g ∧ g < w.heap.size ∧ w3.heap[g]? = w.heap[g]? := fun y hy hyk g hg => by
          have hlt := (h.own y hy).lt g hg
          refine ⟨hlt.1, hlt.2, hrows g hlt.1 hlt.2 (fun e => ?_) (h.off y hy g hg)⟩
          exact h.sep y hy x0 hx0 (by rw [hxk]; exact hyk) g hg e
        have hvne : ∀ y ∈ es.toList, y.key ≠ kV f → ∀ g, y.val.ownBlock = some g → v'.ownBlock ≠ some g := fun y hy hyk g hg e => by
          rcases hlies with h1 | ⟨g', h1, h2⟩
          · exact h.sep y hy x0 hx0 (by rw [hxk]; exact hyk) g hg (by rw [← h1]; exact e)
          · have := (hkeep y hy hyk g hg).2.1
            rw [h1] at e
            have := Option.some.inj e
            omega
        refine ⟨setBlock_same _ _ _ hlt3, ⟨?_, ?_, ?_⟩, ?_, ?_, ?_, ?_, ?_, hmb⟩
        · intro y hy
          rcases hmem y hy with rfl | ⟨h1, _⟩
          · exact s1 x0 hx0
          · exact s1 y h1
        · rw [hel, List.map_set]
          show ((es.toList.map (·.born)).set j x0.born).Nodup
          rw [set_self _ _ _ (by rw [List.getElem?_map, hj]; rfl)]
          exact s2
        · rw [hel, List.map_set]
          show ((es.toList.map (·.key)).set j x0.key).Nodup
          rw [set_self _ _ _ (by rw [List.getElem?_map, hj]; rfl)]
          exact s3
        · intro y hy
          rcases hmem y hy with rfl | ⟨h1, _⟩
          · exact h.keys x0 hx0
          · exact h.keys y h1
        · intro y hy
          rcases hmem y hy with rfl | ⟨h1, h2⟩
          · show World.ownsRow _ base e 1 v' (if x0.key = kV f then L x0.key ++ [x] else L x0.key).length ((if x0.key = kV f then L x0.key ++ [x] else L x0.key).map intV)
            rw [if_pos hxk, hxk, List.length_append, List.map_append]
            exact own_of_block hown (fun g hg => setBlock_other _ _ _ _ (by have := (hown.lt g hg).1; omega))
          · show World.ownsRow _ base e 1 y.val (if y.key = kV f then L y.key ++ [x] else L y.key).length ((if y.key = kV f then L y.key ++ [x] else L y.key).map intV)
            rw [if_neg h2]
            refine own_of_block (h.own y h1) (fun g hg => ?_)
            obtain ⟨a1, a2, a3⟩ := hkeep y h1 h2 g hg
            rw [setBlock_other _ _ _ _ (by omega)]
            exact a3
        · intro y hy g hg
          rcases hmem y hy with rfl | ⟨h1, _⟩
          · have hg' : v'.ownBlock = some g := hg
            rcases hlies with h2 | ⟨g', h2, h3⟩
            · exact h.off x0 hx0 g (by rw [← h2]; exact hg')
            · intro e
              rw [hg'] at h2
              have e1 : g = g' := Option.some.inj h2
              have := hNo g e
              omega
          · exact h.off y h1 g hg
        · intro u hu
          by_cases e : u = kV f
          · exact ⟨{ x0 with val := v' }, by rw [hel]; exact List.mem_iff_getElem?.2 ⟨j, by rw [List.getElem?_set_self (by simpa using hjl)]⟩, by rw [e]; exact hxk⟩
          · obtain ⟨y, hy, hyk⟩ := h.all u (by simpa [if_neg e] using hu)
            obtain ⟨i, hi⟩ := List.mem_iff_getElem?.1 hy
            refine ⟨y, ?_, hyk⟩
            rw [hel]
            refine List.mem_iff_getElem?.2 ⟨i, ?_⟩
            rw [List.getElem?_set_ne (fun e2 => by subst e2; rw [hj] at hi; rw [← Option.some.inj hi] at hyk; exact e (hyk.symm.trans hxk))]
            exact hi
        · intro y hy z hz' hyz g hg
          rcases hmem y hy with rfl | ⟨h1, h2⟩
          · rcases hmem z hz' with rfl | ⟨h3, h4⟩
            · exact absurd rfl hyz
            · intro e2
              exact hvne z h3 h4 g e2 hg
          · rcases hmem z hz' with rfl | ⟨h3, h4⟩
            · exact hvne y h1 h2 g hg
            · exact h.sep y h1 z h3 hyz g hg
  · -- a key that is new
    have hne : ∀ y ∈ es.toList, y.key ≠ kV f := fun y hy e => hex ⟨y, hy, e⟩
    have hL : L (kV f) = [] := by
      rcases List.eq_nil_or_concat (L (kV f)) with h0 | ⟨_, _, h0⟩
      · exact h0
      · exact absurd (h.all (kV f) (by rw [h0]; simp)) (fun ⟨x, hx, hxk⟩ => hex ⟨x, hx, hxk⟩)
    have hfj : ∀ w2 : World, (Instr.findKey k (kV f) es.toList).run P w2 = .ok none w2 := fun w2 => by
      rcases hfd w2 with ⟨h1, _⟩ | ⟨i, e0, _, h2, h3⟩
      · exact h1
      · exact absurd h3 (hne e0 (List.mem_of_getElem? h2))
    refine ⟨.slice none 0 0, clock, es.push ⟨kV f, .slice none 0 0, clock⟩, clock + 1, fun w2 hw2 => ?_, by rw [hL]; exact World.ownsRow_nil w _ _ _, by intro g hg; simp [Value.ownBlock] at hg, fun w3 v' x hw3 hrows hown hlies => ?_⟩
    · simp [Instr.mapEntry, run_underlying ht, MapKept.run_getObj_map (hw2.trans h.blk), K.check w2 false hl, hfj w2, hz, MapKept.run_setObj_map _ (hw2.trans h.blk), Result.andThen, setBlock]
    · have hnod : ((es.push ⟨kV f, .slice none 0 0, clock⟩).toList.map (·.born)).Nodup := by
        simp only [Array.toList_push, List.map_append, List.map_cons, List.map_nil]
        refine List.nodup_append.2 ⟨s2, by simp, fun a ha c hc e1 => ?_⟩
        simp only [List.mem_singleton] at hc
        obtain ⟨x, hx, rfl⟩ := List.mem_map.1 ha
        have := s1 x hx
        omega
      have hidx : (es.push ⟨kV f, .slice none 0 0, clock⟩).findIdx? (fun e => ((e.born : Nat) : Int) == ((clock : Nat) : Int)) = some es.size := by
        rw [findIdx_arr]
        exact findIdx_born (j := es.size) (e0 := ⟨kV f, .slice none 0 0, clock⟩) hnod (by simp)
      have hmod : (es.push ⟨kV f, .slice none 0 0, clock⟩).modify es.size (fun e => { e with val := v' }) = es.push ⟨kV f, v', clock⟩ := by
        apply Array.ext'
        rw [Array.toList_modify, Array.toList_push, Array.toList_push, ← Array.length_toList, modify_last]
      have hlt3 : mb < w3.heap.size := by
        rcases Nat.lt_or_ge mb w3.heap.size with hlt | hge
        · exact hlt
        · rw [Array.getElem?_eq_none hge] at hw3; cases hw3
      have hnew : ∀ g, v'.ownBlock = some g → w.heap.size ≤ g := fun g hg => by
        rcases hlies with h1 | ⟨g', h1, h2⟩
        · rw [h1] at hg; simp [Value.ownBlock] at hg
        · rw [hg] at h1
          rw [Option.some.inj h1]; exact h2
      refine ⟨es.push ⟨kV f, v', clock⟩, clock + 1, ?_, ?_⟩
      · simp [Instr.entryStore, MapKept.run_getObj_map hw3, asInt, asIntOf, goInt, hidx, hmod, MapKept.run_setObj_map _ hw3, Result.andThen, setBlock]
      · have hmem : ∀ y ∈ (es.push ⟨kV f, v', clock⟩).toList, y = ⟨kV f, v', clock⟩ ∨ y ∈ es.toList := fun y hy => by
          rw [Array.toList_push] at hy
          rcases List.mem_append.1 hy with h1 | h1
          · exact .inr h1
          · exact .inl (by simpa using h1)
        have hkeep : ∀ y ∈ es.toList, ∀ g, y.val.ownBlock = some g → base ≤ g ∧ g < w.heap.size ∧ w3.heap[g]? = w.heap[g]? := fun y hy g hg => by
          have hlt := (h.own y hy).lt g hg
          exact ⟨hlt.1, hlt.2, hrows g hlt.1 hlt.2 (by simp [Value.ownBlock]) (h.off y hy g hg)⟩
        refine ⟨setBlock_same _ _ _ hlt3, ⟨?_, ?_, ?_⟩, ?_, ?_, ?_, ?_, ?_, hmb⟩
        · intro y hy
          rcases hmem y hy with rfl | h1
          · exact Nat.lt_succ_self _
          · exact Nat.lt_succ_of_lt (s1 y h1)
        · simpa using hnod
        · simp only [Array.toList_push, List.map_append, List.map_cons, List.map_nil]
          refine List.nodup_append.2 ⟨s3, by simp, fun a ha c hc e1 => ?_⟩
          simp only [List.mem_singleton] at hc
          obtain ⟨x, hx, rfl⟩ := List.mem_map.1 ha
          exact hne x hx (e1.trans hc)
        · intro y hy
          rcases hmem y hy with rfl | h1
          · exact ⟨f, rfl⟩
          · exact h.keys y h1
        · intro y hy
          rcases hmem y hy with rfl | h1
          · show World.ownsRow _ base e 1 v' (if kV f = kV f then L (kV f) ++ [x] else L (kV f)).length ((if kV f = kV f then L (kV f) ++ [x] else L (kV f)).map intV)
            rw [if_pos rfl, List.length_append, List.map_append]
            exact own_of_block hown (fun g hg => setBlock_other _ _ _ _ (by have := (hown.lt g hg).1; omega))
          · show World.ownsRow _ base e 1 y.val (if y.key = kV f then L y.key ++ [x] else L y.key).length ((if y.key = kV f then L y.key ++ [x] else L y.key).map intV)
            rw [if_neg (hne y h1)]
            refine own_of_block (h.own y h1) (fun g hg => ?_)
            obtain ⟨a1, a2, a3⟩ := hkeep y h1 g hg
            rw [setBlock_other _ _ _ _ (by omega)]
            exact a3
        · intro y hy g hg
          rcases hmem y hy with rfl | h1
          · intro e
            have := hNo g e
            have := hnew g hg
            omega
          · exact h.off y h1 g hg
        · intro u hu
          by_cases e : u = kV f
          · exact ⟨⟨kV f, v', clock⟩, by simp, e.symm⟩
          · obtain ⟨y, hy, hyk⟩ := h.all u (by simpa [if_neg e] using hu)
            exact ⟨y, by rw [Array.toList_push]; exact List.mem_append.2 (.inl hy), hyk⟩
        · intro y hy z hz' hyz g hg
          rcases hmem y hy with rfl | h1
          · rcases hmem z hz' with rfl | h3
            · exact absurd rfl hyz
            · intro e2
              have := (hkeep z h3 g e2).2.1
              have := hnew g hg
              omega
          · rcases hmem z hz' with rfl | h3
            · intro e2
              have := (hkeep y h1 g hg).2.1
              have := hnew g e2
              omega
            · exact h.sep y h1 z h3 hyz g hg
end
end Go.Proofs.YtconcnndghmdfaaGreatDoor
namespace Go.Proofs.YtconcnndghmdfaaGreatDoor
open Go Go.RowKit
open Go.WideMaps (KeyLaw)
theorem Tryz.laidOutP : laidOutB Tryz.prog = true := by kernel_rfl
theorem Tryz.wideO : (match Tryz.prog.underlying 153 with | some (.array _ _) | some (.struct _) => true | _ => false) = true := by rw [Tryz.underlying153]
set_option maxRecDepth 100000 in
theorem Tryz.lawO : KeyLaw Tryz.prog 153 := deep_law_laid Tryz.laidOutP (m := 2) (by omega) (of_decide_eq_true (by kernel_rfl)) (by kernel_rfl) Tryz.wideO
theorem Tryz.zeroO (w : World) : (zeroValue 160).run Tryz.prog w = .ok (.slice none 0 0) w := by kernel_rfl
theorem Tryz.cellsO : Tryz.prog.cellsOf 153 = 3 := by kernel_rfl
theorem Tryz.cellsU : Tryz.prog.cellsOf 5 = 1 := by kernel_rfl
theorem Tryz.keyTypeO : Tryz.prog.keyType 153 = true := by kernel_rfl
theorem Tryz.typesO : Tryz.prog.types.size + 1 = (269 - 1) + 1 + 1 := by kernel_rfl
theorem Tryz.keyO (f : Nat → UInt8) : ∃ l, keyOf Tryz.prog 153 (kV f) = some l := by
  have e : kV f = .agg #[.int .u8 ((f 0).toNat : Int), .int .u8 ((f 1).toNat : Int), .int .u8 ((f 2).toNat : Int)] := by
    simp [kV, bL, u8V, List.range_succ]
  rw [e]
  have wf : ∀ b : UInt8, (Lit.int .u8 (b.toNat : Int)).wf = true := fun b => by have := b.toNat_lt; have h1 : IntKind.u8.min = 0 := rfl; have h2 : IntKind.u8.max = 255 := rfl; simp [Lit.wf, h1, h2]; omega
  refine ⟨.string (keyBytes [.int .u8 ((f 0).toNat : Int), .int .u8 ((f 1).toNat : Int), .int .u8 ((f 2).toNat : Int)]), ?_⟩
  unfold keyOf
  simp only [Tryz.underlying153]
  rw [if_pos (by simp [Tryz.keyTypeO, Value.formed, Tryz.underlying153, Tryz.cellsO]), Tryz.typesO]
  unfold Program.keyLits
  simp only [Tryz.underlying153, Value.cells]
  rw [if_pos (by rw [Tryz.cellsO]; rfl), show List.range 3 = [0, 1, 2] from rfl, List.mapM_cons, List.mapM_cons, List.mapM_cons, List.mapM_nil]
  simp [Tryz.cellsU, Program.keyLits, Tryz.underlying5, wf]
end Go.Proofs.YtconcnndghmdfaaGreatDoor
namespace Go.Proofs.YtconcnndghmdfaaGreatDoor
open Go Go.RowKit
/-- What a *past lies as: the block p holds the text's bytes (T, N of them, in block tb) and the map's block mb. -/
structure Pst (w : World) (p tb mb N cap : Nat) (T : Nat → UInt8) : Prop where
  c0 : w.cell? ⟨p, 0, none⟩ = some (.slice (some ⟨tb, 0, none⟩) N cap)
  c1 : w.cell? ⟨p, 1, none⟩ = some (.map (some mb))
  row : rowC w tb N T
  cap : N ≤ cap
  lt : p < w.heap.size
theorem Pst.of_blocks {w w' : World} {p tb mb N cap : Nat} {T : Nat → UInt8} (h : Pst w p tb mb N cap T) (hs : w.heap.size ≤ w'.heap.size) (hp : w'.heap[p]? = w.heap[p]?) (ht : w'.heap[tb]? = w.heap[tb]?) : Pst w' p tb mb N cap T :=
  ⟨(World.cell?_of_block (w := w) (a := ⟨p, 0, none⟩) hp).trans h.c0, (World.cell?_of_block (w := w) (a := ⟨p, 1, none⟩) hp).trans h.c1, h.row.of_block (Nat.lt_of_lt_of_le h.row.1 hs) ht, h.cap, Nat.lt_of_lt_of_le h.lt hs⟩
theorem Pst.below {w w' : World} {p tb mb N cap : Nat} {T : Nat → UInt8} (h : Pst w p tb mb N cap T) (hb : Below w.heap.size w w') : Pst w' p tb mb N cap T :=
  h.of_blocks hb.size (hb.block p h.lt) (hb.block tb h.row.1)
theorem Pst.alloc {w : World} {p tb mb N cap : Nat} {T : Nat → UInt8} (h : Pst w p tb mb N cap T) (o : Obj) : Pst (w.alloc o) p tb mb N cap T := h.below ((Below.refl _ _).alloc (Nat.le_refl _) _)
theorem Pst.drew {w : World} {p tb mb N cap : Nat} {T : Nat → UInt8} (h : Pst w p tb mb N cap T) : Pst w.drew p tb mb N cap T := ⟨h.c0, h.c1, h.row.drew, h.cap, h.lt⟩
set_option maxRecDepth 100000 in
set_option maxHeartbeats 800000 in
theorem imp_newPast (t : ByteArray) (w : World) :
    Calls Tryz.prog 81 #[.string t] w fun e w' => ∃ cap, e = .returned (.pointer (some ⟨w.heap.size + 2, 0, none⟩)) ∧ Pst w' (w.heap.size + 2) w.heap.size (w.heap.size + 1) t.size cap (bF t) ∧ w'.heap[w.heap.size + 1]? = some (.map #[] 0) ∧ w'.heap.size = w.heap.size + 3 ∧ Below w.heap.size w w' := by
  have hcv := fun (w : World) => run_bytes_of_string (P := Tryz.prog) w 9 22 5 t Tryz.underlying9 Tryz.underlying22 Tryz.underlying5
  have hmm := @run_makeMap Tryz.prog
  have hcap := grownCap_ge w t.size 0 5
  have hrow0 := hasRow.of_text w w.heap.size 5 (grownCap w t.size 0 5) t hcap (Nat.le_refl _)
  have hbl0 := hide ((Below.refl w.heap.size w).alloc (Nat.le_refl _) (.cells (bytesRow t (grownCap w t.size 0 5)) 5 ((bytesRow t (grownCap w t.size 0 5)).size, (bytesRow t (grownCap w t.size 0 5)).size + 1)))
  have HR0 := hide (rowC.of_text hrow0 (bF_at t t.size rfl))
  have HC := hide hcap
  clear hrow0 hcap
  go_enter Tryz.func81, Tryz.ntmps81
  go_wp2_with fail
  go_ret
  generalize hW : (w.alloc (.cells (bytesRow t (grownCap w t.size 0 5)) 5 ((bytesRow t (grownCap w t.size 0 5)).size, (bytesRow t (grownCap w t.size 0 5)).size + 1))) = W at *
  have hWs : W.heap.size = w.heap.size + 1 := by rw [← hW]; simp
  refine ⟨_, rfl, ⟨?_, ?_, ?_, HC.out, by simp [hWs]⟩, ?_, by simp [hWs], ((hbl0.out.alloc hbl0.out.size _).alloc (by simp; have := hbl0.out.size; omega) _).drew⟩
  · have e : w.heap.size + 2 = (W.alloc (.map #[] 0)).heap.size := by simp [hWs]
    rw [e, World.cell?_drew]; simp
  · have e : w.heap.size + 2 = (W.alloc (.map #[] 0)).heap.size := by simp [hWs]
    rw [e, World.cell?_drew]; simp
  · exact ((HR0.out.alloc _).alloc _).drew
  · show ((W.alloc (.map #[] 0)).alloc _).heap[w.heap.size + 1]? = _
    rw [Below.heap_alloc _ _ _ (by simp [hWs])]
    rw [← hWs]; exact heap_alloc_new W _
set_option maxRecDepth 100000 in
set_option maxHeartbeats 800000 in
theorem imp_cut (p tb mb N cap fr many : Nat) (T : Nat → UInt8) (w : World) (h : Pst w p tb mb N cap T) (hN : N ≤ 4000) (hm1 : 1 ≤ many) (hm : fr + many ≤ N) :
    Calls Tryz.prog 113 #[.pointer (some ⟨p, 0, none⟩), .int .i64 (fr : Int), .int .i64 (many : Int)] w fun e w' => e = .returned (.slice (some ⟨tb, fr, none⟩) many many) ∧ w' = w := by
  have c0 := h.c0
  have hcap := h.cap
  obtain ⟨q, hq⟩ : ∃ q, q = fr + many := ⟨_, rfl⟩
  have s1 : (fr : Int) + (many : Int) = (q : Int) := by omega
  have s1w : IntKind.i64.wrap ((fr : Int) + (many : Int)) = (q : Int) := by simp only [IntKind.wrap_i64]; omega
  have h1 : (fr : Int) ≤ (q : Int) := by omega
  have h2 : (q : Int) ≤ (cap : Int) := by omega
  have h3 : q - fr = many := by omega
  have hq4 : (q : Int) ≤ 4000 := by omega
  have hm0 : many ≠ 0 := by omega
  clear h hm hq
  go_enter Tryz.func113, Tryz.ntmps113
  go_wp2_with fail
  go_ret
  exact ⟨rfl, rfl⟩
/-- How many bytes are alike, m at most. -/
def alikeG (A B : Nat → UInt8) : Nat → Nat → Nat
  | 0, n => n
  | k + 1, n => if B n = A n then alikeG A B k (n + 1) else n
set_option maxRecDepth 100000 in
set_option maxHeartbeats 800000 in
theorem imp_alike (tb a b m N : Nat) (T : Nat → UInt8) (w : World) (h : rowC w tb N T) (ha : a + m ≤ N) (hb : b + m ≤ N) (hN : N ≤ 4000) :
    Calls Tryz.prog 115 #[.slice (some ⟨tb, a, none⟩) m m, .slice (some ⟨tb, b, none⟩) m m] w fun e w' => e = .returned (.int .i64 (alikeG (fun j => T (a + j)) (fun j => T (b + j)) m 0 : Nat)) ∧ w' = w := by
  go_enter Tryz.func115, Tryz.ntmps115
  go_wp2_with fail
  go_loopw [9] (fun i wx => ∃ k : Nat, k ≤ m ∧ i = .int .i64 (k : Int) ∧ Hid (alikeG (fun j => T (a + j)) (fun j => T (b + j)) (m - k) k = alikeG (fun j => T (a + j)) (fun j => T (b + j)) m 0) ∧ wx = w) (fun i _ => m - (intOf i).toNat)
  case atStart => exact ⟨0, by omega, rfl, rfl, rfl⟩
  case round =>
    obtain ⟨k, hk, rfl, hl, rfl⟩ := hrel
    by_cases hlt : k < m
    · have hlt' : (k : Int) < (m : Int) := by omega
      have c1 := (h.2 (a + k) (by omega)).1
      have c2 := (h.2 (b + k) (by omega)).1
      have hm4 : (m : Int) ≤ 4000 := by omega
      by_cases he : T (b + k) = T (a + k)
      · have hd : (((T (b + k)).toNat : Int) != ((T (a + k)).toNat : Int)) = false := by rw [he]; simp
        have HL := hide (show alikeG (fun j => T (a + j)) (fun j => T (b + j)) (m - (k + 1)) (k + 1) = alikeG (fun j => T (a + j)) (fun j => T (b + j)) m 0 by
          rw [← hl.out, show m - k = (m - (k + 1)) + 1 by omega]
          show _ = if T (b + k) = T (a + k) then _ else _
          rw [if_pos he])
        clear he hl
        go_wp2_with fail
        go_roundw
        case rel => exact ⟨k + 1, by omega, by go_num, HL, trivial⟩
        case measure => simp [intOf]; omega
      · have hd : (((T (b + k)).toNat : Int) != ((T (a + k)).toNat : Int)) = true := by
          simp only [bne_iff_ne, ne_eq, Int.natCast_inj]
          exact fun e => he (UInt8.toNat_inj.1 e)
        have HL := hide (show alikeG (fun j => T (a + j)) (fun j => T (b + j)) m 0 = k by
          rw [← hl.out, show m - k = (m - (k + 1)) + 1 by omega]
          show (if T (b + k) = T (a + k) then _ else _) = _
          rw [if_neg he])
        clear he hl
        go_wp2_with fail
        go_ret
        exact ⟨by rw [HL.out]; rfl, rfl⟩
    · have hlt' : ¬ (k : Int) < (m : Int) := by omega
      have hm4 : (m : Int) ≤ 4000 := by omega
      have HL := hide (show alikeG (fun j => T (a + j)) (fun j => T (b + j)) m 0 = m by
        rw [← hl.out, show k = m by omega, Nat.sub_self]
        rfl)
      clear hl
      go_wp2_with fail
      go_ret
      exact ⟨by rw [HL.out]; rfl, rfl⟩
end Go.Proofs.YtconcnndghmdfaaGreatDoor
