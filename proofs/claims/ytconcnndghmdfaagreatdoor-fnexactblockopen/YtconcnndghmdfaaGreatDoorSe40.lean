/- Put together: PastG, Back. -/
import Derived.Test.YtconcnndghmdfaaGreatDoorSe38
import Derived.Test.YtconcnndghmdfaaGreatDoorSe39
import Derived.RangeFuncNested
import Derived.RangeFuncBound
import Derived.RangeFuncCalls
import Derived.RangeFuncBox
import Derived.RangeFuncLeaves
import Derived.Shelf.Abstract
import Derived.Shelf.RegionOpen
import Derived.WalkKit
import Derived.OwnWalkIn
import Derived.TacticsInMore
import Derived.LoopNIn
import Derived.LoopIn
namespace Go.Proofs.YtconcnndghmdfaaGreatDoor
open Go Go.RowKit Go.ChangeMaps
theorem Tryz.infoI : (Tryz.prog.info? 3).map (fun i => (i.zero, i.size, i.bytes)) = some (some (.int .i64 0), 1, 8) := by kernel_rfl
theorem kV_eq (f : Nat → UInt8) : kV f = .agg #[.int .u8 ((f 0).toNat : Int), .int .u8 ((f 1).toNat : Int), .int .u8 ((f 2).toNat : Int)] := by
  simp [kV, bL, u8V, List.range_succ]
/-- Whether a value is this byte. -/
def isU8 (x : UInt8) : Value → Bool
  | .int .u8 a => a == (x.toNat : Int)
  | _ => false
theorem isU8_iff (x : UInt8) (v : Value) : isU8 x v = true ↔ v = .int .u8 (x.toNat : Int) := by
  constructor
  · intro h
    unfold isU8 at h
    split at h
    · rw [eq_of_beq h]
    · cases h
  · rintro rfl
    simp [isU8]
/-- Whether a value is the key of these bytes. -/
def keq (f : Nat → UInt8) : Value → Bool
  | .agg xs => xs.size == 3 && (isU8 (f 0) (xs.getD 0 undef) && (isU8 (f 1) (xs.getD 1 undef) && isU8 (f 2) (xs.getD 2 undef)))
  | _ => false
theorem keq_iff (f : Nat → UInt8) (v : Value) : keq f v = true ↔ kV f = v := by
  rw [kV_eq]
  constructor
  · intro h
    unfold keq at h
    split at h
    · rename_i xs
      simp only [Bool.and_eq_true, beq_iff_eq, isU8_iff] at h
      obtain ⟨hs, h0, h1, h2⟩ := h
      congr 1
      apply Array.ext
      · simp [hs]
      · intro i hi1 hi2
        have hi : i < 3 := by simpa using hi1
        match i, hi with
        | 0, _ => rw [Array.getD_eq_getD_getElem?, Array.getElem?_eq_getElem hi2] at h0; exact h0.symm
        | 1, _ => rw [Array.getD_eq_getD_getElem?, Array.getElem?_eq_getElem hi2] at h1; exact h1.symm
        | 2, _ => rw [Array.getD_eq_getD_getElem?, Array.getElem?_eq_getElem hi2] at h2; exact h2.symm
    · cases h
  · rintro rfl
    simp [keq, isU8]
/-- The places ahead of h that begin as the key v says. -/
def plc (T : Nat → UInt8) (N h : Nat) (v : Value) : List Nat := (List.range h).filter fun p => decide (p + 3 ≤ N) && keq (opF T N p) v
theorem plcP {T : Nat → UInt8} {N p : Nat} {v : Value} : (decide (p + 3 ≤ N) && keq (opF T N p) v) = true ↔ p + 3 ≤ N ∧ kV (opF T N p) = v := by
  rw [Bool.and_eq_true, decide_eq_true_eq, keq_iff]
theorem plc_zero (T : Nat → UInt8) (N : Nat) : plc T N 0 = fun _ => [] := by funext v; rfl
open Classical in
theorem plc_yes (T : Nat → UInt8) (N h : Nat) (hn : h + 3 ≤ N) : plc T N (h + 1) = fun u => if u = kV (opF T N h) then plc T N h u ++ [h] else plc T N h u := by
  funext u
  unfold plc
  rw [List.range_succ, List.filter_append]
  by_cases e : u = kV (opF T N h)
  · rw [if_pos e, List.filter_cons, if_pos (plcP.2 ⟨hn, e.symm⟩), List.filter_nil]
  · rw [if_neg e, List.filter_cons, if_neg (fun h => e (plcP.1 h).2.symm), List.filter_nil, List.append_nil]
theorem plc_no (T : Nat → UInt8) (N h : Nat) (hn : ¬ h + 3 ≤ N) : plc T N (h + 1) = plc T N h := by
  funext u
  unfold plc
  rw [List.range_succ, List.filter_append, List.filter_cons, if_neg (fun h => hn (plcP.1 h).1), List.filter_nil, List.append_nil]
theorem plc_len (T : Nat → UInt8) (N h : Nat) (v : Value) : (plc T N h v).length ≤ h := by
  unfold plc
  have := List.length_filter_le (fun p => decide (p + 3 ≤ N) && keq (opF T N p) v) (List.range h)
  rwa [List.length_range] at this
/-- What goBy turns: the map, its rows, new blocks. -/
structure Turn (w w' : World) (base mb : Nat) (No : Nat → Prop) : Prop where
  os : w'.os = w.os
  tape : w'.tape = w.tape
  output : w'.output = w.output
  size : w.heap.size ≤ w'.heap.size
  block : ∀ g, g < w.heap.size → g ≠ mb → (g < base ∨ No g) → w'.heap[g]? = w.heap[g]?
theorem Turn.refl (w : World) (base mb : Nat) (No : Nat → Prop) : Turn w w base mb No := ⟨rfl, rfl, rfl, Nat.le_refl _, fun _ _ _ _ => rfl⟩
theorem Turn.trans {a b c : World} {base mb : Nat} {No : Nat → Prop} (h : Turn a b base mb No) (k : Turn b c base mb No) : Turn a c base mb No :=
  ⟨k.os.trans h.os, k.tape.trans h.tape, k.output.trans h.output, Nat.le_trans h.size k.size, fun g h1 h2 h3 => (k.block g (Nat.lt_of_lt_of_le h1 h.size) h2 h3).trans (h.block g h1 h2 h3)⟩
theorem Turn.of_below {w w' : World} {base mb : Nat} {No : Nat → Prop} (h : Below w.heap.size w w') : Turn w w' base mb No := ⟨h.os, h.tape, h.output, h.size, fun g hg _ _ => h.block g hg⟩
theorem Turn.below {w w' : World} {base mb B : Nat} {No : Nat → Prop} (h : Turn w w' base mb No) (hb : B ≤ mb) (hm : mb < base) (hs : base ≤ w.heap.size) : Below B w w' :=
  ⟨h.os, h.tape, h.output, h.size, fun k hk => h.block k (by omega) (by omega) (.inl (by omega))⟩
theorem Pst.turn {w w' : World} {p tb mb N cap base : Nat} {T : Nat → UInt8} {No : Nat → Prop} (h : Pst w p tb mb N cap T) (ht : Turn w w' base mb No) (hp : p < base) (htb : tb < base) (h1 : p ≠ mb) (h2 : tb ≠ mb) : Pst w' p tb mb N cap T :=
  h.of_blocks ht.size (ht.block p h.lt h1 (.inl hp)) (ht.block tb h.row.1 h2 (.inl htb))
theorem PlM.below {w w' : World} {base mb e : Nat} {L : Value → List Nat} {No : Nat → Prop} {es : Array MapEntry} {clock : Nat} (h : PlM w base mb e L No es clock) (hb : Below w.heap.size w w') : PlM w' base mb e L No es clock :=
  h.kept (hb.block mb h.lt) (fun g _ h2 _ => hb.block g h2)
section
variable {P : Program} {ops : Array Oper} {Q : Exit → Act → World → Prop}
theorem step_mapEntry {o : Oper} {a : Act} {w : World} {K : Act → World → Prop} {E : Prop} (d : Option Nat) (hd : o.dst = d) (hgd : o.guard = none) (ty : TypeId) (m k : Operand) (ho : o.op = .mapEntry ty m k)
    (mv kv v : Value) (w' : World) (hm : a.eval m = mv) (hk : a.eval k = kv) (hr : (Instr.mapEntry ty mv kv).run P w = .ok v w') (h : K (a.put d v) w') : if Region.wanted o (yielded ops a.tmps) = true then Oper.wp P o a w K Q else E := by
  subst hd
  rw [if_pos (by simp [Region.wanted, hgd])]
  unfold Oper.wp
  simp [execOp, ho, hm, hk, hr, Result.andThen]
  exact h
theorem step_entryStore {o : Oper} {a : Act} {w : World} {K : Act → World → Prop} {E : Prop} (d : Option Nat) (hd : o.dst = d) (hgd : o.guard = none) (ty : TypeId) (m s x : Operand) (ho : o.op = .entryStore ty m s x)
    (mv sv xv : Value) (w' : World) (hm : a.eval m = mv) (hs : a.eval s = sv) (hx : a.eval x = xv) (hr : (Instr.entryStore ty mv sv xv).run P w = .ok () w') (h : K (a.put d undef) w') : if Region.wanted o (yielded ops a.tmps) = true then Oper.wp P o a w K Q else E := by
  subst hd
  rw [if_pos (by simp [Region.wanted, hgd])]
  unfold Oper.wp
  simp [execOp, ho, hm, hs, hx, hr, Result.andThen]
  exact h
theorem step_append_D2 (w : World) {o : Oper} {a : Act} {K : Act → World → Prop} {E : Prop} (dd : Option Nat) (hdd : o.dst = dd) (hgd : o.guard = none) (s x : Operand) (t : TypeId)
    (ho : o.op = .call { callee := .builtin .append, args := #[s, x], argTypes := #[t, t] })
    (base : Nat) (e : TypeId) (i : TypeInfo) (z : Value) (size bytes : Nat) (ht : P.underlying t = some (.slice e)) (hi : P.info? e = some i) (hz : i.zero = some z)
    (hsize : i.size = size) (hby : i.bytes = bytes) (hzs : z.cells.size = size) (hsz : 0 < size)
    (v : Value) (n : Nat) (xs : List Value) (hs : a.eval s = v) (hown : w.ownsRow base e size v n xs)
    (ad : Addr) (m c : Nat) (news : List Value) (hx : a.eval x = .slice (some ad) m c) (hl : news.length = m * size) (hnews : ∀ j u, news[j]? = some u → w.cell? (ad.add j) = some u) (h1 : ∀ u ∈ news, u.oneCell' = true)
    (hm : 0 < m) (h63 : n + m ≤ maxLen) (hbytes : (n + m) * bytes ≤ 140737488355328) (hbase : base ≤ w.heap.size) (H : Nat) (hH : w.heap.size = H)
    (h : ∀ g cap w', w'.ownsRow base e size (.slice (some ⟨g, 0, none⟩) (n + m) cap) (n + m) (xs ++ news) → w.grownBy w' v.ownBlock → (v.ownBlock = some g ∨ g = H) → g < w'.heap.size → K (a.put dd (.slice (some ⟨g, 0, none⟩) (n + m) cap)) w') :
    if Region.wanted o (yielded ops a.tmps) = true then Oper.wp P o a w K Q else E := by
  subst hdd
  exact step_append_lies w hgd s x t ho base e i z size bytes ht hi hz hsize hby hzs hsz v n xs hs hown ad m c news hx hl hnews h1 hm h63 hbytes hbase H hH h
end
/-- A new block and another block turned: in whichever order. -/
theorem setBlock_alloc (w : World) (b : Nat) (o o' : Obj) (h : b < w.heap.size) : setBlock (w.alloc o') b o = (setBlock w b o).alloc o' := by
  unfold setBlock World.alloc
  simp only [World.mk.injEq, and_true]
  apply Array.ext'
  simp [h]
set_option maxRecDepth 100000 in
set_option maxHeartbeats 1600000 in
theorem imp_goBy (p tb mb N cap fr many base : Nat) (T : Nat → UInt8) (No : Nat → Prop) (w : World) (hP : Pst w p tb mb N cap T) (hM : ∃ es clock, PlM w base mb 3 (plc T N fr) No es clock) (hN : N ≤ 4000) (hm : fr + many ≤ N)
    (hpb : p < base) (htb : tb < base) (hpm : p ≠ mb) (htm : tb ≠ mb) (hbs : base ≤ w.heap.size) (hNo : ∀ g, No g → g < w.heap.size) :
    Calls Tryz.prog 83 #[.pointer (some ⟨p, 0, none⟩), .int .i64 (fr : Int), .int .i64 (many : Int)] w fun e w' => e = .returned (.tuple #[]) ∧ (∃ es clock, PlM w' base mb 3 (plc T N (fr + many)) No es clock) ∧ Turn w w' base mb No := by
  obtain ⟨i0, hi0, hz0, hz1, hz2⟩ := info_parts Tryz.infoI
  obtain ⟨q, hq⟩ : ∃ q, q = fr + many := ⟨_, rfl⟩
  have s1 : (fr : Int) + (many : Int) = (q : Int) := by omega
  have s1w : IntKind.i64.wrap ((fr : Int) + (many : Int)) = (q : Int) := by simp only [IntKind.wrap_i64]; omega
  have hq4 : (q : Int) ≤ 4000 := by omega
  have HQ := hide hq
  have hqN : q ≤ N := by omega
  have hfq : fr ≤ q := by omega
  have HP := hide hP
  have HM := hide hM
  have HNo := hide hNo
  clear hP hM hq hm hNo
  go_enter Tryz.func83, Tryz.ntmps83
  go_wp2_with fail
  go_loopw [6] (fun i wx => ∃ k : Nat, fr ≤ k ∧ k ≤ q ∧ i = .int .i64 (k : Int) ∧ Hid (∃ es clock, PlM wx base mb 3 (plc T N k) No es clock) ∧ Hid (Turn w wx base mb No)) (fun i _ => q - (intOf i).toNat)
  case atStart => exact ⟨fr, Nat.le_refl _, hfq, rfl, HM, Turn.refl _ _ _ _⟩
  case round =>
    clear HM
    obtain ⟨k, hk1, hk2, rfl, HM, HT⟩ := hrel
    by_cases hlt : k < q
    · have hlt' : (k : Int) < (q : Int) := by omega
      have hPr := HP.out.turn HT.out hpb htb hpm htm
      have hws := HT.out.size
      obtain ⟨ok, hok⟩ : ∃ ok, ok = decide (k + 3 ≤ N) := ⟨_, rfl⟩
      have SO := hide (imp_openingAt p tb mb N cap k T wr hPr hN (by omega) ok hok)
      obtain ⟨KF, hKF⟩ : ∃ KF, KF = opF T N k := ⟨_, rfl⟩
      rw [← hKF] at SO
      have HKF := hide hKF
      have HPR := hide hPr
      have HOK := hide hok
      clear hPr hKF hok
      go_wp2_with fail
      refine (SO.out).mono ?_
      rintro e w1 ⟨rfl, hb1⟩
      have hP1 := HPR.out.below hb1
      have hs1 := hb1.size
      have hM1 := hide (show ∃ es clock, PlM w1 base mb 3 (plc T N k) No es clock from by
        obtain ⟨es, clock, h⟩ := HM.out
        exact ⟨es, clock, h.below hb1⟩)
      have hT1 := hide (HT.out.trans (Turn.of_below hb1))
      obtain ⟨W, hW⟩ : ∃ W, W = (w1.alloc (.cells #[.int .u8 0, .int .u8 0, .int .u8 0] 153)) := ⟨_, rfl⟩
      have r7 : W.rowIs w1.heap.size 153 3 (u8V fun _ => 0) := by rw [hW]; exact zeros8_row 3 w1 _ _ rfl
      have hbW : Below w1.heap.size w1 W := by rw [hW]; exact (Below.refl _ w1).alloc (Nat.le_refl _) _
      have hWs : W.heap.size = w1.heap.size + 1 := by rw [hW]; simp
      have HW' := hide (show (w1.alloc (.cells #[.int .u8 0, .int .u8 0, .int .u8 0] 153)) = W from hW.symm)
      have hth := row_there (o := 0) (n := 3) r7 (by omega)
      have hth' : (w1.alloc (.cells #[.int .u8 0, .int .u8 0, .int .u8 0] 153)).there w1.heap.size 0 3 := by rw [HW'.out]; exact hth
      have r7s := row_setCells0 (k := KF) r7
      have hbS := below_setCells' (b := w1.heap.size) (o := 0) (vs := bL 3 KF) hbW (Nat.le_refl _)
      have hSz : (W.setCells w1.heap.size 0 (bL 3 KF)).heap.size = w1.heap.size + 1 := by rw [size_setCells]; exact hWs
      have G := hide (And.intro r7s (And.intro hbS hSz))
      clear r7 hbW hWs r7s hbS hSz hth SO HPR HM HT hb1 hW
      cases ok with
      | true =>
        have hk3 : k + 3 ≤ N := of_decide_eq_true HOK.out.symm
        go_wp2_with (refine wpList_store_B rfl 153 (.tmp 7) (.tmp 21) rfl w1.heap.size 0 3 KF rfl rfl hth' Tryz.size3 ?_)
        rw [HW'.out]
        obtain ⟨W2, hW2⟩ : ∃ W2, W2 = W.setCells w1.heap.size 0 (bL 3 KF) := ⟨_, rfl⟩
        rw [← hW2] at G ⊢
        clear hW2
        obtain ⟨r7, hbW, hW2s⟩ := G.out
        have hP2 := (hP1.below hbW).drew
        have hT2 := hide (hT1.out.trans (Turn.of_below hbW.drew))
        have r7d := r7.drew
        have hzlt : w1.heap.size < W2.heap.size := by omega
        clear hW2s
        clear G hT1 hth' HW' hP1
        obtain ⟨es, clock, hPM⟩ := hM1.out
        have hW2o : ∀ g, g < w1.heap.size → W2.heap[g]? = w1.heap[g]? := fun g hg => hbW.block g hg
        obtain ⟨v, st, es1, clock1, hME, hov, hoffv, hback⟩ := hPM.entry Tryz.lawO Tryz.keyO Tryz.underlying149 Tryz.zeroO KF (fun g hg => by have := HNo.out g hg; have : w.heap.size ≤ wr.heap.size := hws; omega)
        have hml1 := hPM.lt
        have hmlt : mb < W2.heap.size := by omega
        have hbW2 : base ≤ W2.heap.size := by omega
        have c1 : W2.drew.cell? ⟨p, 1, none⟩ = some (.map (some mb)) := hP2.c1
        have hp2 := hP2.lt
        have rg7 : W2.drew.rangeAt w1.heap.size 0 (bL 3 KF) := row_range0 r7d
        obtain ⟨n, hn⟩ : ∃ n, n = (plc T N k (kV KF)).length := ⟨_, rfl⟩
        have hnk : n ≤ k := by rw [hn]; exact plc_len T N k _
        rw [← hn] at hov
        -- the world behind the two makings, in whichever order
        obtain ⟨W3, hW3⟩ : ∃ W3, W3 = (setBlock W2.drew mb (.map es1 clock1)).alloc (.cells #[.int .i64 (k : Int)] 3) := ⟨_, rfl⟩
        have hW3' : W3 = setBlock (W2.drew.alloc (.cells #[.int .i64 (k : Int)] 3)) mb (.map es1 clock1) := by rw [hW3]; exact (setBlock_alloc _ _ _ _ (show mb < W2.drew.heap.size from hmlt)).symm
        have hsb : ∀ g, g ≠ mb → (setBlock W2.drew mb (.map es1 clock1)).heap[g]? = W2.drew.heap[g]? := fun g hg => setBlock_other _ _ _ _ hg
        have h3s : W3.heap.size = W2.heap.size + 1 := by rw [hW3, World.size_alloc, setBlock_size]; rfl
        have h3o : ∀ g, g < W2.heap.size → g ≠ mb → W3.heap[g]? = W2.heap[g]? := fun g h1 h2 => by
          rw [hW3, Below.heap_alloc _ _ _ (by rw [setBlock_size]; exact h1)]; exact hsb g h2
        have h3m : W3.heap[mb]? = some (.map es1 clock1) := by
          rw [hW3, Below.heap_alloc _ _ _ (by rw [setBlock_size]; exact hmlt)]; exact setBlock_same _ _ _ hmlt
        have h3c : W3.cell? ((⟨W2.heap.size, 0, none⟩ : Addr).add 0) = some (.int .i64 (k : Int)) := by
          have := one_cell (setBlock W2.drew mb (.map es1 clock1)) (.int .i64 (k : Int)) 3 0 _ rfl
          rw [setBlock_size] at this
          rw [hW3]; exact this
        have h3os : W3.os = W2.os ∧ W3.tape = W2.tape ∧ W3.output = W2.output := by rw [hW3]; exact ⟨rfl, rfl, rfl⟩
        have hmr : w1.heap.size ≠ mb := by omega
        have hov3 : W3.ownsRow base 3 1 v n ((plc T N k (kV KF)).map intV) := own_of_block hov (fun g hg => by
          have hlt := hov.lt g hg
          exact (h3o g (by omega) (by have := hPM.hb; omega)).trans (hW2o g hlt.2))
        have hz7 : ∀ g, v.ownBlock = some g → g ≠ w1.heap.size := by
          intro g hg e
          have := (hov.lt g hg).2
          omega
        have Sa : ∀ u : World, (∀ g, g = p ∨ g = w1.heap.size → u.heap[g]? = W2.drew.heap[g]?) → u.cell? ⟨p, 1, none⟩ = some (.map (some mb)) ∧ u.rangeAt w1.heap.size 0 (bL 3 KF) := fun u hu =>
          ⟨(World.cell?_of_block (w := W2.drew) (a := ⟨p, 1, none⟩) (hu p (.inl rfl))).trans c1, fun j v hv => (World.cell?_of_block (w := W2.drew) (a := ⟨w1.heap.size, 0 + j, none⟩) (hu _ (.inr rfl))).trans (rg7 j v hv)⟩
        have S0 := Sa W2.drew (fun _ _ => rfl)
        have SA := Sa (W2.drew.alloc (.cells #[.int .i64 (k : Int)] 3)) (fun g hg => Below.heap_alloc _ _ _ (by rcases hg with rfl | rfl; exact hp2; exact hzlt))
        have SE := Sa (setBlock W2.drew mb (.map es1 clock1)) (fun g hg => hsb g (by rcases hg with rfl | rfl; exact hpm; exact hmr))
        have S3 := Sa W3 (fun g hg => h3o g (by rcases hg with rfl | rfl; exact hp2; exact hzlt) (by rcases hg with rfl | rfl; exact hpm; exact hmr))
        refine wp_region_held_drew (S := fun w' => w'.cell? ⟨p, 1, none⟩ = some (.map (some mb)) ∧ w'.rangeAt w1.heap.size 0 (bL 3 KF)) (by kernel_rfl) S0 (fun hHeld => ?_)
        refine takeD (i := 0) (v := .pointer (some ⟨p, 0, none⟩)) (some 24) rfl rfl (by kernel_rfl) (by kernel_rfl) (by kernel_rfl) (fun _ _ _ h => h) (Or.inl ⟨by rfl, fun w hSw => by go_simp⟩) hHeld ?_
        simp only [Act.put, List.setIfInBounds_toArray, List.set_cons_zero, List.set_cons_succ]
        refine takeD (i := 1) (v := .pointer (some ⟨p, 0, none⟩)) (some 25) rfl rfl (by kernel_rfl) (by kernel_rfl) (by kernel_rfl) (fun _ _ _ h => h) (Or.inl ⟨by rfl, fun w hSw => by go_simp⟩) hHeld ?_
        simp only [Act.put, List.setIfInBounds_toArray, List.set_cons_zero, List.set_cons_succ]
        refine takeD (i := 2) (v := .pointer (some ⟨p, 1, none⟩)) (some 26) rfl rfl (by kernel_rfl) (by kernel_rfl) (by kernel_rfl) (fun _ _ _ h => h) (Or.inl ⟨by rfl, fun w hSw => by go_simp⟩) hHeld ?_
        simp only [Act.put, List.setIfInBounds_toArray, List.set_cons_zero, List.set_cons_succ]
        refine takeD (i := 3) (v := .map (some mb)) (some 27) rfl rfl (by kernel_rfl) (by kernel_rfl) (by kernel_rfl) (fun _ _ _ h => h) (Or.inl ⟨by rfl, fun w hSw => by have h1 := hSw.1; go_simp⟩) hHeld ?_
        simp only [Act.put, List.setIfInBounds_toArray, List.set_cons_zero, List.set_cons_succ]
        refine takeD (i := 4) (v := .agg (bL 3 KF).toArray) (some 28) rfl rfl (by kernel_rfl) (by kernel_rfl) (by kernel_rfl) (fun _ _ _ h => h) (yieldsB (by rfl) 153 (.tmp 7) rfl w1.heap.size 0 3 rfl KF _ (fun w h => h.2) Tryz.underlying153 rfl Tryz.size3) hHeld ?_
        simp only [Act.put, List.setIfInBounds_toArray, List.set_cons_zero, List.set_cons_succ]
        refine takeD (i := 5) (v := .int .i64 (k : Int)) (some 30) rfl rfl (by kernel_rfl) (by kernel_rfl) (by kernel_rfl) (fun _ _ _ h => h) (Or.inl ⟨by rfl, fun w hSw => by go_simp⟩) hHeld ?_
        simp only [Act.put, List.setIfInBounds_toArray, List.set_cons_zero, List.set_cons_succ]
        refine wpAnyH_ready (rs := [6]) (by kernel_rfl) (by simp) ?_
        refine AllReadyH.cons rfl (fun KK hK => ?_) AllReadyH.nil
        · go_simp
          refine hK.out _ _ SA (fun hHeld => ?_)
          clear hK KK
          refine wpAnyH_ready (rs := [7]) (by kernel_rfl) (by simp) ?_
          refine AllReadyH.cons rfl (fun KK hK => ?_) AllReadyH.nil
          refine step_mapEntry (some 32) rfl rfl 149 (.tmp 27) (.tmp 28) rfl _ _ _ _ rfl rfl (hME _ ((Below.heap_alloc _ _ _ hmlt).trans (hW2o mb hml1))) ?_
          rw [show setBlock (World.drew (W2.alloc (.cells #[.int .i64 (k : Int)] 3))) mb (.map es1 clock1) = W3 from hW3'.symm]
          simp only [Act.put, List.setIfInBounds_toArray, List.set_cons_zero, List.set_cons_succ]
          refine hK.out _ _ S3 (fun hHeld => ?_)
          clear hK KK
          refine takeD (i := 8) (v := v) (some 29) rfl rfl (by kernel_rfl) (by kernel_rfl) (by kernel_rfl) (fun _ _ _ h => h) (Or.inl ⟨by rfl, fun w hSw => by go_simp⟩) hHeld ?_
          simp only [Act.put, List.setIfInBounds_toArray, List.set_cons_zero, List.set_cons_succ]
          refine takeD (i := 10) (v := goInt st) (some 34) rfl rfl (by kernel_rfl) (by kernel_rfl) (by kernel_rfl) (fun _ _ _ h => h) (Or.inl ⟨by rfl, fun w hSw => by go_simp⟩) hHeld ?_
          simp only [Act.put, List.setIfInBounds_toArray, List.set_cons_zero, List.set_cons_succ]
          refine wpAnyH_ready (rs := [9]) (by kernel_rfl) (by simp) ?_
          refine AllReadyH.cons rfl (fun KK hK => ?_) AllReadyH.nil
          refine step_append_D2 _ (some 33) rfl rfl (.tmp 29) (.tmp 31) 160 rfl base 3 i0 (.int .i64 0) 1 8 Tryz.underlying160 hi0 hz0 hz1 hz2 rfl (by omega) v n _ rfl hov3 ⟨W2.heap.size, 0, none⟩ 1 1 [.int .i64 (k : Int)] rfl rfl (fun j u hj => by match j, hj with | 0, hj => (simp at hj; subst hj; exact h3c)) (one_oneCell .i64 _) (by omega) (by unfold maxLen; omega) (by omega) (by omega) (W2.heap.size + 1) h3s ?_
          intro g' cap' w4 hown4 hgr4 hat4 hlt4
          have h4o : ∀ g, g < W2.heap.size → g ≠ mb → v.ownBlock ≠ some g → w4.heap[g]? = W2.heap[g]? := fun g h1 h2 h3 => (hgr4.block g (by omega) (fun e => h3 e.symm)).trans (h3o g h1 h2)
          have h4m : w4.heap[mb]? = some (.map es1 clock1) := (hgr4.block mb (by rw [h3s]; have : mb < W2.heap.size := hmlt; omega) (fun e => by have := (hov.lt mb e.symm).1; have := hPM.hb; omega)).trans h3m
          have S4 := Sa w4 (fun g hg => by
            rcases hg with rfl | rfl
            · exact h4o _ hp2 hpm (fun e => by have := (hov.lt _ e).1; omega)
            · exact h4o _ hzlt hmr (fun e => hz7 _ e rfl))
          obtain ⟨es2, clock2, hES, hPM2⟩ := hback w4 (.slice (some ⟨g', 0, none⟩) (n + 1) cap') k h4m (fun g h1 h2 h3 h4 => (h4o g (by omega) (by have := hPM.hb; omega) h3).trans (hW2o g h2)) (by rw [← hn]; exact hown4) (by
            rcases hat4 with h | h
            · exact .inl (by rw [h]; rfl)
            · exact .inr ⟨g', rfl, by omega⟩)
          simp only [Act.put, List.setIfInBounds_toArray, List.set_cons_zero, List.set_cons_succ]
          refine hK.out _ _ S4 (fun hHeld => ?_)
          clear hK KK
          refine wpAnyH_ready (rs := [11]) (by kernel_rfl) (by simp) ?_
          refine AllReadyH.cons rfl (fun KK hK => ?_) AllReadyH.nil
          have S5 := Sa (setBlock w4 mb (.map es2 clock2)) (fun g hg => by
            rcases hg with rfl | rfl
            · exact (setBlock_other _ _ _ _ hpm).trans (h4o _ hp2 hpm (fun e => by have := (hov.lt _ e).1; omega))
            · exact (setBlock_other _ _ _ _ hmr).trans (h4o _ hzlt hmr (fun e => hz7 _ e rfl)))
          refine step_entryStore none rfl rfl 149 (.tmp 27) (.tmp 34) (.tmp 33) rfl _ _ _ _ rfl rfl rfl hES ?_
          refine hK.out _ _ S5 (fun hHeld => ?_)
          clear hK KK
          refine wpAnyH_done (by kernel_rfl) ?_ _
          have R1 := hide (show ∃ es clock, PlM (setBlock w4 mb (.map es2 clock2)) base mb 3 (plc T N (k + 1)) No es clock from ⟨es2, clock2, by rw [plc_yes T N k hk3, ← HKF.out]; exact hPM2⟩)
          have R2 := hide (hT2.out.trans (show Turn W2.drew (setBlock w4 mb (.map es2 clock2)) base mb No from ⟨hgr4.os.trans h3os.1, hgr4.tape.trans h3os.2.1, hgr4.output.trans h3os.2.2, by rw [setBlock_size]; have := hgr4.size; show W2.heap.size ≤ _; omega, fun g h1 h2 h3 => (setBlock_other _ _ _ _ h2).trans (h4o g h1 h2 (fun e => by
            rcases h3 with h3 | h3
            · have := (hov.lt g e).1; omega
            · exact hoffv g e h3))⟩))
          generalize setBlock w4 mb (.map es2 clock2) = W5 at *
          clear S0 SA SE S3 S4 S5 Sa hback hES hPM2 hown4 hgr4 hME hPM hov hov3 hT2 hM1 h4o h4m h3o h3m h3c hHeld
          go_wp2_with fail
          go_roundw
          case rel => exact ⟨k + 1, by omega, by omega, by go_num, R1, R2⟩
          case measure => simp [intOf]; omega
      | false =>
        have hk3 : ¬ k + 3 ≤ N := of_decide_eq_false HOK.out.symm
        go_wp2_with (refine wpList_store_B rfl 153 (.tmp 7) (.tmp 21) rfl w1.heap.size 0 3 KF rfl rfl hth' Tryz.size3 ?_)
        rw [HW'.out]
        obtain ⟨W2, hW2⟩ : ∃ W2, W2 = W.setCells w1.heap.size 0 (bL 3 KF) := ⟨_, rfl⟩
        rw [← hW2] at G ⊢
        clear hW2
        obtain ⟨r7, hbW, hW2s⟩ := G.out
        have R1 := hide (show ∃ es clock, PlM W2 base mb 3 (plc T N (k + 1)) No es clock from by
          obtain ⟨es, clock, h⟩ := hM1.out
          rw [plc_no T N k hk3]
          exact ⟨es, clock, h.below hbW⟩)
        have R2 := hide (hT1.out.trans (Turn.of_below hbW))
        go_roundw
        case rel => exact ⟨k + 1, by omega, by omega, by go_num, R1, R2⟩
        case measure => simp [intOf]; omega
    · have hlt' : ¬ (k : Int) < (q : Int) := by omega
      have ekq : k = q := by omega
      have R1 := hide (show ∃ es clock, PlM wr base mb 3 (plc T N (fr + many)) No es clock by rw [← HQ.out, ← ekq]; exact HM.out)
      clear ekq HM
      go_wp2_with fail
      go_end0
      exact ⟨rfl, R1.out, HT.out⟩
end Go.Proofs.YtconcnndghmdfaaGreatDoor
namespace Go.Proofs.YtconcnndghmdfaaGreatDoor
open Go Go.RowKit Go.Shelf
attribute [local go_sem] Oper.semAt_some
theorem take_more {α : Type} (L : List α) (k : Nat) (h : k < L.length) : L.take (k + 1) = L.take k ++ [L[k]] := by
  rw [List.take_add_one, List.getElem?_eq_getElem h]; rfl
/-- The blocks below n₀ are kept, but for xx. -/
structure KpX (n₀ xx : Nat) (W W' : World) : Prop where
  size : W.heap.size ≤ W'.heap.size
  block : ∀ g, g < n₀ → g ≠ xx → W'.heap[g]? = W.heap[g]?
theorem KpX.refl (n₀ xx : Nat) (W : World) : KpX n₀ xx W W := ⟨Nat.le_refl _, fun _ _ _ => rfl⟩
theorem KpX.trans {n₀ xx : Nat} {A B C : World} (h : KpX n₀ xx A B) (k : KpX n₀ xx B C) : KpX n₀ xx A C := ⟨Nat.le_trans h.size k.size, fun g h1 h2 => (k.block g h1 h2).trans (h.block g h1 h2)⟩
theorem KpX.of_below {n₀ xx : Nat} {A B : World} (h : Below n₀ A B) : KpX n₀ xx A B := ⟨h.size, fun g h1 _ => h.block g h1⟩
theorem KpX.cell {n₀ xx : Nat} {A B : World} (h : KpX n₀ xx A B) {p : Addr} (h1 : p.block < n₀) (h2 : p.block ≠ xx) : B.cell? p = A.cell? p := World.cell?_of_block (h.block _ h1 h2)
set_option maxRecDepth 100000 in
set_option maxHeartbeats 2000000 in
theorem back1_in {α : Type} (ix pl : α → Nat) (F : Fence) (n : Nat) (hf : F.fn 141) (hro : F.round = none) (hn : 1 ≤ n) (l Bs n₀ b off len cap : Nat) (L : List α) (hlen : L.length = len) (hreach : len ≤ 4000) (hb : b < n₀) (xx : Nat) (hbx : b ≠ xx) (hBx : Bs ≠ xx) (J Jx : List α → World → Prop)
    (hY : ∀ pre x W, J pre W → pre.length < len → YieldAt F (n - 1) Tryz.prog l #[.int .i64 (ix x : Int), .int .i64 (pl x : Int)] W fun e W' =>
      (e = .returned (.bool true) ∧ J (pre ++ [x]) W' ∧ KpX n₀ xx W W') ∨ (e = .returned (.bool false) ∧ Jx (pre ++ [x]) W'))
    (W : World) (hBl : Bs < n₀) (hBs : W.cell? ⟨Bs, 0, none⟩ = some (.slice (some ⟨b, off, none⟩) len cap)) (hix : ∀ k (h : k < L.length), ix L[k] = len - 1 - k) (hc : ∀ k (h : k < L.length), W.cell? ⟨b, off + (len - 1 - k), none⟩ = some (.int .i64 (pl L[k] : Int))) (h0 : J [] W) :
    CallsIn F n Tryz.prog 141 #[.func (.yield l) #[] #[], .pointer (some ⟨Bs, 0, none⟩)] W fun e W' => (∃ v, e = .returned v) ∧
      ((∃ ys, ys = L ∧ J ys W') ∨ (∃ pre, pre <+: L ∧ Jx pre W')) := by
  have s1w : IntKind.i64.wrap ((len : Int) - 1) = (len : Int) - 1 := by simp only [IntKind.wrap_i64]; omega
  have s1 : wrap64 ((len : Int) - 1) = (len : Int) - 1 := by unfold wrap64; omega
  refine callsIn_of_wp Tryz.func141 rfl hf ?_ hro
  simp only [Tryz.ntmps141, List.size_toArray, List.length_cons, List.length_nil, Nat.reduceAdd, Nat.reduceSub, Array.replicate_succ, Array.replicate_zero, List.push_toArray, List.append_toArray, List.nil_append, List.cons_append]
  gi_wp2
  gi_loopw [3] (fun i wr => ∃ m : Nat, m ≤ len ∧ i = .int .i64 ((m : Int) - 1) ∧ J (L.take (len - m)) wr ∧ KpX n₀ xx W wr)
    (fun i _ => (intOf i + 1).toNat)
  case atStart => exact ⟨len, Nat.le_refl _, rfl, by simpa using h0, KpX.refl _ _ _⟩
  case round =>
    obtain ⟨m, hm, rfl, hJs, hnx⟩ := hrel
    cases m with
    | zero =>
      have hneg : ¬ (0 : Int) ≤ ((0 : Nat) : Int) - 1 := by decide
      gi_wp2
      go_end0
      exact ⟨⟨_, rfl⟩, .inl (by rw [Nat.sub_zero, ← hlen, List.take_length] at hJs; exact hJs)⟩
    | succ m =>
      have e0 : (((m + 1 : Nat) : Int) - 1) = (m : Int) := by omega
      rw [e0]
      have hk : len - (m + 1) < L.length := by omega
      have hms : len - 1 - (len - (m + 1)) = m := by omega
      obtain ⟨x, hx⟩ : ∃ x, x = L[len - (m + 1)] := ⟨_, rfl⟩
      have hxi : ix x = m := by rw [hx, hix _ hk]; exact hms
      have hcx : wr.cell? ⟨b, off + m, none⟩ = some (.int .i64 (pl x : Int)) := by
        have := hc _ hk
        rw [hms, ← hx] at this
        exact (hnx.cell (p := ⟨b, off + m, none⟩) hb hbx).trans this
      have hBc : wr.cell? ⟨Bs, 0, none⟩ = some (.slice (some ⟨b, off, none⟩) len cap) := (hnx.cell (p := ⟨Bs, 0, none⟩) hBl hBx).trans hBs
      have htk : L.take (len - m) = L.take (len - (m + 1)) ++ [x] := by
        rw [hx, ← take_more L _ hk]; congr 1; omega
      have hHt := hide htk
      obtain ⟨fn, tmps, assign, body, hy, hR⟩ := hY _ x wr hJs (by rw [List.length_take]; omega)
      rw [hxi] at hy
      obtain ⟨z, hz⟩ : ∃ z, z = pl x := ⟨_, rfl⟩
      rw [← hz] at hy hcx
      have hmlt : m < len := by omega
      have s2 : wrap64 ((m : Int) - 1) = (m : Int) - 1 := by unfold wrap64; omega
      have s2w : IntKind.i64.wrap ((m : Int) - 1) = (m : Int) - 1 := by simp only [IntKind.wrap_i64]; omega
      have hpos : (0 : Int) ≤ (m : Int) := by omega
      clear htk hx hms hk hc hix e0 hz
      gi_wp2
      refine hR.mono ?_
      rintro e W3 (⟨rfl, hJ3, hk3⟩ | ⟨rfl, hJx3⟩)
      · rw [← hHt.out] at hJ3
        gi_wp2
        go_roundw
        case rel => exact ⟨m, by omega, rfl, hJ3, hnx.trans hk3⟩
        case measure => simp [intOf]
      · rw [← hHt.out] at hJx3
        gi_wp2
        refine bodyPost_ret (results_none rfl _ _ _) rfl ?_
        exact ⟨⟨_, rfl⟩, .inr ⟨_, List.take_prefix _ _, hJx3⟩⟩
set_option maxRecDepth 100000 in
set_option maxHeartbeats 1000000 in
/-- .. of the nil slice: no round. -/
theorem back1_nil_in {α : Type} (F : Fence) (n : Nat) (hf : F.fn 141) (hro : F.round = none) (l Bs : Nat) (J : List α → World → Prop) (W : World) (hBs : W.cell? ⟨Bs, 0, none⟩ = some (.slice none 0 0)) (h0 : J [] W) :
    CallsIn F n Tryz.prog 141 #[.func (.yield l) #[] #[], .pointer (some ⟨Bs, 0, none⟩)] W fun e W' => (∃ v, e = .returned v) ∧ J [] W' := by
  refine callsIn_of_wp Tryz.func141 rfl hf ?_ hro
  simp only [Tryz.ntmps141, List.size_toArray, List.length_cons, List.length_nil, Nat.reduceAdd, Nat.reduceSub, Array.replicate_succ, Array.replicate_zero, List.push_toArray, List.append_toArray, List.nil_append, List.cons_append]
  gi_wp2
  gi_loopw [3] (fun i wr => i = .int .i64 (-1) ∧ J [] wr) (fun _ _ => 0)
  case atStart => exact ⟨by simp, h0⟩
  case round =>
    obtain ⟨rfl, hJs⟩ := hrel
    gi_wp2
    go_end0
    exact ⟨⟨_, rfl⟩, hJs⟩
set_option maxHeartbeats 1000000 in
/-- slices.Backward: the slice is boxed; the function handed back holds the box. -/
theorem back_in (F : Fence) (n : Nat) (hf : F.fn 114) (hro : F.round = none) (a : Option Addr) (len cap : Nat) (w : World) :
    CallsIn F n Tryz.prog 114 #[.slice a len cap] w fun e w' => e = .returned (.func (.func 141) #[] #[.pointer (some ⟨w.heap.size, 0, none⟩)]) ∧ w' = w.alloc (.cells #[.slice a len cap] 160) := by
  refine callsIn_of_wp Tryz.func114 rfl hf ?_ hro
  simp only [Tryz.ntmps114, List.size_toArray, List.length_cons, List.length_nil, Nat.reduceAdd, Nat.reduceSub, Array.replicate_succ, Array.replicate_zero, List.push_toArray, List.append_toArray, List.nil_append, List.cons_append]
  gi_wp2
  go_ret
  exact ⟨rfl, rfl⟩
/-- What the loop over slices.Backward is handed: all of L, or a beginning of it. -/
theorem back_stops {α : Type} (ix pl : α → Nat) (F : Fence) (n : Nat) (hf : F.fn 141) (hro : F.round = none) (hn : 1 ≤ n) (Bs n₀ : Nat) (sv : Value) (L : List α) (hreach : L.length ≤ 4000) (w : World) (hBs : Bs < w.heap.size) (hBn : Bs < n₀) (hn₀ : n₀ ≤ w.heap.size) (xx : Nat) (hBx : Bs ≠ xx)
    (hc : w.cell? ⟨Bs, 0, none⟩ = some sv) (hix : ∀ k (h : k < L.length), ix L[k] = L.length - 1 - k)
    (hI : (sv = .slice none 0 0 ∧ L = []) ∨ ∃ b off cap, sv = .slice (some ⟨b, off, none⟩) L.length cap ∧ b < n₀ ∧ b ≠ xx ∧ ∀ k (h : k < L.length), w.cell? ⟨b, off + (L.length - 1 - k), none⟩ = some (.int .i64 (pl L[k] : Int))) :
    SeqStopsK F n Tryz.prog 141 #[.pointer (some ⟨Bs, 0, none⟩)] (fun x : α => #[Value.int .i64 (ix x : Int), Value.int .i64 (pl x : Int)]) (KpX n₀ xx) (fun ys => ys = L) (fun pre => pre <+: L) L.length w := fun l J Jx W hW _ _ hY h0 => by
  have hc' := (hW.cell (p := ⟨Bs, 0, none⟩) hBs).trans hc
  rcases hI with ⟨rfl, rfl⟩ | ⟨b, off, cap, rfl, hb, hbx, hcs⟩
  · exact (back1_nil_in F n hf hro l Bs J W hc' h0).mono fun e W' ⟨he, hj⟩ => ⟨he, .inl ⟨_, rfl, hj⟩⟩
  · exact back1_in ix pl F n hf hro hn l Bs n₀ b off L.length cap L rfl hreach hb xx hbx hBx J Jx hY W hBn hc' hix (fun k h => ((hW.mono hn₀).cell (p := ⟨b, off + (L.length - 1 - k), none⟩) hb).trans (hcs k h)) h0
end Go.Proofs.YtconcnndghmdfaaGreatDoor
