/- Put together: AsW, CodeOf, ImpUnp, TabOf, OpenKeys, EqText, SealPx. -/
import Derived.Test.YtconcnndghmdfaaGreatDoorSe48
import Derived.Test.YtconcnndghmdfaaGreatDoorSe1
import Derived.Handy
import Derived.Test.YtconcnndghmdfaaGreatDoorSe44
import Derived.Test.YtconcnndghmdfaaGreatDoorSe45
import Derived.Test.YtconcnndghmdfaaGreatDoorSe18
import Derived.Test.YtconcnndghmdfaaGreatDoorSe17
import Derived.Test.YtconcnndghmdfaaGreatDoorSe26
import Derived.Lib.LaidTab
import Derived.LaidMore
import Derived.Stop.Joined
import Derived.Test.YtconcnndghmdfaaGreatDoorRows
import Derived.ProofKit
import Derived.OpenShut
import Derived.Deep.Slices
import Derived.Lib.SmallJoins
import Derived.WalkKit
import Derived.Test.YtconcnndghmdfaaGreatDoorSe20
import Derived.Defers
import Derived.Recover
namespace Go.Proofs.YtconcnndghmdfaaGreatDoor
open Go.RowKit Go.Extern.Stop Go.Stop Go.Extern

theorem as_methodKind (h : Value) (w : World) : (Go.method 369 221 (.agg #[h]) "Kind").run Tryz.prog w = .ok (180, h) w := by kernel_rfl
theorem as_methodElem (h : Value) (w : World) : (Go.method 369 221 (.agg #[h]) "Elem").run Tryz.prog w = .ok (190, .agg #[h]) w := by kernel_rfl
theorem as_methodImplements (h : Value) (w : World) : (Go.method 369 221 (.agg #[h]) "Implements").run Tryz.prog w = .ok (191, .agg #[h]) w := by kernel_rfl
theorem as_methodAssignableTo (h : Value) (w : World) : (Go.method 369 221 (.agg #[h]) "AssignableTo").run Tryz.prog w = .ok (188, .agg #[h]) w := by kernel_rfl

set_option maxHeartbeats 4000000 in
theorem as_hit (c : Int) (t : Addr) (old : Value) (w : World) (hg : w.cell? ⟨0, 0, none⟩ = some (.iface 221 (.agg #[.pointer (some ⟨2, 138, none⟩)]))) (ht0 : w.cell? t = some old) (hf0 : w.frozen? t = false) :
    Calls Tryz.prog 133 #[.iface 84 (.agg #[.int .i64 c]), .iface 183 (.pointer (some t))] w fun ev w' => ev = .returned (.bool true) ∧ w' = ((((w.alloc (.cells #[.pointer (some t)] 183)).alloc (.cells #[.pointer (some ⟨2, 183, none⟩), .pointer (some ⟨w.heap.size, 0, none⟩), .int .u64 150] 206)).alloc (.cells #[.pointer (some ⟨2, 183, none⟩), .pointer (some ⟨w.heap.size, 0, none⟩), .int .u64 150] 206)).alloc (.cells #[.int .i64 c] 84)).setCell t (.int .i64 c) := by
  have h6 := @run_callFunc_extern Tryz.prog 148 _ (fun args => ReflectliteValue.unpack (args.getD 0 (.tuple #[]))) Tryz.func148 (by kernel_rfl) (by kernel_rfl) (by kernel_rfl) (by kernel_rfl)
  have h7 := @run_callFunc_extern Tryz.prog 149 _ (ReflectliteValue.methodAny (ReflectliteValue.valueError "reflectlite.Value.Type" 0) (fun t _ _ _ => ReflectliteType.toType t)) Tryz.func149 (by kernel_rfl) (by kernel_rfl) (by kernel_rfl) (by kernel_rfl)
  have h8 := @run_callFunc_extern Tryz.prog 150 _ (ReflectliteValue.method (ReflectliteValue.valueError "reflectlite.Value.IsNil" 0) ReflectliteValue.isNil) Tryz.func150 (by kernel_rfl) (by kernel_rfl) (by kernel_rfl) (by kernel_rfl)
  have h27 := @run_callFunc_extern Tryz.prog 180 _ (ReflectliteType.abiMethod fun t => do pure (.int .u8 (← Rtype.kind t))) Tryz.func180 (by kernel_rfl) (by kernel_rfl) (by kernel_rfl) (by kernel_rfl)
  have h37 := @run_callFunc_extern Tryz.prog 190 _ (ReflectliteType.method ReflectliteType.elem) Tryz.func190 (by kernel_rfl) (by kernel_rfl) (by kernel_rfl) (by kernel_rfl)
  have h38 := @run_callFunc_extern Tryz.prog 191 _ (ReflectliteType.relation "Implements" ReflectliteType.implements_) Tryz.func191 (by kernel_rfl) (by kernel_rfl) (by kernel_rfl) (by kernel_rfl)
  have h10 := @run_callFunc_extern Tryz.prog 157 _ ReflectliteType.typeOf Tryz.func157 (by kernel_rfl) (by kernel_rfl) (by kernel_rfl) (by kernel_rfl)
  have h35 := @run_callFunc_extern Tryz.prog 188 _ (ReflectliteType.relation "AssignableTo" ReflectliteType.assignableTo) Tryz.func188 (by kernel_rfl) (by kernel_rfl) (by kernel_rfl) (by kernel_rfl)
  have h11 := @run_callFunc_extern Tryz.prog 158 _ (ReflectliteValue.method (ReflectliteValue.valueError "reflectlite.Value.Elem" 0) ReflectliteValue.elem) Tryz.func158 (by kernel_rfl) (by kernel_rfl) (by kernel_rfl) (by kernel_rfl)
  have h12 := @run_callFunc_extern Tryz.prog 159 _ ReflectliteValue.set Tryz.func159 (by kernel_rfl) (by kernel_rfl) (by kernel_rfl) (by kernel_rfl)
  have tO := as_typeOf
  have mA := as_methodAssignableTo
  have a25 := as_assignable
  have v25 := as_valueE
  have f6 := as_valueOf
  have f7 := as_type
  have mK := as_methodKind
  have mE := as_methodElem
  have mI := as_methodImplements
  have k27 := as_kindP
  have k25 := as_kindE
  have e27 := as_elem
  have i25 := as_implements
  have n8 := as_isNil ⟨w.heap.size, 0, none⟩ t ((w.alloc (.cells #[.pointer (some t)] 183)).alloc (.cells #[.pointer (some ⟨2, 183, none⟩), .pointer (some ⟨w.heap.size, 0, none⟩), .int .u64 150] 206)) (by simp)
  have hlt : 0 < w.heap.size := by
    rcases Nat.eq_zero_or_pos w.heap.size with h0 | h
    · simp [World.cell?, h0] at hg
    · exact h
  have hg2 : ((w.alloc (.cells #[.pointer (some t)] 183)).alloc (.cells #[.pointer (some ⟨2, 183, none⟩), .pointer (some ⟨w.heap.size, 0, none⟩), .int .u64 150] 206)).cell? ⟨0, 0, none⟩ = some (.iface 221 (.agg #[.pointer (some ⟨2, 138, none⟩)])) := by
    rw [World.cell?_alloc_lt _ _ ⟨0, 0, none⟩ (by simp), World.cell?_alloc_lt _ _ ⟨0, 0, none⟩ hlt]; exact hg
  have htl : t.block < w.heap.size := by
    rcases Nat.lt_or_ge t.block w.heap.size with h | h
    · exact h
    · simp [World.cell?, Array.getElem?_eq_none h] at ht0
  have el := as_elemV ⟨w.heap.size, 0, none⟩ t (((w.alloc (.cells #[.pointer (some t)] 183)).alloc (.cells #[.pointer (some ⟨2, 183, none⟩), .pointer (some ⟨w.heap.size, 0, none⟩), .int .u64 150] 206)).alloc (.cells #[.pointer (some ⟨2, 183, none⟩), .pointer (some ⟨w.heap.size, 0, none⟩), .int .u64 150] 206)) (by rw [World.cell?_alloc_lt _ _ ⟨w.heap.size, 0, none⟩ (by simp; omega)]; simp)
  have st := as_set t ⟨w.heap.size + 1 + 1 + 1, 0, none⟩ c old ((((w.alloc (.cells #[.pointer (some t)] 183)).alloc (.cells #[.pointer (some ⟨2, 183, none⟩), .pointer (some ⟨w.heap.size, 0, none⟩), .int .u64 150] 206)).alloc (.cells #[.pointer (some ⟨2, 183, none⟩), .pointer (some ⟨w.heap.size, 0, none⟩), .int .u64 150] 206)).alloc (.cells #[.int .i64 c] 84))
    (by rw [World.cell?_alloc_at _ _ _ _ (by simp)]; rfl)
    (by rw [World.cell?_alloc_lt _ _ t (by simp; omega), World.cell?_alloc_lt _ _ t (by simp; omega), World.cell?_alloc_lt _ _ t (by simp; omega), World.cell?_alloc_lt _ _ t htl]; exact ht0)
    (by rw [World.frozen?_alloc_old _ _ t (by simp; omega), World.frozen?_alloc_old _ _ t (by simp; omega), World.frozen?_alloc_old _ _ t (by simp; omega), World.frozen?_alloc_old _ _ t (Nat.ne_of_lt htl)]; exact hf0)
  go_enter Tryz.func133, Tryz.ntmps133
  go_wp2
  refine wp_loop_rounds 1 ?_
  rw [rounds_succ]
  go_wp2
  go_ret
  exact ⟨rfl, rfl⟩
end Go.Proofs.YtconcnndghmdfaaGreatDoor
namespace Go.Proofs.YtconcnndghmdfaaGreatDoor
open Go.RowKit

/-- errors.errorType is laid as the program's text lays it. -/
def Laid (w : World) : Prop := w.cell? ⟨0, 0, none⟩ = some (.iface 221 (.agg #[.pointer (some ⟨2, 138, none⟩)]))
theorem Laid.pos {w : World} (h : Laid w) : 0 < w.heap.size := by
  unfold Laid at h
  rcases Nat.eq_zero_or_pos w.heap.size with h0 | h1
  · simp [World.cell?, h0] at h
  · exact h1
theorem Laid.below {w w1 : World} {n : Nat} (h : Laid w) (hb : Below n w w1) (hn : 0 < n) : Laid w1 := by
  unfold Laid at *
  rw [← h]; exact hb.cell (p := ⟨0, 0, none⟩) hn
theorem Laid.alloc {w : World} (h : Laid w) (o : Obj) : Laid (w.alloc o) := by
  have hp := h.pos
  unfold Laid at *
  rw [World.cell?_alloc_lt _ _ ⟨0, 0, none⟩ hp]; exact h

set_option maxHeartbeats 800000 in
theorem codeOf_nil (w : World) : Calls Tryz.prog 101 #[.nilIface] w fun e w' => e = .returned (.int .i64 0) ∧ Below w.heap.size w w' := by
  go_enter Tryz.func101, Tryz.ntmps101
  go_wp2_with (go_at_call 133; refine (as_nil _ _).mono ?_; rintro e w' ⟨rfl, rfl⟩)
  go_ret
  exact ⟨rfl, by go_grown⟩

set_option maxHeartbeats 800000 in
theorem codeOf_fault (c : Int) (w : World) (hg : Laid w) : Calls Tryz.prog 101 #[.iface 84 (.agg #[.int .i64 c])] w fun e w' => e = .returned (.int .i64 c) ∧ Below w.heap.size w w' := by
  have hg1 : Laid (w.alloc (.cells #[.int .i64 0] 84)) := hg.alloc _
  unfold Laid at hg1
  clear hg
  have ht1 : (w.alloc (.cells #[.int .i64 0] 84)).cell? ⟨w.heap.size, 0, none⟩ = some (.int .i64 0) := by simp
  have hf1 : (w.alloc (.cells #[.int .i64 0] 84)).frozen? ⟨w.heap.size, 0, none⟩ = false := by simp
  go_enter Tryz.func101, Tryz.ntmps101
  go_wp2_with (go_at_call 133; refine (as_hit c _ (.int .i64 0) _ hg1 ht1 hf1).mono ?_; rintro e w' ⟨rfl, rfl⟩)
  go_ret
  exact ⟨rfl, by go_grown⟩
end Go.Proofs.YtconcnndghmdfaaGreatDoor
namespace Go.Proofs.YtconcnndghmdfaaGreatDoor
open Go.RowKit
/-- What unpacked tells: the text, and what is wrong. -/
def unpR (r : ByteArray × Int) : Value := .tuple #[.string r.1, if r.2 = 0 then .nilIface else .iface 84 (.agg #[.int .i64 r.2])]
set_option maxRecDepth 100000 in
set_option maxHeartbeats 1600000 in
theorem imp_unpacked (s : ByteArray) (w : World) (hs : s.size ≤ 20000) :
    Calls Tryz.prog 100 #[.string s] w fun e w' => e = .returned (unpR (unpackS s)) ∧ Below w.heap.size w w' := by
  have hE := show unpackS s = _ from if_neg (show ¬ 20000 < s.size by omega)
  have SR := hide (impl_readNum s 0 w hs (by omega))
  rcases decAt_form s 0 with ⟨U, m, hd, hm⟩ | hd | hd
  · rw [hd] at hE SR
    rw [numRet_good] at SR
    simp only at hE
    obtain ⟨N, hN⟩ : ∃ N, N = unfold U := ⟨_, rfl⟩
    rw [← hN] at hE SR
    by_cases h3 : N < 0 ∨ 4000 < N
    · rw [if_pos h3] at hE
      rw [hE]
      by_cases h1 : N < 0
      · have d1 : decide (N < 0) = true := decide_eq_true h1
        clear hE hd hm hN
        go_enter Tryz.func100, Tryz.ntmps100
        go_wp2_with fail
        refine SR.out.mono ?_
        rintro e w1 ⟨rfl, rfl⟩
        clear SR
        go_wp2_with fail
        go_ret2
        exact ⟨rfl, Below.refl _ _⟩
      · have h2 : 4000 < N := by omega
        have d1 : decide (N < 0) = false := decide_eq_false h1
        have d2 : decide (4000 < N) = true := decide_eq_true h2
        clear hE hd hm hN
        go_enter Tryz.func100, Tryz.ntmps100
        go_wp2_with fail
        refine SR.out.mono ?_
        rintro e w1 ⟨rfl, rfl⟩
        clear SR
        go_wp2_with fail
        go_ret2
        exact ⟨rfl, Below.refl _ _⟩
    · rw [if_neg h3] at hE
      obtain ⟨n, hn⟩ : ∃ n : Nat, N = (n : Int) := ⟨N.toNat, by omega⟩
      have hn4 : n ≤ 4000 := by omega
      rw [hn] at hE SR
      rw [Int.toNat_natCast] at hE
      rw [hE]
      obtain ⟨q, hq⟩ : ∃ q, q = m := ⟨_, rfl⟩
      have e0 : ((0 : Nat) : Int) + (m : Int) = (m : Int) := by omega
      rw [e0] at SR
      have hms : m ≤ s.size := by omega
      have hrest := fun u : World => run_rest (P := Tryz.prog) u 9 s m Tryz.underlying9 hms
      obtain ⟨r, hr⟩ : ∃ r, r = s.extract m s.size := ⟨_, rfl⟩
      have hrs : r.size ≤ 20000 := by rw [hr, ByteArray.size_extract]; omega
      have HUN := hide (show unpN s m n = if (unpO r n).2 = true then (if packB (unpO r n).1 = s then ((unpO r n).1, 0) else (⟨#[]⟩, 3)) else (⟨#[]⟩, 5) by rw [hr]; rfl)
      rw [← hr] at hrest
      have d1 : decide ((n : Int) < 0) = false := decide_eq_false (by omega)
      have d2 : decide ((4000 : Int) < (n : Int)) = false := decide_eq_false (by omega)
      have d2' : decide (4000 < n) = false := decide_eq_false (by omega)
      have hmi : (m : Int) ≤ (s.size : Int) := by omega
      have HSZ := hide (unpO_size r n)
      clear hE hd hm hN hn h3 hq hr e0
      go_enter Tryz.func100, Tryz.ntmps100
      go_wp2_with fail
      refine SR.out.mono ?_
      rintro e w1 ⟨rfl, rfl⟩
      clear SR
      go_wp2_with fail
      refine (imp_newDecoder r w (by omega)).mono ?_
      rintro e w2 ⟨g, rfl, hg, hdec, hb2⟩
      have ST := hide (imp_text w.heap.size g n r w2 hn4 (by omega) hdec hg)
      obtain ⟨⟨B, ok⟩, hUU⟩ : ∃ UU, UU = unpO r n := ⟨_, rfl⟩
      rw [← hUU] at ST HUN HSZ
      have B2 := hide hb2
      clear hb2 hdec hUU
      go_wp2_with fail
      refine ST.out.mono ?_
      rintro e w3 ⟨rfl, hb3⟩
      have B3 := hide (B2.out.trans hb3)
      clear hb3 ST
      cases ok with
      | false =>
        have HU := hide (show unpN s m n = (⟨#[]⟩, 5) by rw [HUN.out]; rfl)
        clear HUN
        go_wp2_with fail
        go_ret2
        exact ⟨by rw [HU.out]; rfl, B3.out⟩
      | true =>
        have hB : B.size = n := HSZ.out rfl
        have SP := hide (imp_pack B w3 (by omega))
        have hPS : packS B = packB B := if_pos (by omega)
        rw [hPS] at SP
        obtain ⟨P, hP⟩ : ∃ P, P = packB B := ⟨_, rfl⟩
        rw [← hP] at SP
        have HUN2 := hide (show unpN s m n = if P = s then (B, 0) else (⟨#[]⟩, 3) by rw [HUN.out, hP]; rfl)
        clear HUN hB hPS hP HSZ
        by_cases hPs : P = s
        · have st : (P.toList == s.toList) = true := str_eq hPs
          have HU := hide (show unpN s m n = (B, 0) by rw [HUN2.out, if_pos hPs])
          clear HUN2 hPs
          go_wp2_with fail
          refine SP.out.mono ?_
          rintro e w4 ⟨rfl, hb4⟩
          have B4 := hide (B3.out.trans (hb4.mono B3.out.size))
          clear hb4 SP
          go_wp2_with fail
          go_ret2
          exact ⟨by rw [HU.out]; rfl, B4.out⟩
        · have st : (P.toList == s.toList) = false := str_ne hPs
          have HU := hide (show unpN s m n = (⟨#[]⟩, 3) by rw [HUN2.out, if_neg hPs])
          clear HUN2 hPs
          go_wp2_with fail
          refine SP.out.mono ?_
          rintro e w4 ⟨rfl, hb4⟩
          have B4 := hide (B3.out.trans (hb4.mono B3.out.size))
          clear hb4 SP
          go_wp2_with fail
          go_ret2
          exact ⟨by rw [HU.out]; rfl, B4.out⟩
  all_goals
    rw [hd] at hE SR
    rw [numRet_bad _ _ (by decide)] at SR
    have hE2 : unpackS s = (⟨#[]⟩, 3) := hE
    rw [hE2]
    clear hE hE2 hd
    go_enter Tryz.func100, Tryz.ntmps100
    go_wp2_with fail
    refine SR.out.mono ?_
    rintro e w1 ⟨rfl, rfl⟩
    clear SR
    go_wp2_with fail
    go_ret2
    exact ⟨rfl, Below.refl _ _⟩
set_option maxRecDepth 100000 in
set_option maxHeartbeats 1600000 in
theorem imp_unpack (s : ByteArray) (w : World) (hg : Laid w) (hs : s.size ≤ 9223372036854775807) :
    Calls Tryz.prog 65 #[.string s] w fun e w' => e = .returned (textO (unpackS s).1 (unpackS s).2) ∧ Below w.heap.size w w' := by
  by_cases h : 20000 < s.size
  · have hE : unpackS s = (⟨#[]⟩, 2) := if_pos h
    rw [hE]
    clear hE
    go_enter Tryz.func65, Tryz.ntmps65
    go_wp2_with fail
    go_returns
    exact ⟨rfl, by go_grown⟩
  · have hg1 := hide (hg.alloc (.cells #[.string ⟨#[]⟩, .int .i64 0, .int .i64 0] 31))
    have SU := hide (imp_unpacked s (w.alloc (.cells #[.string ⟨#[]⟩, .int .i64 0, .int .i64 0] 31)) (by omega))
    obtain ⟨⟨B, c⟩, hR⟩ : ∃ R, R = unpackS s := ⟨_, rfl⟩
    rw [← hR] at SU
    simp only [unpR] at SU
    have HR := hide hR
    clear hR hg
    go_enter Tryz.func65, Tryz.ntmps65
    go_wp2_with fail
    by_cases hc : c = 0
    · subst hc
      rw [if_pos rfl] at SU
      refine SU.out.mono ?_
      rintro e w1 ⟨rfl, hb1⟩
      have HB1 := hide hb1
      clear hb1 SU
      go_wp2_with fail
      refine (codeOf_nil _).mono ?_
      rintro e w2 ⟨rfl, hb2⟩
      have hb := HB1.out.trans (hb2.mono HB1.out.size)
      simp at hb
      obtain ⟨⟨c0, c1, c2⟩, hf⟩ := out_cells hb (Nat.lt_succ_self _) (heap_alloc_new w _)
      obtain ⟨r0, r1, r2⟩ := out_read (.string B) (.int .i64 0) (.int .i64 0) c0 c1 c2
      have HB := hide hb
      clear hb hb2 HB1
      go_wp2_with fail
      exact bodyPost_ret (v := textO B 0) (by simp [results, Tryz.results65, go_sem, r0, r1, r2, textO]) rfl ⟨by rw [← HR.out], below_out' HB.out⟩
    · rw [if_neg hc] at SU
      refine SU.out.mono ?_
      rintro e w1 ⟨rfl, hb1⟩
      have HB1 := hide hb1
      have hg2 := hide (hg1.out.below hb1 (by simp))
      clear hb1 SU
      go_wp2_with fail
      refine (codeOf_fault c _ hg2.out).mono ?_
      rintro e w2 ⟨rfl, hb2⟩
      have hb := HB1.out.trans (hb2.mono HB1.out.size)
      simp at hb
      obtain ⟨⟨c0, c1, c2⟩, hf⟩ := out_cells hb (Nat.lt_succ_self _) (heap_alloc_new w _)
      obtain ⟨r0, r1, r2⟩ := out_read (.string B) (.int .i64 0) (.int .i64 c) c0 c1 c2
      have HB := hide hb
      clear hb hb2 HB1
      go_wp2_with fail
      exact bodyPost_ret (v := textO B c) (by simp [results, Tryz.results65, go_sem, r0, r1, r2, textO]) rfl ⟨by rw [← HR.out], below_out' HB.out⟩
end Go.Proofs.YtconcnndghmdfaaGreatDoor
namespace Go.Proofs.YtconcnndghmdfaaGreatDoor
open Go.RowKit
theorem gTab : Tryz.prog.globalNamed "loop.example/g00320/impl.roundNums" = some 1 := by kernel_rfl
theorem gTabType : (Tryz.prog.globals[1]?).map (·.type) = some 235 := by kernel_rfl
theorem gTabCells : Tryz.prog.cellsOf 235 = 64 := by kernel_rfl
theorem gTabCell : Tryz.prog.cellsOf 176 = 1 := by kernel_rfl
def tabL : List (String × DataW Unit) := [("loop.example/g00320/impl.roundNums", Rows.laid_loop_example_g00320_impl_roundNums)]
theorem laid_plain {W : World} (h : laidMetH Tryz.prog tabL W) : laidMet Tryz.prog tabL W := by
  rw [MakeChecks.laidMetH_plain _ _ _ (by kernel_rfl)] at h; exact h
theorem tabIs {W : World} (h : laidMet Tryz.prog tabL W) : Lib.TabIs Tryz.prog W "loop.example/g00320/impl.roundNums" .u32 (shaKeys.map fun (n : Nat) => (n : Int)) :=
  Lib.tabIs_of_head (rest := []) gTab gTabType Tryz.underlying235 Tryz.underlying176 gTabCell gTabCells h
theorem tab_of_laid {W : World} (h : laidMet Tryz.prog tabL W) : Tab W := by
  intro j hj
  have hl : (shaKeys.map fun (n : Nat) => (n : Int)).length = 64 := by rw [List.length_map]; rfl
  rw [(tabIs h).cell gTab j (by omega)]
  have hj' : j < shaKeys.length := hj
  rw [List.getD_eq_getElem?_getD, List.getElem?_map, List.getElem?_eq_getElem hj', shaKey, List.getD_eq_getElem?_getD, List.getElem?_eq_getElem hj']
  rfl
theorem size_of_laid {W : World} (h : laidMet Tryz.prog tabL W) : 1 < W.heap.size :=
  block_lt_of_cell (tab_of_laid h 0 (by omega))
end Go.Proofs.YtconcnndghmdfaaGreatDoor
namespace Go.Proofs.YtconcnndghmdfaaGreatDoor
open Go.ChangeShapes Go.WideShapes Go.ChangeAt Go.RowKit Go.Deep Go.Joins
theorem Tryz.cellsLawKeys : Tryz.prog.cellsOf 36 = 2 := by kernel_rfl
set_option maxRecDepth 100000 in
theorem open_keys {H : Type} {enc : TypeId × Value → H} {W : World} {b0 : Nat} {v : Value} {d : DataW H} {p : List MemPlace} (hv : Value.okWide Tryz.prog W .any b0 36 v) (h : DataW.Trod enc Tryz.prog W 0 (fun _ => true) true 36 v d p) :
    ∃ a m : ByteArray, v = .agg #[.string a, .string m] ∧ a.size ≤ maxLen ∧ m.size ≤ maxLen := by
  obtain ⟨c0, c1, y0, y1, n, rfl, _, _, h0, h1⟩ := open_agg2 Tryz.underlying36 (by kernel_rfl) Tryz.cellsLawKeys hv h
  obtain ⟨z0, e0, _, s0⟩ := DataW.trod_string Tryz.underlying9 h0
  obtain ⟨z1, e1, _, s1⟩ := DataW.trod_string Tryz.underlying9 h1
  simp at e0 e1
  subst e0 e1
  exact ⟨z0, z1, rfl, s0, s1⟩
end Go.Proofs.YtconcnndghmdfaaGreatDoor
namespace Go.Proofs.YtconcnndghmdfaaGreatDoor
open Go.RowKit
set_option maxRecDepth 100000 in
set_option maxHeartbeats 400000 in
theorem eqTextOut_same (t : ByteArray) (n c : Int) (w : World) :
    Calls Tryz.prog 16 #[.agg #[.string t, .int .i64 n, .int .i64 c], .agg #[.string t, .int .i64 n, .int .i64 c]] w fun e w' => e = .returned (.bool true) ∧ Below w.heap.size w w' := by
  go_enter Tryz.func16, Tryz.ntmps16
  go_wp2
  go_ret
  exact ⟨rfl, by go_grown⟩
end Go.Proofs.YtconcnndghmdfaaGreatDoor
namespace Go.Proofs.YtconcnndghmdfaaGreatDoor
open Go.RowKit Go
set_option maxRecDepth 100000 in
theorem catch_idle (p : Addr) (w : World) :
    CallsD Tryz.prog 35 #[.pointer (some p)] .returning w fun e u' w' => e = .returned (.tuple #[]) ∧ u' = .returning ∧ w' = w := by
  refine callsD_of_wpS Tryz.func35 rfl fun c₀ cs hu => ?_
  apply wpS_seq
  apply wpS_region
  simp [wpOpsS, go_sem, recoverD, hu, Tryz.ntmps35, Exit.thenS]
  refine wpS_of_wp ?_
  have hT : (#[Value.pointer (some p)] ++ ((Array.replicate 7 undef).setIfInBounds 1 Value.nilIface).setIfInBounds 0 Value.nilIface) = #[Value.pointer (some p), .nilIface, .nilIface, undef, undef, undef, undef, undef] := rfl
  rw [hT]
  go_wp2_with fail
  cases c₀
  simp_all [bodyPostS, results, Tryz.results35]
set_option maxRecDepth 100000 in
theorem catch_fault (g : Nat) (c : Int) (older : List PanicEntry) (w : World) (r0 : w.cell? ⟨g, 0, none⟩ = some (.string ⟨#[]⟩)) (r1 : w.cell? ⟨g, 1, none⟩ = some (.int .i64 0)) (r2 : w.cell? ⟨g, 2, none⟩ = some (.int .i64 0)) (fz : ∀ o, w.frozen? ⟨g, o, none⟩ = false) :
    CallsD Tryz.prog 35 #[.pointer (some ⟨g, 0, none⟩)] (.panicking ({ v := faultP c, recovered := false } :: older)) w fun e u' w' =>
      e = .returned (.tuple #[]) ∧ u' = .panicking ({ v := faultP c, recovered := true } :: older) ∧ w' = (((w.setCell ⟨g, 0, none⟩ (.string ⟨#[]⟩)).setCell ⟨g, 1, none⟩ (.int .i64 0)).setCell ⟨g, 2, none⟩ (.int .i64 c)) := by
  refine callsD_of_wpS Tryz.func35 rfl fun c₀ cs hu => ?_
  apply wpS_seq
  apply wpS_region
  simp [wpOpsS, go_sem, recoverD, hu, Tryz.ntmps35, Exit.thenS]
  refine wpS_of_wp ?_
  have S := hide (fun W => imp_faultCode c W)
  unfold faultP at *
  have hT : (#[Value.pointer (some ⟨g, 0, none⟩)] ++ ((Array.replicate 7 undef).setIfInBounds 1 (Value.iface 84 (.agg #[.int .i64 c]))).setIfInBounds 0 (Value.iface 84 (.agg #[.int .i64 c]))) = #[Value.pointer (some ⟨g, 0, none⟩), .iface 84 (.agg #[.int .i64 c]), .iface 84 (.agg #[.int .i64 c]), undef, undef, undef, undef, undef] := rfl
  rw [hT]
  go_wp2_with fail
  refine (S.out _).mono ?_
  rintro e w1 ⟨rfl, rfl⟩
  go_wp2_with fail
  cases c₀
  simp_all [bodyPostS, results, Tryz.results35]
set_option maxRecDepth 100000 in
set_option maxHeartbeats 1600000 in
theorem imp_open_long (H M b : ByteArray) (id : Int) (w : World) (hs : 20000 < b.size) (hb : b.size ≤ 9223372036854775807) :
    Calls Tryz.prog 11 #[.agg #[.string H, .string M], .int .i64 id, .string b] w fun e w' => e = .returned (textO ⟨#[]⟩ 2) ∧ Below w.heap.size w w' := by
  have hs' : (20000 : Int) < (b.size : Int) := by omega
  have hmf : ∀ (fn : Fn) (first cap : Array Value) (w : World), (Instr.makeFunc fn first cap).run Tryz.prog w = .ok (.func fn first cap) w := fun _ _ _ _ => rfl
  unfold textO
  go_enter_defers Tryz.func11, Tryz.ntmps11
  go_wp2_with fail
  have hr := heap_alloc_new (w.alloc (.cells #[.string H, .string M] 24)) (.cells #[.string ⟨#[]⟩, .int .i64 0, .int .i64 2] 31)
  rw [World.size_alloc] at hr
  exact ⟨_, results_cell_row Tryz.results11 _ _ (w.heap.size + 1) 31 #[.string ⟨#[]⟩, .int .i64 0, .int .i64 2] (0, 0) _ rfl hr Tryz.underlying31 rfl (by kernel_rfl), rfl, ((Below.refl _ _).alloc (Nat.le_refl _) _).alloc (by simp) _⟩
set_option maxRecDepth 100000 in
set_option maxHeartbeats 1600000 in
theorem imp_open_good (H M b t : ByteArray) (id : Int) (w : World) (hs : b.size ≤ 20000)
    (SO : Hid (∀ W : World, Below w.heap.size w W → Calls Tryz.prog 37 #[.agg #[.string H, .string M], .int .i64 id, .string b] W fun e w' => e = .returned (.string t) ∧ Below W.heap.size W w')) :
    Calls Tryz.prog 11 #[.agg #[.string H, .string M], .int .i64 id, .string b] w fun e w' => e = .returned (textO t 0) ∧ Below w.heap.size w w' := by
  have hs' : ¬ (20000 : Int) < (b.size : Int) := by omega
  have hmf : ∀ (fn : Fn) (first cap : Array Value) (w : World), (Instr.makeFunc fn first cap).run Tryz.prog w = .ok (.func fn first cap) w := fun _ _ _ _ => rfl
  have HB0 : OpW w H M _ := OpW.start (w := w) (H := H) (M := M)
  have c0 := HB0.c0
  have c1 := HB0.c1
  have HB := hide HB0
  clear HB0
  unfold textO
  go_enter_defers Tryz.func11, Tryz.ntmps11
  go_wp2_with fail
  refine (SO.out _ HB.out.low).mono ?_
  rintro e w1 ⟨rfl, hb1⟩
  have HB := hide (HB.out.call hb1)
  clear hb1 c0 c1
  have r0 := HB.out.r0
  have r1 := HB.out.r1
  have r2 := HB.out.r2
  have fz := HB.out.fz
  go_wp2_with fail
  refine leaves_cons (f := 35) (args := #[.pointer (some ⟨w.heap.size + 1, 0, none⟩)]) (by simp) (by simp [go_sem]) ?_
  refine (catch_idle ⟨w.heap.size + 1, 0, none⟩ _).mono ?_
  rintro e u' w'' ⟨rfl, rfl, rfl⟩
  exact ⟨_, results_cell_row Tryz.results11 _ _ (w.heap.size + 1) 31 #[.string t, .int .i64 0, .int .i64 0] (0, 0) _ rfl (HB.out.all _ _ _) Tryz.underlying31 rfl (by kernel_rfl), rfl, HB.out.set3 _ _ _⟩
set_option maxRecDepth 100000 in
set_option maxHeartbeats 1600000 in
theorem imp_open_bad (H M b : ByteArray) (id c : Int) (w : World) (hs : b.size ≤ 20000)
    (SO : Hid (∀ W : World, Below w.heap.size w W → Calls Tryz.prog 37 #[.agg #[.string H, .string M], .int .i64 id, .string b] W fun e w' => e = .panicked [{ v := faultP c, recovered := false }] ∧ Below W.heap.size W w')) :
    Calls Tryz.prog 11 #[.agg #[.string H, .string M], .int .i64 id, .string b] w fun e w' => e = .returned (textO ⟨#[]⟩ c) ∧ Below w.heap.size w w' := by
  have hs' : ¬ (20000 : Int) < (b.size : Int) := by omega
  have hmf : ∀ (fn : Fn) (first cap : Array Value) (w : World), (Instr.makeFunc fn first cap).run Tryz.prog w = .ok (.func fn first cap) w := fun _ _ _ _ => rfl
  have HB0 : OpW w H M _ := OpW.start (w := w) (H := H) (M := M)
  have c0 := HB0.c0
  have c1 := HB0.c1
  have HB := hide HB0
  clear HB0
  unfold textO
  go_enter_defers Tryz.func11, Tryz.ntmps11
  go_wp2_with fail
  refine (SO.out _ HB.out.low).mono ?_
  rintro e w1 ⟨rfl, hb1⟩
  have HB := hide (HB.out.call hb1)
  clear hb1 c0 c1
  have r0 := HB.out.r0
  have r1 := HB.out.r1
  have r2 := HB.out.r2
  have fz := HB.out.fz
  go_wp2_with fail
  refine leaves_cons (f := 35) (args := #[.pointer (some ⟨w.heap.size + 1, 0, none⟩)]) (by simp) (by simp [go_sem]) ?_
  refine (catch_fault (w.heap.size + 1) c [] w1 r0 r1 r2 fz).mono ?_
  rintro e u' w'' ⟨rfl, rfl, rfl⟩
  exact ⟨_, results_cell_row Tryz.results11 _ _ (w.heap.size + 1) 31 #[.string ⟨#[]⟩, .int .i64 0, .int .i64 c] (0, 0) _ rfl (HB.out.all _ _ _) Tryz.underlying31 rfl (by kernel_rfl), rfl, HB.out.set3 _ _ _⟩
end Go.Proofs.YtconcnndghmdfaaGreatDoor
