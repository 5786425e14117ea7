/- Put together: AsW, CodeOf, ImpUnp, TabOf, SrcN, SrcS, SrcB. -/
import Derived.Test.YtconcnndghmdfaaGreatDoorSf45
import Derived.Test.YtconcnndghmdfaaGreatDoorSf18
import Derived.Lib.LaidTab
import Derived.LaidMore
import Derived.Stop.Joined
import Derived.Laws.Closers25b
namespace Go.Proofs.YtconcnndghmdfaaGreatDoor
open Go.RowKit Go.Extern.Stop Go.Stop Go.Extern
theorem as_methodKind (h : Value) (w : World) : (Go.method 369 221 (.agg #[h]) "Kind").run Tryz.prog w = .ok (180, h) w := by kernel_rfl
theorem as_methodElem (h : Value) (w : World) : (Go.method 369 221 (.agg #[h]) "Elem").run Tryz.prog w = .ok (190, .agg #[h]) w := by kernel_rfl
theorem as_methodImplements (h : Value) (w : World) : (Go.method 369 221 (.agg #[h]) "Implements").run Tryz.prog w = .ok (191, .agg #[h]) w := by kernel_rfl
theorem as_methodAssignableTo (h : Value) (w : World) : (Go.method 369 221 (.agg #[h]) "AssignableTo").run Tryz.prog w = .ok (188, .agg #[h]) w := by kernel_rfl
set_option maxHeartbeats 4000000 in
theorem as_hit (c : Int) (t : Addr) (old : Value) (w : World) (hg : w.cell? ⟨0, 0, none⟩ = some (.iface 221 (.agg #[.pointer (some ⟨2, 138, none⟩)]))) (ht0 : w.cell? t = some old) (hf0 : w.frozen? t = false) :
 Calls Tryz.prog 133 #[.iface 84 (.agg #[.int .i64 c]), .iface 183 (.pointer (some t))] w fun ev w' => ev = .returned (.bool true) ∧ w' = ((((w.alloc (.cells #[.pointer (some t)] 183)).alloc (.cells #[.pointer (some ⟨2, 183, none⟩), .pointer (some ⟨w.heap.size, 0, none⟩), .int .u64 150] 206)).alloc (.cells #[.pointer (some ⟨2, 183, none⟩), .pointer (some ⟨w.heap.size, 0, none⟩), .int .u64 150] 206)).alloc (.cells #[.int .i64 c] 84)).setCell t (.int .i64 c) := by
 have h6 := @run_callFunc_extern Tryz.prog 148 _ (fun args => ReflectliteValue.unpack (args.getD 0 (.tuple #[]))) Tryz.func148 (by kernel_rfl) (by kernel_rfl) (by kernel_rfl) (by kernel_rfl)
 have h7 := @run_callFunc_extern Tryz.prog 149 _ (ReflectliteValue.methodAny (ReflectliteValue.valueError "reflectlite.Value.Type" 0) (fun t _ _ _ => ReflectliteType.toType t)) Tryz.func149 (by kernel_rfl) (by kernel_rfl) (by kernel_rfl) (by kernel_rfl)
 have h8 := @run_callFunc_extern Tryz.prog 150 _ (ReflectliteValue.method (ReflectliteValue.valueError "reflectlite.Value.IsNil" 0) ReflectliteValue.isNil) Tryz.func150 (by kernel_rfl) (by kernel_rfl) (by kernel_rfl) (by kernel_rfl)
 have h27 := @run_callFunc_extern Tryz.prog 180 _ (ReflectliteType.abiMethod fun t => do pure (.int .u8 (← Rtype.kind t))) Tryz.func180 (by kernel_rfl) (by kernel_rfl) (by kernel_rfl) (by kernel_rfl)
 have h37 := @run_callFunc_extern Tryz.prog 190 _ (ReflectliteType.method ReflectliteType.elem) Tryz.func190 (by kernel_rfl) (by kernel_rfl) (by kernel_rfl) (by kernel_rfl)
 have h38 := @run_callFunc_extern Tryz.prog 191 _ (ReflectliteType.relation "Implements" ReflectliteType.implements_) Tryz.func191 (by kernel_rfl) (by kernel_rfl) (by kernel_rfl) (by kernel_rfl)
 have h10 := @run_callFunc_extern Tryz.prog 157 _ ReflectliteType.typeOf Tryz.func157 (by kernel_rfl) (by kernel_rfl) (by kernel_rfl) (by kernel_rfl)
 have h35 := @run_callFunc_extern Tryz.prog 188 _ (ReflectliteType.relation "AssignableTo" ReflectliteType.assignableTo) Tryz.func188 (by kernel_rfl) (by kernel_rfl) (by kernel_rfl) (by kernel_rfl)
 have h11 := @run_callFunc_extern Tryz.prog 158 _ (ReflectliteValue.method (ReflectliteValue.valueError "reflectlite.Value.Elem" 0) ReflectliteValue.elem) Tryz.func158 (by kernel_rfl) (by kernel_rfl) (by kernel_rfl) (by kernel_rfl)
 have h12 := @run_callFunc_extern Tryz.prog 159 _ ReflectliteValue.set Tryz.func159 (by kernel_rfl) (by kernel_rfl) (by kernel_rfl) (by kernel_rfl)
 have tO := as_typeOf
 have mA := as_methodAssignableTo
 have a25 := as_assignable
 have v25 := as_valueE
 have f6 := as_valueOf
 have f7 := as_type
 have mK := as_methodKind
 have mE := as_methodElem
 have mI := as_methodImplements
 have k27 := as_kindP
 have k25 := as_kindE
 have e27 := as_elem
 have i25 := as_implements
 have n8 := as_isNil ⟨w.heap.size, 0, none⟩ t ((w.alloc (.cells #[.pointer (some t)] 183)).alloc (.cells #[.pointer (some ⟨2, 183, none⟩), .pointer (some ⟨w.heap.size, 0, none⟩), .int .u64 150] 206)) (by simp)
 have hlt : 0 < w.heap.size := by
  rcases Nat.eq_zero_or_pos w.heap.size with h0 | h
  · simp [World.cell?, h0] at hg
  · exact h
 have hg2 : ((w.alloc (.cells #[.pointer (some t)] 183)).alloc (.cells #[.pointer (some ⟨2, 183, none⟩), .pointer (some ⟨w.heap.size, 0, none⟩), .int .u64 150] 206)).cell? ⟨0, 0, none⟩ = some (.iface 221 (.agg #[.pointer (some ⟨2, 138, none⟩)])) := by
  rw [World.cell?_alloc_lt _ _ ⟨0, 0, none⟩ (by simp), World.cell?_alloc_lt _ _ ⟨0, 0, none⟩ hlt]; exact hg
 have htl : t.block < w.heap.size := by
  rcases Nat.lt_or_ge t.block w.heap.size with h | h
  · exact h
  · simp [World.cell?, Array.getElem?_eq_none h] at ht0
 have el := as_elemV ⟨w.heap.size, 0, none⟩ t (((w.alloc (.cells #[.pointer (some t)] 183)).alloc (.cells #[.pointer (some ⟨2, 183, none⟩), .pointer (some ⟨w.heap.size, 0, none⟩), .int .u64 150] 206)).alloc (.cells #[.pointer (some ⟨2, 183, none⟩), .pointer (some ⟨w.heap.size, 0, none⟩), .int .u64 150] 206)) (by rw [World.cell?_alloc_lt _ _ ⟨w.heap.size, 0, none⟩ (by simp; omega)]; simp)
 have st := as_set t ⟨w.heap.size + 1 + 1 + 1, 0, none⟩ c old ((((w.alloc (.cells #[.pointer (some t)] 183)).alloc (.cells #[.pointer (some ⟨2, 183, none⟩), .pointer (some ⟨w.heap.size, 0, none⟩), .int .u64 150] 206)).alloc (.cells #[.pointer (some ⟨2, 183, none⟩), .pointer (some ⟨w.heap.size, 0, none⟩), .int .u64 150] 206)).alloc (.cells #[.int .i64 c] 84))
  (by rw [World.cell?_alloc_at _ _ _ _ (by simp)]; rfl)
  (by rw [World.cell?_alloc_lt _ _ t (by simp; omega), World.cell?_alloc_lt _ _ t (by simp; omega), World.cell?_alloc_lt _ _ t (by simp; omega), World.cell?_alloc_lt _ _ t htl]; exact ht0)
  (by rw [World.frozen?_alloc_old _ _ t (by simp; omega), World.frozen?_alloc_old _ _ t (by simp; omega), World.frozen?_alloc_old _ _ t (by simp; omega), World.frozen?_alloc_old _ _ t (Nat.ne_of_lt htl)]; exact hf0)
 go_enter Tryz.func133, Tryz.ntmps133
 go_wp2
 refine wp_loop_rounds 1 ?_
 rw [rounds_succ]
 go_wp2
 go_ret
 exact ⟨rfl, rfl⟩
end Go.Proofs.YtconcnndghmdfaaGreatDoor
namespace Go.Proofs.YtconcnndghmdfaaGreatDoor
open Go.RowKit
def Laid (w : World) : Prop := w.cell? ⟨0, 0, none⟩ = some (.iface 221 (.agg #[.pointer (some ⟨2, 138, none⟩)]))
theorem Laid.pos {w : World} (h : Laid w) : 0 < w.heap.size := by
 unfold Laid at h
 rcases Nat.eq_zero_or_pos w.heap.size with h0 | h1
 · simp [World.cell?, h0] at h
 · exact h1
theorem Laid.below {w w1 : World} {n : Nat} (h : Laid w) (hb : Below n w w1) (hn : 0 < n) : Laid w1 := by
 unfold Laid at *
 rw [← h]; exact hb.cell (p := ⟨0, 0, none⟩) hn
theorem Laid.alloc {w : World} (h : Laid w) (o : Obj) : Laid (w.alloc o) := by
 have hp := h.pos
 unfold Laid at *
 rw [World.cell?_alloc_lt _ _ ⟨0, 0, none⟩ hp]; exact h
set_option maxHeartbeats 800000 in
theorem codeOf_nil (w : World) : Calls Tryz.prog 101 #[.nilIface] w fun e w' => e = .returned (.int .i64 0) ∧ Below w.heap.size w w' := by
 go_enter Tryz.func101, Tryz.ntmps101
 go_wp2_with (go_at_call 133; refine (as_nil _ _).mono ?_; rintro e w' ⟨rfl, rfl⟩)
 go_ret
 exact ⟨rfl, by go_grown⟩
set_option maxHeartbeats 800000 in
theorem codeOf_fault (c : Int) (w : World) (hg : Laid w) : Calls Tryz.prog 101 #[.iface 84 (.agg #[.int .i64 c])] w fun e w' => e = .returned (.int .i64 c) ∧ Below w.heap.size w w' := by
 have hg1 : Laid (w.alloc (.cells #[.int .i64 0] 84)) := hg.alloc _
 unfold Laid at hg1
 clear hg
 have ht1 : (w.alloc (.cells #[.int .i64 0] 84)).cell? ⟨w.heap.size, 0, none⟩ = some (.int .i64 0) := by simp
 have hf1 : (w.alloc (.cells #[.int .i64 0] 84)).frozen? ⟨w.heap.size, 0, none⟩ = false := by simp
 go_enter Tryz.func101, Tryz.ntmps101
 go_wp2_with (go_at_call 133; refine (as_hit c _ (.int .i64 0) _ hg1 ht1 hf1).mono ?_; rintro e w' ⟨rfl, rfl⟩)
 go_ret
 exact ⟨rfl, by go_grown⟩
def unpR (r : ByteArray × Int) : Value := .tuple #[.string r.1, if r.2 = 0 then .nilIface else .iface 84 (.agg #[.int .i64 r.2])]
set_option maxRecDepth 100000 in
set_option maxHeartbeats 1600000 in
theorem imp_unpacked (s : ByteArray) (w : World) (hs : s.size ≤ 20000) :
 Calls Tryz.prog 100 #[.string s] w fun e w' => e = .returned (unpR (unpackS s)) ∧ Below w.heap.size w w' := by
 have hE := show unpackS s = _ from if_neg (show ¬ 20000 < s.size by omega)
 have SR := hide (impl_readNum s 0 w hs (by omega))
 rcases decAt_form s 0 with ⟨U, m, hd, hm⟩ | hd | hd
 · rw [hd] at hE SR
   rw [numRet_good] at SR
   simp only at hE
   obtain ⟨N, hN⟩ : ∃ N, N = unfold U := ⟨_, rfl⟩
   rw [← hN] at hE SR
   by_cases h3 : N < 0 ∨ 4000 < N
   · rw [if_pos h3] at hE
     rw [hE]
     by_cases h1 : N < 0
     · have d1 : decide (N < 0) = true := decide_eq_true h1
       clear hE hd hm hN
       go_enter Tryz.func100, Tryz.ntmps100
       go_wp2_with fail
       refine SR.out.mono ?_
       rintro e w1 ⟨rfl, rfl⟩
       clear SR
       go_wp2_with fail
       go_ret2
       exact ⟨rfl, Below.refl _ _⟩
     · have h2 : 4000 < N := by omega
       have d1 : decide (N < 0) = false := decide_eq_false h1
       have d2 : decide (4000 < N) = true := decide_eq_true h2
       clear hE hd hm hN
       go_enter Tryz.func100, Tryz.ntmps100
       go_wp2_with fail
       refine SR.out.mono ?_
       rintro e w1 ⟨rfl, rfl⟩
       clear SR
       go_wp2_with fail
       go_ret2
       exact ⟨rfl, Below.refl _ _⟩
   · rw [if_neg h3] at hE
     obtain ⟨n, hn⟩ : ∃ n : Nat, N = (n : Int) := ⟨N.toNat, by omega⟩
     have hn4 : n ≤ 4000 := by omega
     rw [hn] at hE SR
     rw [Int.toNat_natCast] at hE
     rw [hE]
     obtain ⟨q, hq⟩ : ∃ q, q = m := ⟨_, rfl⟩
     have e0 : ((0 : Nat) : Int) + (m : Int) = (m : Int) := by omega
     rw [e0] at SR
     have hms : m ≤ s.size := by omega
     have hrest := fun u : World => run_rest (P := Tryz.prog) u 9 s m Tryz.underlying9 hms
     obtain ⟨r, hr⟩ : ∃ r, r = s.extract m s.size := ⟨_, rfl⟩
     have hrs : r.size ≤ 20000 := by rw [hr, ByteArray.size_extract]; omega
     have HUN := hide (show unpN s m n = if (unpO r n).2 = true then (if packB (unpO r n).1 = s then ((unpO r n).1, 0) else (⟨#[]⟩, 3)) else (⟨#[]⟩, 5) by rw [hr]; rfl)
     rw [← hr] at hrest
     have d1 : decide ((n : Int) < 0) = false := decide_eq_false (by omega)
     have d2 : decide ((4000 : Int) < (n : Int)) = false := decide_eq_false (by omega)
     have d2' : decide (4000 < n) = false := decide_eq_false (by omega)
     have hmi : (m : Int) ≤ (s.size : Int) := by omega
     have HSZ := hide (unpO_size r n)
     clear hE hd hm hN hn h3 hq hr e0
     go_enter Tryz.func100, Tryz.ntmps100
     go_wp2_with fail
     refine SR.out.mono ?_
     rintro e w1 ⟨rfl, rfl⟩
     clear SR
     go_wp2_with fail
     refine (imp_newDecoder r w (by omega)).mono ?_
     rintro e w2 ⟨g, rfl, hg, hdec, hb2⟩
     have ST := hide (imp_text w.heap.size g n r w2 hn4 (by omega) hdec hg)
     obtain ⟨⟨B, ok⟩, hUU⟩ : ∃ UU, UU = unpO r n := ⟨_, rfl⟩
     rw [← hUU] at ST HUN HSZ
     have B2 := hide hb2
     clear hb2 hdec hUU
     go_wp2_with fail
     refine ST.out.mono ?_
     rintro e w3 ⟨rfl, hb3⟩
     have B3 := hide (B2.out.trans hb3)
     clear hb3 ST
     cases ok with
     | false =>
       have HU := hide (show unpN s m n = (⟨#[]⟩, 5) by rw [HUN.out]; rfl)
       clear HUN
       go_wp2_with fail
       go_ret2
       exact ⟨by rw [HU.out]; rfl, B3.out⟩
     | true =>
       have hB : B.size = n := HSZ.out rfl
       have SP := hide (imp_pack B w3 (by omega))
       have hPS : packS B = packB B := if_pos (by omega)
       rw [hPS] at SP
       obtain ⟨P, hP⟩ : ∃ P, P = packB B := ⟨_, rfl⟩
       rw [← hP] at SP
       have HUN2 := hide (show unpN s m n = if P = s then (B, 0) else (⟨#[]⟩, 3) by rw [HUN.out, hP]; rfl)
       clear HUN hB hPS hP HSZ
       by_cases hPs : P = s
       · have st : (P.toList == s.toList) = true := str_eq hPs
         have HU := hide (show unpN s m n = (B, 0) by rw [HUN2.out, if_pos hPs])
         clear HUN2 hPs
         go_wp2_with fail
         refine SP.out.mono ?_
         rintro e w4 ⟨rfl, hb4⟩
         have B4 := hide (B3.out.trans (hb4.mono B3.out.size))
         clear hb4 SP
         go_wp2_with fail
         go_ret2
         exact ⟨by rw [HU.out]; rfl, B4.out⟩
       · have st : (P.toList == s.toList) = false := str_ne hPs
         have HU := hide (show unpN s m n = (⟨#[]⟩, 3) by rw [HUN2.out, if_neg hPs])
         clear HUN2 hPs
         go_wp2_with fail
         refine SP.out.mono ?_
         rintro e w4 ⟨rfl, hb4⟩
         have B4 := hide (B3.out.trans (hb4.mono B3.out.size))
         clear hb4 SP
         go_wp2_with fail
         go_ret2
         exact ⟨by rw [HU.out]; rfl, B4.out⟩
 all_goals
  rw [hd] at hE SR
  rw [numRet_bad _ _ (by decide)] at SR
  have hE2 : unpackS s = (⟨#[]⟩, 3) := hE
  rw [hE2]
  clear hE hE2 hd
  go_enter Tryz.func100, Tryz.ntmps100
  go_wp2_with fail
  refine SR.out.mono ?_
  rintro e w1 ⟨rfl, rfl⟩
  clear SR
  go_wp2_with fail
  go_ret2
  exact ⟨rfl, Below.refl _ _⟩
set_option maxRecDepth 100000 in
set_option maxHeartbeats 1600000 in
theorem imp_unpack (s : ByteArray) (w : World) (hg : Laid w) (hs : s.size ≤ 9223372036854775807) :
 Calls Tryz.prog 65 #[.string s] w fun e w' => e = .returned (textO (unpackS s).1 (unpackS s).2) ∧ Below w.heap.size w w' := by
 by_cases h : 20000 < s.size
 · have hE : unpackS s = (⟨#[]⟩, 2) := if_pos h
   rw [hE]
   clear hE
   go_enter Tryz.func65, Tryz.ntmps65
   go_wp2_with fail
   go_returns
   exact ⟨rfl, by go_grown⟩
 · have hg1 := hide (hg.alloc (.cells #[.string ⟨#[]⟩, .int .i64 0, .int .i64 0] 31))
   have SU := hide (imp_unpacked s (w.alloc (.cells #[.string ⟨#[]⟩, .int .i64 0, .int .i64 0] 31)) (by omega))
   obtain ⟨⟨B, c⟩, hR⟩ : ∃ R, R = unpackS s := ⟨_, rfl⟩
   rw [← hR] at SU
   simp only [unpR] at SU
   have HR := hide hR
   clear hR hg
   go_enter Tryz.func65, Tryz.ntmps65
   go_wp2_with fail
   by_cases hc : c = 0
   · subst hc
     rw [if_pos rfl] at SU
     refine SU.out.mono ?_
     rintro e w1 ⟨rfl, hb1⟩
     have HB1 := hide hb1
     clear hb1 SU
     go_wp2_with fail
     refine (codeOf_nil _).mono ?_
     rintro e w2 ⟨rfl, hb2⟩
     have hb := HB1.out.trans (hb2.mono HB1.out.size)
     simp at hb
     obtain ⟨⟨c0, c1, c2⟩, hf⟩ := out_cells hb (Nat.lt_succ_self _) (heap_alloc_new w _)
     obtain ⟨r0, r1, r2⟩ := out_read (.string B) (.int .i64 0) (.int .i64 0) c0 c1 c2
     have HB := hide hb
     clear hb hb2 HB1
     go_wp2_with fail
     exact bodyPost_ret (v := textO B 0) (by simp [results, Tryz.results65, go_sem, r0, r1, r2, textO]) rfl ⟨by rw [← HR.out], below_out' HB.out⟩
   · rw [if_neg hc] at SU
     refine SU.out.mono ?_
     rintro e w1 ⟨rfl, hb1⟩
     have HB1 := hide hb1
     have hg2 := hide (hg1.out.below hb1 (by simp))
     clear hb1 SU
     go_wp2_with fail
     refine (codeOf_fault c _ hg2.out).mono ?_
     rintro e w2 ⟨rfl, hb2⟩
     have hb := HB1.out.trans (hb2.mono HB1.out.size)
     simp at hb
     obtain ⟨⟨c0, c1, c2⟩, hf⟩ := out_cells hb (Nat.lt_succ_self _) (heap_alloc_new w _)
     obtain ⟨r0, r1, r2⟩ := out_read (.string B) (.int .i64 0) (.int .i64 c) c0 c1 c2
     have HB := hide hb
     clear hb hb2 HB1
     go_wp2_with fail
     exact bodyPost_ret (v := textO B c) (by simp [results, Tryz.results65, go_sem, r0, r1, r2, textO]) rfl ⟨by rw [← HR.out], below_out' HB.out⟩
theorem gTab : Tryz.prog.globalNamed "loop.example/g00320/impl.roundNums" = some 1 := by kernel_rfl
theorem gTabType : (Tryz.prog.globals[1]?).map (·.type) = some 235 := by kernel_rfl
theorem gTabCells : Tryz.prog.cellsOf 235 = 64 := by kernel_rfl
theorem gTabCell : Tryz.prog.cellsOf 176 = 1 := by kernel_rfl
def tabL : List (String × DataW Unit) := [("loop.example/g00320/impl.roundNums", Rows.laid_loop_example_g00320_impl_roundNums)]
theorem tabIs {W : World} (h : laidMet Tryz.prog tabL W) : Lib.TabIs Tryz.prog W "loop.example/g00320/impl.roundNums" .u32 (shaKeys.map fun (n : Nat) => (n : Int)) :=
 Lib.tabIs_of_head (rest := []) gTab gTabType Tryz.underlying235 Tryz.underlying176 gTabCell gTabCells h
theorem tab_of_laid {W : World} (h : laidMet Tryz.prog tabL W) : Tab W := by
 intro j hj
 have hl : (shaKeys.map fun (n : Nat) => (n : Int)).length = 64 := by rw [List.length_map]; rfl
 rw [(tabIs h).cell gTab j (by omega)]
 have hj' : j < shaKeys.length := hj
 rw [List.getD_eq_getElem?_getD, List.getElem?_map, List.getElem?_eq_getElem hj', shaKey, List.getD_eq_getElem?_getD, List.getElem?_eq_getElem hj']
 rfl
theorem bits_name (op : BinOp) (x y : Int) : ∃ M : Int, bits op .u64 x y = M ∧ 0 ≤ M ∧ M ≤ 18446744073709551615 := ⟨_, rfl, bits_lo_u64 op x y, bits_hi_u64 op x y⟩
theorem mod_in (x most : Int) (h1 : 1 < most) (h2 : most ≤ 4611686018427387904) : 0 ≤ wrap64 (x % most) ∧ wrap64 (x % most) < most := by
 have a := Int.emod_nonneg x (show most ≠ 0 by omega)
 have b := Int.emod_lt_of_pos x (show 0 < most by omega)
 rw [IntWalk.wrap64_in _ ⟨by omega, by omega⟩]
 exact ⟨a, b⟩
theorem set_thrice {w : World} {g : Nat} {x : Value} (m1 m2 m3 : Value) (h : w.cell? ⟨g, 2, none⟩ = some x) :
 (w.setCell ⟨g, 2, none⟩ m1).cell? ⟨g, 2, none⟩ = some m1 ∧ ((w.setCell ⟨g, 2, none⟩ m1).setCell ⟨g, 2, none⟩ m2).cell? ⟨g, 2, none⟩ = some m2 ∧
 (((w.setCell ⟨g, 2, none⟩ m1).setCell ⟨g, 2, none⟩ m2).setCell ⟨g, 2, none⟩ m3).cell? ⟨g, 2, none⟩ = some m3 := by
 have a1 := World.cell?_setCell_same w ⟨g, 2, none⟩ m1 h
 have a2 := World.cell?_setCell_same (w.setCell ⟨g, 2, none⟩ m1) ⟨g, 2, none⟩ m2 a1
 exact ⟨a1, a2, World.cell?_setCell_same _ ⟨g, 2, none⟩ m3 a2⟩
set_option maxRecDepth 100000 in
set_option maxHeartbeats 1600000 in
theorem src_n_end (w : World) (g : Nat) (a : Option Addr) (len cap : Nat) (most mix sz : Int) (hm1 : 1 < most) (hm2 : most ≤ 4611686018427387904) (_hlen : len ≤ 1048576)
 (hh : w.heap[g]? = some (.cells #[.slice a len cap, .int .i64 len, .int .u64 mix, .int .i64 sz] 60 (0, 0))) :
 Calls Tryz.prog 20 #[.pointer (some ⟨g, 0, none⟩), .int .i64 most] w fun e w' => (∃ v : Int, e = .returned (.int .i64 v) ∧ 0 ≤ v ∧ v < most) ∧ (∃ M : Int, 0 ≤ M ∧ M ≤ 18446744073709551615 ∧ w'.heap[g]? = some (.cells #[.slice a len cap, .int .i64 len, .int .u64 M, .int .i64 sz] 60 (0, 0))) ∧ w.grownBy w' (some g) := by
 obtain ⟨⟨c0, c1, c2, c3⟩, hf⟩ := four_cells hh
 have HH := hide hh
 clear hh
 obtain ⟨M1, e1, l1, u1⟩ := bits_name .xor mix (IntKind.u64.wrap (mix * 8192))
 obtain ⟨M2, e2, l2, u2⟩ := bits_name .xor M1 (M1 / 128)
 obtain ⟨M3, e3, l3, u3⟩ := bits_name .xor M2 (IntKind.u64.wrap (M2 * 131072))
 obtain ⟨r1, r2, r3⟩ := set_thrice (.int .u64 M1) (.int .u64 M2) (.int .u64 M3) c2
 go_enter Tryz.func20, Tryz.ntmps20
 go_wp2_with fail
 go_region
 go_wp2_with fail
 go_region
 go_wp2_with fail
 go_region
 go_wp2_with fail
 go_region
 go_wp2_with fail
 go_ret
 refine ⟨⟨_, rfl, mod_in _ most hm1 hm2⟩, ⟨M3, l3, u3, ?_⟩, ?_⟩
 · exact four_set (i := 2) (four_set (i := 2) (four_set (i := 2) HH.out _) _) _
 · exact grownBy_drew (grownBy_drew (grownBy_drew (grownBy_drew (grownBy_set (grownBy_set (grownBy_set (World.grownBy.refl _ _) _) _) _))))
set_option maxRecDepth 100000 in
set_option maxHeartbeats 1600000 in
theorem src_n_byte (w : World) (g b off : Nat) (z : Int) (len cap p : Nat) (most mix sz : Int) (hm1 : 1 < most) (hm2 : most ≤ 4611686018427387904) (hlen : len ≤ 1048576) (hp : p < len) (hz0 : 0 ≤ z) (hz1 : z ≤ 255) (_hbg : b ≠ g)
 (hb : w.cell? ⟨b, off + p, none⟩ = some (.int .u8 z))
 (hh : w.heap[g]? = some (.cells #[.slice (some ⟨b, off, none⟩) len cap, .int .i64 p, .int .u64 mix, .int .i64 sz] 60 (0, 0))) :
 Calls Tryz.prog 20 #[.pointer (some ⟨g, 0, none⟩), .int .i64 most] w fun e w' => (∃ v : Int, e = .returned (.int .i64 v) ∧ 0 ≤ v ∧ v < most) ∧ (∃ M : Int, 0 ≤ M ∧ M ≤ 18446744073709551615 ∧ w'.heap[g]? = some (.cells #[.slice (some ⟨b, off, none⟩) len cap, .int .i64 ((p : Int) + 1), .int .u64 M, .int .i64 sz] 60 (0, 0))) ∧ w.grownBy w' (some g) := by
 obtain ⟨⟨c0, c1, c2, c3⟩, hf⟩ := four_cells hh
 have HH := hide hh
 clear hh
 have hp' : (p : Int) < (len : Int) := by omega
 obtain ⟨M1, e1, l1, u1⟩ := bits_name .xor mix (IntKind.u64.wrap (mix * 8192))
 obtain ⟨M2, e2, l2, u2⟩ := bits_name .xor M1 (M1 / 128)
 obtain ⟨M3, e3, l3, u3⟩ := bits_name .xor M2 (IntKind.u64.wrap (M2 * 131072))
 have d2 : (w.setCell ⟨g, 1, none⟩ (.int .i64 ((p : Int) + 1))).cell? ⟨g, 2, none⟩ = some (.int .u64 mix) := by rw [World.cell?_setCell_other _ _ _ _ (by simp)]; exact c2
 obtain ⟨r1, r2, r3⟩ := set_thrice (.int .u64 M1) (.int .u64 M2) (.int .u64 M3) d2
 go_enter Tryz.func20, Tryz.ntmps20
 go_wp2_with fail
 go_region
 go_wp2_with fail
 go_region
 go_wp2_with fail
 go_region
 go_wp2_with fail
 go_region
 go_wp2_with fail
 go_region
 go_wp2_with fail
 go_ret
 refine ⟨⟨_, rfl, mod_in _ most hm1 hm2⟩, ⟨M3, l3, u3, ?_⟩, ?_⟩
 · exact four_set (i := 2) (four_set (i := 2) (four_set (i := 2) (four_set (i := 1) HH.out _) _) _) _
 · exact grownBy_drew (grownBy_drew (grownBy_drew (grownBy_drew (grownBy_drew (grownBy_set (grownBy_set (grownBy_set (grownBy_set (World.grownBy.refl _ _) _) _) _) _)))))
set_option maxRecDepth 100000 in
set_option maxHeartbeats 400000 in
theorem src_n_none (w : World) (g : Nat) (most : Int) (hm : most ≤ 1) :
 Calls Tryz.prog 20 #[.pointer (some ⟨g, 0, none⟩), .int .i64 most] w fun e w' => e = .returned (.int .i64 0) ∧ w = w' := by
 go_enter Tryz.func20, Tryz.ntmps20
 go_wp2_with fail
 go_ret
 exact ⟨rfl, rfl⟩
theorem src_n (B : Nat) (w : World) (g : Nat) (a : Option Addr) (len cap : Nat) (most : Int) (hm : most ≤ 4611686018427387904) (hs : Src 60 B w g a len cap) :
 Calls Tryz.prog 20 #[.pointer (some ⟨g, 0, none⟩), .int .i64 most] w fun e w' => ∃ v : Int, e = .returned (.int .i64 v) ∧ 0 ≤ v ∧ (v < most ∨ v = 0) ∧ Src 60 B w' g a len cap ∧ w.grownBy w' (some g) := by
 by_cases h1 : most ≤ 1
 · refine (src_n_none w g most h1).mono ?_
   rintro e w' ⟨rfl, rfl⟩
   exact ⟨0, rfl, by omega, .inr rfl, hs, World.grownBy.refl _ _⟩
 · have hlt := hs.lt
   obtain ⟨hB, hl, hby, p, mix, sz, hp, _, _, hs12, hh⟩ := hs
   by_cases hpl : p < len
   · rcases hby with h0 | ⟨b, off, rfl, hb, hc⟩
     · omega
     · obtain ⟨z, z0, z1, hz⟩ := hc p hpl
       refine (src_n_byte w g b off z len cap p most mix sz (by omega) hm hl hpl z0 z1 (by omega) hz hh).mono ?_
       rintro e w' ⟨⟨v, rfl, v0, v1⟩, ⟨M, m0, m1, hM⟩, hg⟩
       refine ⟨v, rfl, v0, .inl v1, ⟨hB, hl, BytesIn.below (.inr ⟨b, off, rfl, hb, hc⟩) (grownBy_below hg hB (by omega)) (Nat.le_refl _), p + 1, M, sz, by omega, m0, m1, hs12, ?_⟩, hg⟩
       rw [hM]; rfl
   · obtain rfl : p = len := by omega
     refine (src_n_end w g a p cap most mix sz (by omega) hm hl hh).mono ?_
     rintro e w' ⟨⟨v, rfl, v0, v1⟩, ⟨M, m0, m1, hM⟩, hg⟩
     exact ⟨v, rfl, v0, .inl v1, ⟨hB, hl, hby.below (grownBy_below hg hB (by omega)) (Nat.le_refl _), p, M, sz, by omega, m0, m1, hs12, hM⟩, hg⟩
set_option maxRecDepth 100000 in
set_option maxHeartbeats 400000 in
theorem src_one (B : Nat) (w : World) (g : Nat) (a : Option Addr) (len cap : Nat) (most : Int) (hm : most ≤ 4611686018427387904) (hs : Src 60 B w g a len cap) :
 Calls Tryz.prog 21 #[.pointer (some ⟨g, 0, none⟩), .int .i64 most] w fun e w' => ∃ r : Bool, e = .returned (.bool r) ∧ Src 60 B w' g a len cap ∧ w.grownBy w' (some g) := by
 have HS := hide hs
 clear hs
 go_enter Tryz.func21, Tryz.ntmps21
 go_wp2_with fail
 refine (src_n B _ g a len cap most hm HS.out).mono ?_
 rintro e w1 ⟨v, rfl, _, _, hs1, hg1⟩
 have HS1 := hide hs1
 clear hs1
 go_wp2_with fail
 go_ret
 exact ⟨_, rfl, HS1.out, hg1⟩
theorem wrap_name (x : Int) : ∃ M : Int, IntKind.u64.wrap x = M ∧ 0 ≤ M ∧ M ≤ 18446744073709551615 := by
 refine ⟨_, rfl, ?_, ?_⟩
 · rw [IntKind.wrap_u64]; omega
 · rw [IntKind.wrap_u64]; omega
set_option maxRecDepth 100000 in
set_option maxHeartbeats 1600000 in
theorem source_any (w : World) (a : Option Addr) (len cap : Nat) (hl : len ≤ 1048576) (hby : BytesIn w w.heap.size a len) :
 Calls Tryz.prog 17 #[.slice a len cap] w fun e w' => e = .returned (.pointer (some ⟨w.heap.size, 0, none⟩)) ∧ Src 60 w.heap.size w' w.heap.size a len cap ∧ w.grownBy w' none := by
 have HB := hide hby
 clear hby
 go_enter Tryz.func17, Tryz.ntmps17
 go_wp2_with fail
 go_loopw [4] (fun i wr => ∃ (k : Nat) (mix : Int), k ≤ len ∧ k ≤ 64 ∧ i = .int .i64 k ∧ 0 ≤ mix ∧ mix ≤ 18446744073709551615 ∧ Hid (wr.heap[w.heap.size]? = some (.cells #[.slice a len cap, .int .i64 0, .int .u64 mix, .int .i64 0] 60 (0, 0))) ∧ w.grownBy wr none) (fun i _ => 64 - (intOf i).toNat)
 case atStart => exact ⟨0, 88172645463325252, by omega, by omega, rfl, by omega, by omega, heap_alloc_new w _, grownBy_alloc (World.grownBy.refl _ _) _⟩
 case round =>
  obtain ⟨k, mix, hk, hk64, rfl, hm0, hm1, hh, hg⟩ := hrel
  obtain ⟨⟨c0, c1, c2, c3⟩, hf⟩ := four_cells hh.out
  by_cases hin : k < len ∧ k < 64
  · obtain ⟨hkl, hk6⟩ := hin
    have hkl' : (k : Int) < (len : Int) := by omega
    have hk6' : (k : Int) < 64 := by omega
    rcases (HB.out.below ((Below.refl _ _).grown hg (Nat.le_refl _) (fun k hk => by cases hk)) (Nat.le_refl _)) with h0 | ⟨b, off, rfl, hb, hc⟩
    · omega
    · obtain ⟨z, z0, z1, hz⟩ := hc k hkl
      clear hc
      obtain ⟨M1, e1, l1, u1⟩ := bits_name .xor mix z
      obtain ⟨M2, e2, l2, u2⟩ := wrap_name (M1 * 1099511628211)
      go_wp2_with fail
      go_region
      go_wp2_with fail
      go_roundw
      case rel => exact ⟨k + 1, M2, by omega, by omega, by go_num, l2, u2, four_set (i := 2) hh.out _, grownBy_drew (grownBy_set_new hg (Nat.le_refl _) _)⟩
      case measure => simp [intOf]; omega
  · have HIN : Hid ((k : Int) < (len : Int) → 64 ≤ (k : Int)) := fun h => by omega
    have HH := hide hh
    have hc3a := fun v => World.cell?_setCell_same wr ⟨w.heap.size, 3, none⟩ v c3
    rcases (show (len : Int) ≤ (k : Int) ∨ ((k : Int) < (len : Int) ∧ 64 ≤ (k : Int)) from by omega) with hx | ⟨hx, hy⟩
    all_goals
     clear hin
     rcases (show (len : Int) / 20 ≤ 12 ∨ 12 < (len : Int) / 20 from by omega) with hq | hq
     · have hc3b := hc3a (.int .i64 ((len : Int) / 20))
       clear hc3a
       go_wp2_with fail
       go_ret
       refine ⟨rfl, ⟨Nat.le_refl _, hl, HB.out.below ((Below.refl _ _).grown (grownBy_set_new hg (Nat.le_refl _) _) (Nat.le_refl _) (fun k hk => by cases hk)) (Nat.le_refl _), 0, mix, _, by omega, hm0, hm1, ⟨by omega, by omega⟩, four_set (i := 3) hh.out _⟩, grownBy_set_new hg (Nat.le_refl _) _⟩
     · have hc3b := hc3a (.int .i64 ((len : Int) / 20))
       clear hc3a
       go_wp2_with fail
       all_goals go_ret
       all_goals refine ⟨rfl, ⟨Nat.le_refl _, hl, HB.out.below ((Below.refl _ _).grown (grownBy_set_new (grownBy_set_new hg (Nat.le_refl _) _) (Nat.le_refl _) _) (Nat.le_refl _) (fun k hk => by cases hk)) (Nat.le_refl _), 0, mix, _, by omega, hm0, hm1, ⟨by omega, by omega⟩, four_set (i := 3) (four_set (i := 3) hh.out _) _⟩, grownBy_set_new (grownBy_set_new hg (Nat.le_refl _) _) (Nat.le_refl _) _⟩
theorem Tryz.infoV8 : (Tryz.prog.info? 5).map (fun i => (i.zero, i.size, i.bytes)) = some (some (.int .u8 0), 1, 1) := by kernel_rfl
set_option maxRecDepth 100000 in
set_option maxHeartbeats 1600000 in
theorem src_bytes (B : Nat) (w : World) (g : Nat) (a : Option Addr) (len cap : Nat) (n : Nat) (hn : n ≤ 1048576) (hs : Src 60 B w g a len cap) :
 Calls Tryz.prog 40 #[.pointer (some ⟨g, 0, none⟩), .int .i64 n] w fun e w' => ∃ t : ByteArray, e = .returned (.string t) ∧ t.size = n ∧ Src 60 B w' g a len cap ∧ w.grownBy w' (some g) := by
 have hlt := hs.lt
 have hBg := hs.1
 have HS := hide hs
 clear hs
 obtain ⟨i0, hi, hz0, hz1, hz2⟩ := info_parts Tryz.infoV8
 go_enter Tryz.func40, Tryz.ntmps40
 go_wp2_with fail
 go_loopw [5, 6] (fun v i wr => ∃ (l : List UInt8), l.length ≤ n ∧ i = .int .i64 l.length ∧ wr.ownsRow w.heap.size 5 1 v l.length (l.map byteV) ∧ Hid (Src 60 B wr g a len cap) ∧ w.grownBy wr (some g)) (fun _ i _ => n - (intOf i).toNat)
 case atStart => exact ⟨[], by simp, rfl, by simpa using World.ownsRow_made (e := 5) (size := 1) (base := w.heap.size) w #[] 0 (Nat.le_refl _) (by decide) (by simp), HS.out.kept (grownBy_alloc (World.grownBy.refl w none) _) (fun k hk => by cases hk) (by omega), grownBy_alloc (World.grownBy.refl _ _) _⟩
 case round =>
  obtain ⟨l, hl, rfl, hown, hsr, hg⟩ := hrel
  have hsz := hg.size
  by_cases hlt2 : l.length < n
  · have hlt' : (l.length : Int) < (n : Int) := by omega
    go_wp2_with fail
    refine (src_n B _ g a len cap 256 (by omega) hsr.out).mono ?_
    rintro e w1 ⟨x, rfl, x0, x1, hs1, hg1⟩
    have hx : x < 256 := by omega
    have hown1 := hown.kept hg1 (by
     rcases hq : u5.ownBlock with _ | q
     · exact .inl rfl
     · refine .inr ?_
       intro he
       have := (hown.lt q hq).1
       simp at he
       omega)
    have hg2 := grownBy_trans hg hg1
    have HS1 := hide hs1
    have hsz1 := hg2.size
    clear hown hg hg1 hs1 hsr
    go_wp2_with (at_builtin; refine wpList_append_own _ rfl _ _ 22 rfl w.heap.size 5 i0 (.int .u8 0) 1 1 Tryz.underlying22 hi hz0 hz1 hz2 rfl (by decide) _ _ _ rfl (hown1.alloc _) ⟨w1.heap.size, 0, none⟩ 1 1 [.int .u8 x] rfl rfl (one_cell _ _ _) (one_oneCell _ _) ?c3 ?c4 ?c5 ?_)
    case c3 => unfold maxLen; omega
    case c4 => omega
    case c5 => simp; omega
    intro v' w2 hown2 hgrow _
    have R1 := own_push (UInt8.ofNat x.toNat) hown2 (by rw [ofNat_byte _ (by omega)]; omega)
    have R2 := push_below hown1 hg2 hgrow
    have R3 : Src 60 B w2 g a len cap := (HS1.out.kept (grownBy_alloc (World.grownBy.refl w1 none) _) (fun k hk => by cases hk) (by omega)).kept hgrow (fun k hk => by have := (hown1.lt k hk).1; omega) (by simp; omega)
    have HR := hide R3
    clear hown1 hown2 hgrow hg2 R3 HS1
    go_wp2_with fail
    go_roundw
    case rel => exact ⟨l ++ [UInt8.ofNat x.toNat], by simp; omega, by simp, R1, HR, R2⟩
    case measure => simp [intOf]; omega
  · have hcv := own_conv (P := Tryz.prog) hown Tryz.underlying22 Tryz.underlying5 Tryz.underlying9
    clear hown
    go_wp2_with fail
    go_ret
    exact ⟨_, rfl, by rw [size_mk]; omega, hsr.out, hg⟩
end Go.Proofs.YtconcnndghmdfaaGreatDoor
