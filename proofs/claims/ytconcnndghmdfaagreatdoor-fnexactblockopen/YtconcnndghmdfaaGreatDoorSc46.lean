/- Put together: As, AsHit, AsW, CodeOf, ImpUnp. -/
import Derived.Test.YtconcnndghmdfaaGreatDoorRows
import Derived.WalkKit
import Derived.LaidEql
import Derived.Stop.Asserts
import Derived.RowKitTokens
import Derived.Test.YtconcnndghmdfaaGreatDoorSc1
import Derived.Handy
import Derived.Test.YtconcnndghmdfaaGreatDoorSc39
import Derived.Test.YtconcnndghmdfaaGreatDoorSc45
import Derived.Test.YtconcnndghmdfaaGreatDoorSc34
import Derived.Test.YtconcnndghmdfaaGreatDoorSc18
import Derived.Test.YtconcnndghmdfaaGreatDoorSc17
namespace Go.Proofs.YtconcnndghmdfaaGreatDoor
open Go.RowKit Go.Extern.Stop Go.Stop Go.Extern

theorem as_nil (t : Value) (w : World) :
    Calls Tryz.prog 133 #[.nilIface, t] w fun e w' => e = .returned (.bool false) ∧ w = w' := by
  go_enter Tryz.func133, Tryz.ntmps133
  go_wp2
  go_ret
  exact ⟨rfl, rfl⟩

theorem as_valueOf (t : Addr) (w : World) : (ReflectliteValue.unpack (.iface 183 (.pointer (some t)))).run Tryz.prog w
    = .ok (.agg #[.pointer (some ⟨2, 183, none⟩), .pointer (some ⟨w.heap.size, 0, none⟩), .int .u64 150]) (w.alloc (.cells #[.pointer (some t)] 183)) := by kernel_rfl
theorem as_type (a : Addr) (w : World) : (ReflectliteValue.methodAny (ReflectliteValue.valueError "reflectlite.Value.Type" 0) (fun t _ _ _ => ReflectliteType.toType t) #[.agg #[.pointer (some ⟨2, 183, none⟩), .pointer (some a), .int .u64 150]]).run Tryz.prog w
    = .ok (.iface 221 (.agg #[.pointer (some ⟨2, 183, none⟩)])) w := by kernel_rfl
theorem as_kindP (w : World) : ((ReflectliteType.abiMethod fun t => (fun a : Nat => Value.int IntKind.u8 (a : Int)) <$> Rtype.kind t) #[.pointer (some ⟨2, 183, none⟩)]).run Tryz.prog w = .ok (.int .u8 22) w := by kernel_rfl
theorem as_kindE (w : World) : ((ReflectliteType.abiMethod fun t => (fun a : Nat => Value.int IntKind.u8 (a : Int)) <$> Rtype.kind t) #[.pointer (some ⟨2, 84, none⟩)]).run Tryz.prog w = .ok (.int .u8 25) w := by kernel_rfl
theorem rlm (z : Sem Value) (f : TypeId → Addr → Nat → Nat → Sem Value) (v : Value) :
    ReflectliteValue.method z f #[v] = (do match ← ReflectliteValue.parts v with | none => z | some (t, a, fl) => f t a fl (fl % 32)) := rfl
theorem as_partsP (a : Addr) (w : World) : (ReflectliteValue.parts (.agg #[.pointer (some ⟨2, 183, none⟩), .pointer (some a), .int .u64 150])).run Tryz.prog w = .ok (some (183, a, 150)) w := by kernel_rfl
theorem as_isNil (a p : Addr) (W : World) (ha : W.cell? a = some (.pointer (some p))) :
    (ReflectliteValue.method (ReflectliteValue.valueError "reflectlite.Value.IsNil" 0) ReflectliteValue.isNil #[.agg #[.pointer (some ⟨2, 183, none⟩), .pointer (some a), .int .u64 150]]).run Tryz.prog W = .ok (.bool false) W := by
  rw [rlm]
  simp only [Sem.run_bind, as_partsP, Result.andThen]
  simp [ReflectliteValue.isNil, loadVar, isAgg, underlying, Tryz.underlying183, ha, Result.andThen]
theorem as_elem (w : World) : (ReflectliteType.method ReflectliteType.elem #[.agg #[.pointer (some ⟨2, 183, none⟩)]]).run Tryz.prog w = .ok (.iface 221 (.agg #[.pointer (some ⟨2, 84, none⟩)])) w := by kernel_rfl
theorem as_implements (w : World) : (ReflectliteType.relation "Implements" ReflectliteType.implements_ #[.agg #[.pointer (some ⟨2, 84, none⟩)], .iface 221 (.agg #[.pointer (some ⟨2, 138, none⟩)])]).run Tryz.prog w = .ok (.bool true) w := by kernel_rfl
theorem as_typeOf (v : Value) (w : World) : (ReflectliteType.typeOf #[.iface 84 v]).run Tryz.prog w = .ok (.iface 221 (.agg #[.pointer (some ⟨2, 84, none⟩)])) w := by kernel_rfl
theorem as_assignable (w : World) : (ReflectliteType.relation "AssignableTo" ReflectliteType.assignableTo #[.agg #[.pointer (some ⟨2, 84, none⟩)], .iface 221 (.agg #[.pointer (some ⟨2, 84, none⟩)])]).run Tryz.prog w = .ok (.bool true) w := by kernel_rfl
theorem as_valueE (c : Int) (w : World) : (ReflectliteValue.unpack (.iface 84 (.agg #[.int .i64 c]))).run Tryz.prog w
    = .ok (.agg #[.pointer (some ⟨2, 84, none⟩), .pointer (some ⟨w.heap.size, 0, none⟩), .int .u64 153]) (w.alloc (.cells #[.int .i64 c] 84)) := by kernel_rfl
theorem as_elemOf (w : World) : (Rtype.elem? 183).run Tryz.prog w = .ok (some 84) w := by kernel_rfl
theorem as_mkE (p : Addr) (w : World) : (ReflectliteValue.mk 84 p ReflectliteValue.flagAddr).run Tryz.prog w = .ok (.agg #[.pointer (some ⟨2, 84, none⟩), .pointer (some p), .int .u64 409]) w := by kernel_rfl
theorem as_elemV (a p : Addr) (W : World) (ha : W.cell? a = some (.pointer (some p))) :
    (ReflectliteValue.method (ReflectliteValue.valueError "reflectlite.Value.Elem" 0) ReflectliteValue.elem #[.agg #[.pointer (some ⟨2, 183, none⟩), .pointer (some a), .int .u64 150]]).run Tryz.prog W
      = .ok (.agg #[.pointer (some ⟨2, 84, none⟩), .pointer (some p), .int .u64 409]) W := by
  rw [rlm]
  simp only [Sem.run_bind, as_partsP, Result.andThen]
  simp [ReflectliteValue.elem, loadVar, isAgg, underlying, Tryz.underlying183, ha, Result.andThen, as_elemOf, as_mkE]
theorem as_partsEa (a : Addr) (w : World) : (ReflectliteValue.parts (.agg #[.pointer (some ⟨2, 84, none⟩), .pointer (some a), .int .u64 409])).run Tryz.prog w = .ok (some (84, a, 409)) w := by kernel_rfl
theorem as_partsE (a : Addr) (w : World) : (ReflectliteValue.parts (.agg #[.pointer (some ⟨2, 84, none⟩), .pointer (some a), .int .u64 153])).run Tryz.prog w = .ok (some (84, a, 153)) w := by kernel_rfl
theorem as_direct (w : World) : (Rtype.directlyAssignable 84 84).run Tryz.prog w = .ok true w := by kernel_rfl
end Go.Proofs.YtconcnndghmdfaaGreatDoor
namespace Go.Proofs.YtconcnndghmdfaaGreatDoor
open Go.RowKit Go.Extern.Stop Go.Stop Go.Extern

theorem rls (v x : Value) : ReflectliteValue.set #[v, x] = (do
    let (some (dst, a, fl), some (src, b, _)) := (← ReflectliteValue.parts v, ← ReflectliteValue.parts x)
      | unsupported (.noEntry "extern/(internal/reflectlite.Value).Set.zeroValue")
    if fl / ReflectliteValue.flagAddr % 2 == 0 then unsupported (.noEntry "extern/(internal/reflectlite.Value).Set.unaddressable")
    let val ← loadVar src b
    if ← Rtype.directlyAssignable dst src then storeVar dst a val
    else if ← Rtype.implements dst src then
      if (← Rtype.kind src) == 20 then
        match val with
        | .nilIface => unsupported (.noEntry "extern/reflectlite: a nil value of one interface type handed on as a value of another")
        | _ => storeVar dst a val
      else storeVar dst a (.iface src val)
    else panicString ("reflectlite.Set: value of type " ++ (← Rtype.spelt src) ++ " is not assignable to type " ++ (← Rtype.spelt dst))
    pure (.tuple #[])) := rfl
theorem as_set (ta b : Addr) (c : Int) (old : Value) (W : World) (hb : W.cell? b = some (.int .i64 c)) (ht : W.cell? ta = some old) (hf : W.frozen? ta = false) :
    (ReflectliteValue.set #[.agg #[.pointer (some ⟨2, 84, none⟩), .pointer (some ta), .int .u64 409], .agg #[.pointer (some ⟨2, 84, none⟩), .pointer (some b), .int .u64 153]]).run Tryz.prog W
      = .ok (.tuple #[]) (W.setCell ta (.int .i64 c)) := by
  rw [rls]
  simp only [Sem.run_bind, as_partsEa, as_partsE, Result.andThen]
  have hl := run_loadCells_list (P := Tryz.prog) W b [.int .i64 c] (fun j v hj => by
    match j, hj with
    | 0, hj => simp at hj; subst hj; simpa [Addr.add] using hb)
  simp only [List.length_cons, List.length_nil, Nat.zero_add] at hl
  simp [ReflectliteValue.flagAddr, loadVar, isAgg, underlying, Tryz.underlying84, Result.andThen, as_direct, storeVar, Value.cells, hl]
  simp [storeCells, Addr.add]
  rw [run_store Tryz.prog W ta _ _ (by rfl)]
  simp [ht, hf]
end Go.Proofs.YtconcnndghmdfaaGreatDoor
namespace Go.Proofs.YtconcnndghmdfaaGreatDoor
open Go.RowKit Go.Extern.Stop Go.Stop Go.Extern

theorem as_methodKind (h : Value) (w : World) : (Go.method 369 221 (.agg #[h]) "Kind").run Tryz.prog w = .ok (180, h) w := by kernel_rfl
theorem as_methodElem (h : Value) (w : World) : (Go.method 369 221 (.agg #[h]) "Elem").run Tryz.prog w = .ok (190, .agg #[h]) w := by kernel_rfl
theorem as_methodImplements (h : Value) (w : World) : (Go.method 369 221 (.agg #[h]) "Implements").run Tryz.prog w = .ok (191, .agg #[h]) w := by kernel_rfl
theorem as_methodAssignableTo (h : Value) (w : World) : (Go.method 369 221 (.agg #[h]) "AssignableTo").run Tryz.prog w = .ok (188, .agg #[h]) w := by kernel_rfl

set_option maxHeartbeats 4000000 in
theorem as_hit (c : Int) (t : Addr) (old : Value) (w : World) (hg : w.cell? ⟨0, 0, none⟩ = some (.iface 221 (.agg #[.pointer (some ⟨2, 138, none⟩)]))) (ht0 : w.cell? t = some old) (hf0 : w.frozen? t = false) :
    Calls Tryz.prog 133 #[.iface 84 (.agg #[.int .i64 c]), .iface 183 (.pointer (some t))] w fun ev w' => ev = .returned (.bool true) ∧ w' = ((((w.alloc (.cells #[.pointer (some t)] 183)).alloc (.cells #[.pointer (some ⟨2, 183, none⟩), .pointer (some ⟨w.heap.size, 0, none⟩), .int .u64 150] 206)).alloc (.cells #[.pointer (some ⟨2, 183, none⟩), .pointer (some ⟨w.heap.size, 0, none⟩), .int .u64 150] 206)).alloc (.cells #[.int .i64 c] 84)).setCell t (.int .i64 c) := by
  have h6 := @run_callFunc_extern Tryz.prog 148 _ (fun args => ReflectliteValue.unpack (args.getD 0 (.tuple #[]))) Tryz.func148 (by kernel_rfl) (by kernel_rfl) (by kernel_rfl) (by kernel_rfl)
  have h7 := @run_callFunc_extern Tryz.prog 149 _ (ReflectliteValue.methodAny (ReflectliteValue.valueError "reflectlite.Value.Type" 0) (fun t _ _ _ => ReflectliteType.toType t)) Tryz.func149 (by kernel_rfl) (by kernel_rfl) (by kernel_rfl) (by kernel_rfl)
  have h8 := @run_callFunc_extern Tryz.prog 150 _ (ReflectliteValue.method (ReflectliteValue.valueError "reflectlite.Value.IsNil" 0) ReflectliteValue.isNil) Tryz.func150 (by kernel_rfl) (by kernel_rfl) (by kernel_rfl) (by kernel_rfl)
  have h27 := @run_callFunc_extern Tryz.prog 180 _ (ReflectliteType.abiMethod fun t => do pure (.int .u8 (← Rtype.kind t))) Tryz.func180 (by kernel_rfl) (by kernel_rfl) (by kernel_rfl) (by kernel_rfl)
  have h37 := @run_callFunc_extern Tryz.prog 190 _ (ReflectliteType.method ReflectliteType.elem) Tryz.func190 (by kernel_rfl) (by kernel_rfl) (by kernel_rfl) (by kernel_rfl)
  have h38 := @run_callFunc_extern Tryz.prog 191 _ (ReflectliteType.relation "Implements" ReflectliteType.implements_) Tryz.func191 (by kernel_rfl) (by kernel_rfl) (by kernel_rfl) (by kernel_rfl)
  have h10 := @run_callFunc_extern Tryz.prog 157 _ ReflectliteType.typeOf Tryz.func157 (by kernel_rfl) (by kernel_rfl) (by kernel_rfl) (by kernel_rfl)
  have h35 := @run_callFunc_extern Tryz.prog 188 _ (ReflectliteType.relation "AssignableTo" ReflectliteType.assignableTo) Tryz.func188 (by kernel_rfl) (by kernel_rfl) (by kernel_rfl) (by kernel_rfl)
  have h11 := @run_callFunc_extern Tryz.prog 158 _ (ReflectliteValue.method (ReflectliteValue.valueError "reflectlite.Value.Elem" 0) ReflectliteValue.elem) Tryz.func158 (by kernel_rfl) (by kernel_rfl) (by kernel_rfl) (by kernel_rfl)
  have h12 := @run_callFunc_extern Tryz.prog 159 _ ReflectliteValue.set Tryz.func159 (by kernel_rfl) (by kernel_rfl) (by kernel_rfl) (by kernel_rfl)
  have tO := as_typeOf
  have mA := as_methodAssignableTo
  have a25 := as_assignable
  have v25 := as_valueE
  have f6 := as_valueOf
  have f7 := as_type
  have mK := as_methodKind
  have mE := as_methodElem
  have mI := as_methodImplements
  have k27 := as_kindP
  have k25 := as_kindE
  have e27 := as_elem
  have i25 := as_implements
  have n8 := as_isNil ⟨w.heap.size, 0, none⟩ t ((w.alloc (.cells #[.pointer (some t)] 183)).alloc (.cells #[.pointer (some ⟨2, 183, none⟩), .pointer (some ⟨w.heap.size, 0, none⟩), .int .u64 150] 206)) (by simp)
  have hlt : 0 < w.heap.size := by
    rcases Nat.eq_zero_or_pos w.heap.size with h0 | h
    · simp [World.cell?, h0] at hg
    · exact h
  have hg2 : ((w.alloc (.cells #[.pointer (some t)] 183)).alloc (.cells #[.pointer (some ⟨2, 183, none⟩), .pointer (some ⟨w.heap.size, 0, none⟩), .int .u64 150] 206)).cell? ⟨0, 0, none⟩ = some (.iface 221 (.agg #[.pointer (some ⟨2, 138, none⟩)])) := by
    rw [World.cell?_alloc_lt _ _ ⟨0, 0, none⟩ (by simp), World.cell?_alloc_lt _ _ ⟨0, 0, none⟩ hlt]; exact hg
  have htl : t.block < w.heap.size := by
    rcases Nat.lt_or_ge t.block w.heap.size with h | h
    · exact h
    · simp [World.cell?, Array.getElem?_eq_none h] at ht0
  have el := as_elemV ⟨w.heap.size, 0, none⟩ t (((w.alloc (.cells #[.pointer (some t)] 183)).alloc (.cells #[.pointer (some ⟨2, 183, none⟩), .pointer (some ⟨w.heap.size, 0, none⟩), .int .u64 150] 206)).alloc (.cells #[.pointer (some ⟨2, 183, none⟩), .pointer (some ⟨w.heap.size, 0, none⟩), .int .u64 150] 206)) (by rw [World.cell?_alloc_lt _ _ ⟨w.heap.size, 0, none⟩ (by simp; omega)]; simp)
  have st := as_set t ⟨w.heap.size + 1 + 1 + 1, 0, none⟩ c old ((((w.alloc (.cells #[.pointer (some t)] 183)).alloc (.cells #[.pointer (some ⟨2, 183, none⟩), .pointer (some ⟨w.heap.size, 0, none⟩), .int .u64 150] 206)).alloc (.cells #[.pointer (some ⟨2, 183, none⟩), .pointer (some ⟨w.heap.size, 0, none⟩), .int .u64 150] 206)).alloc (.cells #[.int .i64 c] 84))
    (by rw [World.cell?_alloc_at _ _ _ _ (by simp)]; rfl)
    (by rw [World.cell?_alloc_lt _ _ t (by simp; omega), World.cell?_alloc_lt _ _ t (by simp; omega), World.cell?_alloc_lt _ _ t (by simp; omega), World.cell?_alloc_lt _ _ t htl]; exact ht0)
    (by rw [World.frozen?_alloc_old _ _ t (by simp; omega), World.frozen?_alloc_old _ _ t (by simp; omega), World.frozen?_alloc_old _ _ t (by simp; omega), World.frozen?_alloc_old _ _ t (Nat.ne_of_lt htl)]; exact hf0)
  go_enter Tryz.func133, Tryz.ntmps133
  go_wp2
  refine wp_loop_rounds 1 ?_
  rw [rounds_succ]
  go_wp2
  go_ret
  exact ⟨rfl, rfl⟩
end Go.Proofs.YtconcnndghmdfaaGreatDoor
namespace Go.Proofs.YtconcnndghmdfaaGreatDoor
open Go.RowKit

/-- errors.errorType is laid as the program's text lays it. -/
def Laid (w : World) : Prop := w.cell? ⟨0, 0, none⟩ = some (.iface 221 (.agg #[.pointer (some ⟨2, 138, none⟩)]))
theorem Laid.pos {w : World} (h : Laid w) : 0 < w.heap.size := by
  unfold Laid at h
  rcases Nat.eq_zero_or_pos w.heap.size with h0 | h1
  · simp [World.cell?, h0] at h
  · exact h1
theorem Laid.below {w w1 : World} {n : Nat} (h : Laid w) (hb : Below n w w1) (hn : 0 < n) : Laid w1 := by
  unfold Laid at *
  rw [← h]; exact hb.cell (p := ⟨0, 0, none⟩) hn
theorem Laid.alloc {w : World} (h : Laid w) (o : Obj) : Laid (w.alloc o) := by
  have hp := h.pos
  unfold Laid at *
  rw [World.cell?_alloc_lt _ _ ⟨0, 0, none⟩ hp]; exact h

set_option maxHeartbeats 800000 in
theorem codeOf_nil (w : World) : Calls Tryz.prog 101 #[.nilIface] w fun e w' => e = .returned (.int .i64 0) ∧ Below w.heap.size w w' := by
  go_enter Tryz.func101, Tryz.ntmps101
  go_wp2_with (go_at_call 133; refine (as_nil _ _).mono ?_; rintro e w' ⟨rfl, rfl⟩)
  go_ret
  exact ⟨rfl, by go_grown⟩

set_option maxHeartbeats 800000 in
theorem codeOf_fault (c : Int) (w : World) (hg : Laid w) : Calls Tryz.prog 101 #[.iface 84 (.agg #[.int .i64 c])] w fun e w' => e = .returned (.int .i64 c) ∧ Below w.heap.size w w' := by
  have hg1 : Laid (w.alloc (.cells #[.int .i64 0] 84)) := hg.alloc _
  unfold Laid at hg1
  clear hg
  have ht1 : (w.alloc (.cells #[.int .i64 0] 84)).cell? ⟨w.heap.size, 0, none⟩ = some (.int .i64 0) := by simp
  have hf1 : (w.alloc (.cells #[.int .i64 0] 84)).frozen? ⟨w.heap.size, 0, none⟩ = false := by simp
  go_enter Tryz.func101, Tryz.ntmps101
  go_wp2_with (go_at_call 133; refine (as_hit c _ (.int .i64 0) _ hg1 ht1 hf1).mono ?_; rintro e w' ⟨rfl, rfl⟩)
  go_ret
  exact ⟨rfl, by go_grown⟩
end Go.Proofs.YtconcnndghmdfaaGreatDoor
namespace Go.Proofs.YtconcnndghmdfaaGreatDoor
open Go.RowKit
/-- What unpacked tells: the text, and what is wrong. -/
def unpR (r : ByteArray × Int) : Value := .tuple #[.string r.1, if r.2 = 0 then .nilIface else .iface 84 (.agg #[.int .i64 r.2])]
set_option maxRecDepth 100000 in
set_option maxHeartbeats 1600000 in
theorem imp_unpacked (s : ByteArray) (w : World) (hs : s.size ≤ 20000) :
    Calls Tryz.prog 100 #[.string s] w fun e w' => e = .returned (unpR (unpackS s)) ∧ Below w.heap.size w w' := by
  have hE := show unpackS s = _ from if_neg (show ¬ 20000 < s.size by omega)
  have SR := hide (impl_readNum s 0 w hs (by omega))
  rcases decAt_form s 0 with ⟨U, m, hd, hm⟩ | hd | hd
  · rw [hd] at hE SR
    rw [numRet_good] at SR
    simp only at hE
    obtain ⟨N, hN⟩ : ∃ N, N = unfold U := ⟨_, rfl⟩
    rw [← hN] at hE SR
    by_cases h3 : N < 0 ∨ 4000 < N
    · rw [if_pos h3] at hE
      rw [hE]
      by_cases h1 : N < 0
      · have d1 : decide (N < 0) = true := decide_eq_true h1
        clear hE hd hm hN
        go_enter Tryz.func100, Tryz.ntmps100
        go_wp2_with fail
        refine SR.out.mono ?_
        rintro e w1 ⟨rfl, rfl⟩
        clear SR
        go_wp2_with fail
        go_ret2
        exact ⟨rfl, Below.refl _ _⟩
      · have h2 : 4000 < N := by omega
        have d1 : decide (N < 0) = false := decide_eq_false h1
        have d2 : decide (4000 < N) = true := decide_eq_true h2
        clear hE hd hm hN
        go_enter Tryz.func100, Tryz.ntmps100
        go_wp2_with fail
        refine SR.out.mono ?_
        rintro e w1 ⟨rfl, rfl⟩
        clear SR
        go_wp2_with fail
        go_ret2
        exact ⟨rfl, Below.refl _ _⟩
    · rw [if_neg h3] at hE
      obtain ⟨n, hn⟩ : ∃ n : Nat, N = (n : Int) := ⟨N.toNat, by omega⟩
      have hn4 : n ≤ 4000 := by omega
      rw [hn] at hE SR
      rw [Int.toNat_natCast] at hE
      rw [hE]
      obtain ⟨q, hq⟩ : ∃ q, q = m := ⟨_, rfl⟩
      have e0 : ((0 : Nat) : Int) + (m : Int) = (m : Int) := by omega
      rw [e0] at SR
      have hms : m ≤ s.size := by omega
      have hrest := fun u : World => run_rest (P := Tryz.prog) u 9 s m Tryz.underlying9 hms
      obtain ⟨r, hr⟩ : ∃ r, r = s.extract m s.size := ⟨_, rfl⟩
      have hrs : r.size ≤ 20000 := by rw [hr, ByteArray.size_extract]; omega
      have HUN := hide (show unpN s m n = if (unpO r n).2 = true then (if packB (unpO r n).1 = s then ((unpO r n).1, 0) else (⟨#[]⟩, 3)) else (⟨#[]⟩, 5) by rw [hr]; rfl)
      rw [← hr] at hrest
      have d1 : decide ((n : Int) < 0) = false := decide_eq_false (by omega)
      have d2 : decide ((4000 : Int) < (n : Int)) = false := decide_eq_false (by omega)
      have d2' : decide (4000 < n) = false := decide_eq_false (by omega)
      have hmi : (m : Int) ≤ (s.size : Int) := by omega
      have HSZ := hide (unpO_size r n)
      clear hE hd hm hN hn h3 hq hr e0
      go_enter Tryz.func100, Tryz.ntmps100
      go_wp2_with fail
      refine SR.out.mono ?_
      rintro e w1 ⟨rfl, rfl⟩
      clear SR
      go_wp2_with fail
      refine (imp_newDecoder r w (by omega)).mono ?_
      rintro e w2 ⟨g, rfl, hg, hdec, hb2⟩
      have ST := hide (imp_text w.heap.size g n r w2 hn4 (by omega) hdec hg)
      obtain ⟨⟨B, ok⟩, hUU⟩ : ∃ UU, UU = unpO r n := ⟨_, rfl⟩
      rw [← hUU] at ST HUN HSZ
      have B2 := hide hb2
      clear hb2 hdec hUU
      go_wp2_with fail
      refine ST.out.mono ?_
      rintro e w3 ⟨rfl, hb3⟩
      have B3 := hide (B2.out.trans hb3)
      clear hb3 ST
      cases ok with
      | false =>
        have HU := hide (show unpN s m n = (⟨#[]⟩, 5) by rw [HUN.out]; rfl)
        clear HUN
        go_wp2_with fail
        go_ret2
        exact ⟨by rw [HU.out]; rfl, B3.out⟩
      | true =>
        have hB : B.size = n := HSZ.out rfl
        have SP := hide (imp_pack B w3 (by omega))
        have hPS : packS B = packB B := if_pos (by omega)
        rw [hPS] at SP
        obtain ⟨P, hP⟩ : ∃ P, P = packB B := ⟨_, rfl⟩
        rw [← hP] at SP
        have HUN2 := hide (show unpN s m n = if P = s then (B, 0) else (⟨#[]⟩, 3) by rw [HUN.out, hP]; rfl)
        clear HUN hB hPS hP HSZ
        by_cases hPs : P = s
        · have st : (P.toList == s.toList) = true := str_eq hPs
          have HU := hide (show unpN s m n = (B, 0) by rw [HUN2.out, if_pos hPs])
          clear HUN2 hPs
          go_wp2_with fail
          refine SP.out.mono ?_
          rintro e w4 ⟨rfl, hb4⟩
          have B4 := hide (B3.out.trans (hb4.mono B3.out.size))
          clear hb4 SP
          go_wp2_with fail
          go_ret2
          exact ⟨by rw [HU.out]; rfl, B4.out⟩
        · have st : (P.toList == s.toList) = false := str_ne hPs
          have HU := hide (show unpN s m n = (⟨#[]⟩, 3) by rw [HUN2.out, if_neg hPs])
          clear HUN2 hPs
          go_wp2_with fail
          refine SP.out.mono ?_
          rintro e w4 ⟨rfl, hb4⟩
          have B4 := hide (B3.out.trans (hb4.mono B3.out.size))
          clear hb4 SP
          go_wp2_with fail
          go_ret2
          exact ⟨by rw [HU.out]; rfl, B4.out⟩
  all_goals
    rw [hd] at hE SR
    rw [numRet_bad _ _ (by decide)] at SR
    have hE2 : unpackS s = (⟨#[]⟩, 3) := hE
    rw [hE2]
    clear hE hE2 hd
    go_enter Tryz.func100, Tryz.ntmps100
    go_wp2_with fail
    refine SR.out.mono ?_
    rintro e w1 ⟨rfl, rfl⟩
    clear SR
    go_wp2_with fail
    go_ret2
    exact ⟨rfl, Below.refl _ _⟩
set_option maxRecDepth 100000 in
set_option maxHeartbeats 1600000 in
theorem imp_unpack (s : ByteArray) (w : World) (hg : Laid w) (hs : s.size ≤ 9223372036854775807) :
    Calls Tryz.prog 65 #[.string s] w fun e w' => e = .returned (textO (unpackS s).1 (unpackS s).2) ∧ Below w.heap.size w w' := by
  by_cases h : 20000 < s.size
  · have hE : unpackS s = (⟨#[]⟩, 2) := if_pos h
    rw [hE]
    clear hE
    go_enter Tryz.func65, Tryz.ntmps65
    go_wp2_with fail
    go_returns
    exact ⟨rfl, by go_grown⟩
  · have hg1 := hide (hg.alloc (.cells #[.string ⟨#[]⟩, .int .i64 0, .int .i64 0] 31))
    have SU := hide (imp_unpacked s (w.alloc (.cells #[.string ⟨#[]⟩, .int .i64 0, .int .i64 0] 31)) (by omega))
    obtain ⟨⟨B, c⟩, hR⟩ : ∃ R, R = unpackS s := ⟨_, rfl⟩
    rw [← hR] at SU
    simp only [unpR] at SU
    have HR := hide hR
    clear hR hg
    go_enter Tryz.func65, Tryz.ntmps65
    go_wp2_with fail
    by_cases hc : c = 0
    · subst hc
      rw [if_pos rfl] at SU
      refine SU.out.mono ?_
      rintro e w1 ⟨rfl, hb1⟩
      have HB1 := hide hb1
      clear hb1 SU
      go_wp2_with fail
      refine (codeOf_nil _).mono ?_
      rintro e w2 ⟨rfl, hb2⟩
      have hb := HB1.out.trans (hb2.mono HB1.out.size)
      simp at hb
      obtain ⟨⟨c0, c1, c2⟩, hf⟩ := out_cells hb (Nat.lt_succ_self _) (heap_alloc_new w _)
      obtain ⟨r0, r1, r2⟩ := out_read (.string B) (.int .i64 0) (.int .i64 0) c0 c1 c2
      have HB := hide hb
      clear hb hb2 HB1
      go_wp2_with fail
      exact bodyPost_ret (v := textO B 0) (by simp [results, Tryz.results65, go_sem, r0, r1, r2, textO]) rfl ⟨by rw [← HR.out], below_out' HB.out⟩
    · rw [if_neg hc] at SU
      refine SU.out.mono ?_
      rintro e w1 ⟨rfl, hb1⟩
      have HB1 := hide hb1
      have hg2 := hide (hg1.out.below hb1 (by simp))
      clear hb1 SU
      go_wp2_with fail
      refine (codeOf_fault c _ hg2.out).mono ?_
      rintro e w2 ⟨rfl, hb2⟩
      have hb := HB1.out.trans (hb2.mono HB1.out.size)
      simp at hb
      obtain ⟨⟨c0, c1, c2⟩, hf⟩ := out_cells hb (Nat.lt_succ_self _) (heap_alloc_new w _)
      obtain ⟨r0, r1, r2⟩ := out_read (.string B) (.int .i64 0) (.int .i64 c) c0 c1 c2
      have HB := hide hb
      clear hb hb2 HB1
      go_wp2_with fail
      exact bodyPost_ret (v := textO B c) (by simp [results, Tryz.results65, go_sem, r0, r1, r2, textO]) rfl ⟨by rw [← HR.out], below_out' HB.out⟩
end Go.Proofs.YtconcnndghmdfaaGreatDoor
