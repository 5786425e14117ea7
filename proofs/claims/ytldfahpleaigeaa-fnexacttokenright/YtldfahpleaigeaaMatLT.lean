/- The walk over the law of TokenRight. -/
import Derived.Test.YtldfahpleaigeaaImpTok
import Derived.Test.YtldfahpleaigeaaLwTok2
namespace Go.Proofs.Ytldfahpleaigeaa
open Go.RowKit
set_option maxRecDepth 100000 in
set_option maxHeartbeats 400000 in
theorem fnExactTokenRight_walk (b m f : Int) (w : World) :
    Calls Try.prog 4 #[.agg #[.int .i64 b, .int .i64 m, .int .i64 f]] w fun e w' => e = .returned (.bool true) ∧ Below w.heap.size w w' := by
  have S := hide (And.intro (fun w => spec_tokenRight b m f w) (And.intro (fun w => imp_tokenRight b m f w) (fun w => law_toTok b m f w)))
  generalize tokOk ⟨b, m, f⟩ = r at *
  have hrr : (r == r) = true := by cases r <;> rfl
  have B1 := hide ((Below.refl w.heap.size w).alloc (Nat.le_refl _) (.cells #[.int .i64 b, .int .i64 m, .int .i64 f] 32))
  have c0 : (w.alloc (.cells #[.int .i64 b, .int .i64 m, .int .i64 f] 32)).cell? ⟨w.heap.size, 0, none⟩ = some (.int .i64 b) := by simp
  have c1 : (w.alloc (.cells #[.int .i64 b, .int .i64 m, .int .i64 f] 32)).cell? ⟨w.heap.size, 1, none⟩ = some (.int .i64 m) := by simp
  have c2 : (w.alloc (.cells #[.int .i64 b, .int .i64 m, .int .i64 f] 32)).cell? ⟨w.heap.size, 2, none⟩ = some (.int .i64 f) := by simp
  have hz : w.heap.size < (w.alloc (.cells #[.int .i64 b, .int .i64 m, .int .i64 f] 32)).heap.size := by simp
  go_enter Try.func4, Try.ntmps4
  go_wp2_with fail
  generalize w.alloc (.cells #[.int .i64 b, .int .i64 m, .int .i64 f] 32) = W1 at *
  refine (S.out.2.2 _).mono ?_
  rintro e u1 ⟨rfl, hb1⟩
  go_wp2_with fail
  refine (S.out.1 _).mono ?_
  rintro e u2 ⟨rfl, hb2⟩
  have D2 := hb1.trans (hb2.mono hb1.size)
  have d0 := (D2.cell (p := ⟨w.heap.size, 0, none⟩) hz).trans c0
  have d1 := (D2.cell (p := ⟨w.heap.size, 1, none⟩) hz).trans c1
  have d2 := (D2.cell (p := ⟨w.heap.size, 2, none⟩) hz).trans c2
  have B2 := hide (B1.out.trans (D2.mono B1.out.size))
  clear D2 hb1 hb2 c0 c1 c2 B1 hz
  go_wp2_with fail
  refine (S.out.2.2 _).mono ?_
  rintro e u3 ⟨rfl, hb3⟩
  have B3 := hide (B2.out.trans (hb3.mono B2.out.size))
  clear hb3 B2 d0 d1 d2
  go_wp2_with fail
  refine (S.out.2.1 _).mono ?_
  rintro e u4 ⟨rfl, hb4⟩
  have B4 := hide (B3.out.trans (hb4.mono B3.out.size))
  clear hb4 B3 S
  cases r with
  | true =>
    go_wp2_with fail
    go_ret
    exact ⟨rfl, B4.out⟩
  | false =>
    go_wp2_with fail
    go_ret
    exact ⟨rfl, B4.out⟩
end Go.Proofs.Ytldfahpleaigeaa
