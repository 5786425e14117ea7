/- The law's walk of KeysRight. -/
import Derived.Test.YtconcnndghmdfaaSealKr
import Derived.Test.YtconcnndghmdfaaSealPr
import Derived.Test.YtconcnndghmdfaaLwKeys
import Derived.Test.YtconcnndghmdfaaKeyL
namespace Go.Proofs.Ytconcnndghmdfaa
open Go Go.RowKit
set_option maxRecDepth 100000 in
theorem fnExactKeysRight_walk (H M : ByteArray) (hH : H.size ≤ maxLen) (hM : M.size ≤ maxLen) (w : World) :
    Calls Try.prog 3 #[.agg #[.string H, .string M]] w fun e w' => e = .returned (.bool true) ∧ Below w.heap.size w w' := by
  by_cases h : 1048576 < H.size + M.size
  · have S0 := hide (fun W => law_szKeys_no H M W hH hM h)
    clear h hH hM
    go_enter Try.func3, Try.ntmps3
    go_wp2_with fail
    refine (S0.out _).mono ?_
    rintro e w1 ⟨rfl, hb1⟩
    have HB := KeyL.one hb1
    clear hb1 S0
    go_wp2_with fail
    go_ret
    exact ⟨rfl, HB.low⟩
  · have S0 := hide (fun W => law_szKeys_yes H M W (by omega))
    have d1 : ¬ (1048576 : Int) - (H.size : Int) - (M.size : Int) < 0 := by omega
    have ST := hide (fun W => law_toKeys H M W)
    have SK := hide (fun W => spec_keysRight H M W)
    have IK := hide (fun W => imp_keysRight H M W)
    generalize keysOk (H, M) = r at *
    have hr : (r != r) = false := by simp
    clear h hH hM
    go_enter Try.func3, Try.ntmps3
    go_wp2_with fail
    refine (S0.out _).mono ?_
    rintro e w1 ⟨rfl, hb1⟩
    have HB := KeyL.one hb1
    have c0 := HB.c0
    have c1 := HB.c1
    clear hb1 S0
    go_wp2_with fail
    refine (ST.out _).mono ?_
    rintro e w2 ⟨rfl, hb2⟩
    have HB := HB.call hb2
    clear hb2 c0 c1
    go_wp2_with fail
    refine (SK.out _).mono ?_
    rintro e w3 ⟨rfl, hb3⟩
    have HB := HB.call hb3
    have c0 := HB.c0
    have c1 := HB.c1
    clear hb3 SK
    go_wp2_with fail
    refine (ST.out _).mono ?_
    rintro e w4 ⟨rfl, hb4⟩
    have HB := HB.call hb4
    clear hb4 c0 c1
    go_wp2_with fail
    refine (IK.out _).mono ?_
    rintro e w5 ⟨rfl, hb5⟩
    have HB := HB.call hb5
    clear hb5
    go_wp2_with fail
    go_ret
    exact ⟨rfl, HB.low⟩
end Go.Proofs.Ytconcnndghmdfaa
