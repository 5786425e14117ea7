/- The walk over the program's readNum at a place below 0. -/
import Derived.Test.YtiknoncalgifmaaDoorReadNum
namespace Go.Proofs.YtiknoncalgifmaaDoor
open Go.RowKit

def negJ (s : ByteArray) (w : World) : Nat → Act → World → Prop
  | 0, a, w' => w' = w ∧ ∃ (u1 u8 u9 u10 u11 u12 u13 u14 u15 u16 u17 u18 u19 u20 u21 u22 u23 u24 u25 u26 u27 u28 u29 u30 u31 u32 u33 u34 u35 u36 u37 u38 u39 u40 u41 u42 u43 u44 u45 u46 u47 u48 u49 u50 u51 u52 u53 u54 u55 u56 u57 u58 u59 u60 u61 u62 : Value), a = { tmps := #[.string s, u1, undef, undef, .int .i64 0, .int .i64 0, .nilIface, .int .i64 1, u8, u9, u10, u11, u12, u13, u14, u15, u16, u17, u18, u19, u20, u21, u22, u23, u24, u25, u26, u27, u28, u29, u30, u31, u32, u33, u34, u35, u36, u37, u38, u39, u40, u41, u42, u43, u44, u45, u46, u47, u48, u49, u50, u51, u52, u53, u54, u55, u56, u57, u58, u59, u60, u61, u62], defers := [] }
  | _, _, _ => False

set_option maxRecDepth 100000 in
set_option maxHeartbeats 800000 in
theorem impl_readNum_neg (s : ByteArray) (p : Int) (w : World) (hp : p < 0) :
    Calls Tryd.prog 18 #[.string s, .int .i64 p] w fun e w' => e = .returned (.tuple #[.int .i64 0, .int .i64 0, .iface 55 (.agg #[.int .i64 1])]) ∧ w = w' := by
  go_enter Tryd.func18, Tryd.ntmps18
  go_wp2_with fail
  refine wp_scope_labels (negJ s w) (fun _ _ _ => 0) ?_ ?_
  · go_wp2_with fail
    go_step3
    exact ⟨rfl, _, _, _, _, _, _, _, _, _, _, _, _, _, _, _, _, _, _, _, _, _, _, _, _, _, _, _, _, _, _, _, _, _, _, _, _, _, _, _, _, _, _, _, _, _, _, _, _, _, _, _, _, _, _, _, _, rfl⟩
  · intro l a w' hJ
    match l, hJ with
    | 0, hJ =>
      obtain ⟨rfl, u1, u8, u9, u10, u11, u12, u13, u14, u15, u16, u17, u18, u19, u20, u21, u22, u23, u24, u25, u26, u27, u28, u29, u30, u31, u32, u33, u34, u35, u36, u37, u38, u39, u40, u41, u42, u43, u44, u45, u46, u47, u48, u49, u50, u51, u52, u53, u54, u55, u56, u57, u58, u59, u60, u61, u62, rfl⟩ := id hJ
      clear hJ
      refine ⟨_, rfl, ?_⟩
      go_wp2_with fail
      rw [jumps_ret]
      go_ret3
      exact ⟨rfl, rfl⟩
end Go.Proofs.YtiknoncalgifmaaDoor
