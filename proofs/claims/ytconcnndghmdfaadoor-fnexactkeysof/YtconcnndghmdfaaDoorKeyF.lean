/- Keys, as texts. -/
import Derived.Test.YtconcnndghmdfaaDoorShaD
import Derived.Test.YtconcnndghmdfaaDoorKeyO
namespace Go.Proofs.YtconcnndghmdfaaDoor
open Go.RowKit
/-- The words that a key and a mark are made with. -/
def hideW : ByteArray := ⟨#[104, 105, 100, 101]⟩
def markW : ByteArray := ⟨#[109, 97, 114, 107]⟩
/-- The first 16 bytes. -/
def take16 (t : ByteArray) : ByteArray := t.extract 0 16
theorem take16_size (t : ByteArray) (h : 16 ≤ t.size) : (take16 t).size = 16 := by
  unfold take16; rw [ByteArray.size_extract]; omega
/-- The keys of a pass. -/
def keysT (pass : ByteArray) : ByteArray × ByteArray := (take16 (macT (stretchS pass 3) hideW), macT (stretchS pass 3) markW)
def keysS (pass : ByteArray) : ByteArray × ByteArray := if pass.size ≤ 20000 then keysT pass else (⟨#[]⟩, ⟨#[]⟩)
theorem stretchS_size (pass : ByteArray) (n : Int) : (stretchS pass n).size ≤ 32 := by
  unfold stretchS
  split
  · exact stretchT_size _ _
  · exact Nat.zero_le _
theorem keysT_ok (pass : ByteArray) : keysOk (keysT pass) = true := by
  have h1 : (keysT pass).1.size = 16 := take16_size _ (by rw [macT_size]; decide)
  have h2 : (keysT pass).2.size = 32 := macT_size _ _
  unfold keysOk
  rw [h1, h2]
  rfl
end Go.Proofs.YtconcnndghmdfaaDoor
