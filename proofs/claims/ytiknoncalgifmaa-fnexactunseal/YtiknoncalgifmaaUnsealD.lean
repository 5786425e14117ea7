/- What Unseal asks, and what it tells. No walk here. -/
import Derived.Test.YtiknoncalgifmaaSealS
namespace Go.Proofs.Ytiknoncalgifmaa
open Go.RowKit

/-- All but the last four bytes. -/
def bodyOf (s : ByteArray) : ByteArray := s.extract 0 (s.size - 4)
/-- Are the last four bytes those of the CRC of all ahead of them? -/
def Sealed (s : ByteArray) : Prop := fourB (crcMore 0 (bodyOf s).data.toList) = s.extract (s.size - 4) s.size
/-- A TextOut. -/
def textOut (t : ByteArray) (n c : Int) : Value := .agg #[.string t, .int .i64 n, .int .i64 c]
end Go.Proofs.Ytiknoncalgifmaa
