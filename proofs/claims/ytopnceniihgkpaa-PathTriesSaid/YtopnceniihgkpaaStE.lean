/-
  Own text: Need, walked.
-/
import Derived.Test.YtopnceniihgkpaaStD
namespace Go.Proofs.Ytopnceniihgkpaa
open Go.RowKit

/-- What a quotient by a number above 0 leaves. -/
theorem rest_mod (a b : Int) (ha : -9223372036854775808 ≤ a) (ha' : a ≤ 9223372036854775807) (hb : 0 < b) (hb' : b ≤ 9223372036854775807) : restZ a b = a % b := by
  have h1 := (floor_rest a b ha ha' (by omega) hb' (by omega) (by omega)).1
  rw [floor_div a b ha ha' hb hb'] at h1
  have h2 := Int.mul_ediv_add_emod a b
  rw [Int.mul_comm] at h2
  omega
theorem Sk.need_is (s : Sk) (n l : Int) : s.need n l = if s.many (if n < 0 then 0 else n) < (if l < 0 then 0 else l) then s.many (if n < 0 then 0 else n) else (if l < 0 then 0 else l) := rfl
end Go.Proofs.Ytopnceniihgkpaa
