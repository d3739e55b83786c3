/-
  Own text: the page's example of layer 7; Size; walked.
-/
import Derived.Test.YtfiacpbpfdencaaEnc7
namespace Go.Proofs.Ytfiacpbpfdencaa
open Go.RowKit

def Dg.keep : Dg := ⟨7, 0, 0, 0, 0, 0, 0, 0, 0, 0, none, 0, 0⟩
theorem keep_ok : chk Dg.keep [] = 0 := by
  unfold chk
  rw [if_neg (by simp [Dg.keep]), if_neg]
  refine not_not_intro ⟨by simp [Dg.keep], by simp [Dg.keep], ?_⟩
  simp [formP, Dg.keep, bareB]
theorem keep_fit : Dg.keep.fit := by
  constructor <;> simp [Dg.keep]
theorem awake7_any (w : World) :
    Calls Try.prog 9 #[] w fun e w' => e = .returned (.bool true) ∧ Below w.heap.size w w' := by
  have HE := Lib.hid (fun (t : Nat) (w : World) (ht : IsTab w t) => encode_ok t Dg.keep [] w ht (Bytes.nil w) keep_fit (fun _ => rfl) keep_ok)
  dsimp only [Dg.keep, Dg.val] at HE
  go_enter Try.func9, Try.ntmps9
  go_wp2_with first
    | (go_at_call 11; refine (new_any _).mono ?_; rintro e w1 ⟨rfl, ht, hb⟩; have HT := Lib.hid ht; have HB1 := Lib.hid hb; clear ht hb)
    | (go_at_call 10; refine (HE.out _ _ HT.out).mono ?_; rintro e w2 ⟨g, rfl, hg, hr, hb⟩; have HB2 := Lib.hid hb; clear hb hr)
    | fail
  go_ret
  exact ⟨rfl, HB1.out.trans (HB2.out.mono HB1.out.size)⟩
theorem size7_any (d : Dg) (w : World) (hm : d.dl ≤ 100000) :
    Calls Try.prog 15 #[d.val] w fun e w' => e = .returned (.int .i64 (33 + (d.dl : Int))) ∧ Below w.heap.size w w' := by
  have h1 : (d.dl : Int) ≤ 100000 := by omega
  have h2 : (0 : Int) ≤ d.dl := by omega
  go_enter Try.func15, Try.ntmps15
  go_wp2
  go_ret
  exact ⟨rfl, (Below.refl w.heap.size w).alloc (Nat.le_refl _) _⟩
end Go.Proofs.Ytfiacpbpfdencaa
