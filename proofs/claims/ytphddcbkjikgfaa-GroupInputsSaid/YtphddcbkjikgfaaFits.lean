/-
  Own text: solve of package rs, walked.
  Decode of package rs, walked.
  Fits of package rs, walked.
-/
import Derived.Test.YtphddcbkjikgfaaOrdered
import Derived.Test.YtphddcbkjikgfaaCode
namespace Go.Proofs.Ytphddcbkjikgfaa
open Go.RowKit

end Go.Proofs.Ytphddcbkjikgfaa
namespace Go.Proofs.Ytphddcbkjikgfaa
open Go.RowKit

/-- What Apply hands back, as columns. -/
theorem cols_applied {w : World} {h g R len : Nat} {l : List Int} (hl : Lst w h R len (fun i => some ⟨g, i * len, none⟩)) (hd : Dat w g (R * len) l) (hR : R ≤ 1000) (hlen : len ≤ 1200) :
    ColsIn w (some ⟨h, 0, none⟩) R R (fun i => some ⟨g, i * len, none⟩) (fun _ => len) (fun _ => len) (fun i => seg l (i * len) len) := by
  refine ⟨Nat.le_refl _, by omega, (fun h => nomatch h), fun r hr => ⟨⟨h, 0, rfl, hl.lt, by rw [Nat.zero_add]; exact hl.cell r hr⟩, ⟨hd.bytes (r * len) len ?_ (by omega), Nat.le_refl _, by show len ≤ 9223372036854775807; omega, fun h => nomatch h⟩⟩⟩
  have := Nat.mul_le_mul_right len (show r + 1 ≤ R from hr)
  rw [Nat.succ_mul] at this
  omega
theorem ColsIn.front {w : World} {a : Option Addr} {n k cap : Nat} {A : Nat → Option Addr} {L C : Nat → Nat} {X : Nat → List Int} (h : ColsIn w a n cap A L C X) (hk : k ≤ n) : ColsIn w a k cap A L C X :=
  ⟨Nat.le_trans hk h.1, h.2.1, h.2.2.1, fun r hr => h.2.2.2 r (by omega)⟩
theorem Ints.front {w : World} {a : Option Addr} {n k : Nat} {P : Nat → Int} (h : Ints w a n P) (hk : k ≤ n) : Ints w a k P := by
  rcases h with h | ⟨b, off, e, hl, hc⟩
  · exact .inl (by omega)
  · exact .inr ⟨b, off, e, hl, fun i hi => hc i (by omega)⟩
/-- What the data of such shards are. -/
def decE (I : Nat → Int) (X : Nat → List Int) (k N n : Nat) (i c : Nat) : Nat := xs (fun j => mu (lagw (nth I n N) k j i) (co (X (std I n N j)) c)) k
/-- What Decode answers. -/
inductive DecodedTo (I : Nat → Int) (L : Nat → Nat) (X : Nat → List Int) (k N n : Nat) (w : World) (e : Ending) (w' : World) : Prop
  | index (h : ¬ GoodIx I N n) (he : Barred 62 w e w') : DecodedTo I L X k N n w e w'
  | few (h : GoodIx I N n) (hn : n < k) (he : Barred 63 w e w') : DecodedTo I L X k N n w e w'
  | length (h : GoodIx I N n) (hn : k ≤ n) (hl : ¬ EvenL n (fun q => L (std I n N q))) (he : Barred 61 w e w') : DecodedTo I L X k N n w e w'
  | good (h : GoodIx I N n) (hn : k ≤ n) (hl : EvenL n (fun q => L (std I n N q))) (he : AppliedTo k (L (std I n N 0)) (decE I X k N n) w e w') : DecodedTo I L X k N n w e w'
end Go.Proofs.Ytphddcbkjikgfaa
namespace Go.Proofs.Ytphddcbkjikgfaa
open Go.RowKit

/-- Are all of one code word? -/
def FitL (I : Nat → Int) (L : Nat → Nat) (X : Nat → List Int) (k N n : Nat) : Prop := ∀ q, q < n → ∀ c, c < L (std I n N 0) → decE I X k N n (nth I n N q) c = co (X (std I n N q)) c
/-- What Fits answers. -/
inductive FittedTo (I : Nat → Int) (L : Nat → Nat) (X : Nat → List Int) (k N n : Nat) (w : World) (e : Ending) (w' : World) : Prop
  | index (h : ¬ GoodIx I N n) (he : e = .returned (.tuple #[.bool false, .int .i64 62])) (hb : Below w.heap.size w w') : FittedTo I L X k N n w e w'
  | few (h : GoodIx I N n) (hn : n < k) (he : e = .returned (.tuple #[.bool false, .int .i64 63])) (hb : Below w.heap.size w w') : FittedTo I L X k N n w e w'
  | length (h : GoodIx I N n) (hn : k ≤ n) (hl : ¬ EvenL n (fun q => L (std I n N q))) (he : e = .returned (.tuple #[.bool false, .int .i64 61])) (hb : Below w.heap.size w w') : FittedTo I L X k N n w e w'
  | good (h : GoodIx I N n) (hn : k ≤ n) (hl : EvenL n (fun q => L (std I n N q))) (v : Bool) (hv1 : v = true → FitL I L X k N n) (hv2 : v = false → ¬ FitL I L X k N n) (he : e = .returned (.tuple #[.bool v, .int .i64 0])) (hb : Below w.heap.size w w') : FittedTo I L X k N n w e w'
theorem ret_good {v : Bool} {z : Int} {e : Ending} (h : e = .returned (.tuple #[.bool v, .int .i64 z])) : e = .returned (.tuple #[.bool v, .int .i64 z]) := h
end Go.Proofs.Ytphddcbkjikgfaa
