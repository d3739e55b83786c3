/-
  Own text: the document's value of a polynomial: walked.
-/
import Derived.Test.YtbiaenkhhbgbcaaRefB
namespace Go.Proofs.Ytbiaenkhhbgbcaa
open Go.RowKit

/-- A list's value at x. -/
def evL (x : Nat) (l : List Int) : Nat := ev x (co l) l.length
theorem evL_lt {x : Nat} {l : List Int} (h : By l) : evL x l < 256 := ev_lt _ _ h.lt _
theorem evL_sup {x : Nat} {l : List Int} {N : Nat} (h : Sup (co l) N) : evL x l = ev x (co l) N := ev_any (co_sup l) h
theorem evL_same {x : Nat} {l m : List Int} (h : ∀ i, co l i = co m i) : evL x l = evL x m := by
  have e : co l = co m := funext h
  rw [evL_sup (N := max l.length m.length) ((co_sup l).mono (Nat.le_max_left _ _)), evL_sup (l := m) (N := max l.length m.length) ((co_sup m).mono (Nat.le_max_right _ _)), e]
set_option maxRecDepth 100000 in
theorem reval_any (a : Option Addr) (n c : Nat) (l : List Int) (x : Nat) (hx : x < 256) (w : World) (hl : Bytes w a n l) :
    Calls Try.prog 22 #[.slice a n c, .int .u8 x] w fun e w' => e = .returned (.int .u8 (evL x l)) ∧ w = w' := by
  have bl : By l := hl.range
  have hm := hl.max
  have he := ev_powers x n (co l) bl.lt
  rw [show ev x (co l) n = evL x l by unfold evL; rw [hl.size]] at he
  have HL := Lib.hid hl
  have HBL := Lib.hid bl
  have HE := Lib.hid he
  have hxl : ∀ k, xs (fun i => mu (co l i) (pwr x i)) k < 256 := fun k => xs_lt _ (fun _ => mu_lt _ _) k
  have HXL := Lib.hid hxl
  clear hl bl he hxl
  generalize hF : (fun i => mu (co l i) (pwr x i)) = F at *
  have HF := Lib.hid hF
  clear hF
  go_enter Try.func22, Try.ntmps22
  go_wp2
  go_loop [5, 6, 7] (fun s p i => ∃ k : Nat, k ≤ n ∧ i = .int .i64 k ∧ s = .int .u8 (xs F k) ∧ p = .int .u8 (pwr x k)) (fun _ _ i => n - (intOf i).toNat)
  case atStart => exact ⟨0, by omega, rfl, rfl, rfl⟩
  case round =>
    obtain ⟨k, hk, rfl, rfl, rfl⟩ := hrel
    by_cases hlt : k < n
    · obtain ⟨b, off, rfl, ck⟩ : ∃ b off, a = some ⟨b, off, none⟩ ∧ w.cell? ⟨b, off + k, none⟩ = some (.int .u8 (l.getD k 0)) := by
        rcases HL.out.cell with h | ⟨_, b, off, e, _, h⟩
        · omega
        · exact ⟨b, off, e, h k hlt⟩
      rw [HBL.out.get k] at ck
      have l1 := HBL.out.lt k
      have l2 := pwr_lt x k
      have hs : xs F (k + 1) = xs F k ^^^ gm (co l k) (pwr x k) := by
        show xs F k ^^^ F k = _
        rw [← HF.out]
        show _ ^^^ mu (co l k) (pwr x k) = _
        rw [mu_eq l1 l2]
      have hp : pwr x (k + 1) = gm (pwr x k) x := by show mu _ _ = _; rw [mu_eq l2 hx]
      have HS := Lib.hid hs
      have HP := Lib.hid hp
      have hr := HXL.out k
      generalize co l k = u at *
      generalize pwr x k = v at *
      generalize xs F k = r at *
      have hg := gm_lt (a := u) (b := v) (by omega) (by omega)
      have CM := Lib.hid (fun (w : World) => rmul_any u v (by omega) (by omega) w)
      have CP := Lib.hid (fun (w : World) => rmul_any v x (by omega) (by omega) w)
      have bx := bits_u8 r (gm u v) hr hg
      generalize gm u v = g at *
      generalize gm v x = g2 at *
      clear hs hp
      have k0 : (0 : Int) ≤ k := by omega
      have k1 : (k : Int) < n := by omega
      go_wp2_with (first
        | (go_at_call 23; (with_reducible refine (CM.out _).mono ?_); rintro e w' ⟨rfl, rfl⟩)
        | (go_at_call 23; (with_reducible refine (CP.out _).mono ?_); rintro e w' ⟨rfl, rfl⟩))
      go_round
      case rel => exact ⟨k + 1, by omega, by go_num, by rw [HS.out], by rw [HP.out]⟩
      case measure => simp [intOf]; omega
    · obtain rfl : k = n := by omega
      rw [HE.out]
      go_wp2
      go_ret
      exact ⟨rfl, rfl⟩
end Go.Proofs.Ytbiaenkhhbgbcaa
