/-
  Own text: for how many ticks is waited; Stop, New, Wait, walked.
-/
import Derived.Test.YtnffngbkidehfaaNkQ
import Derived.Test.YtnffngbkidehfaaGrow
namespace Go.Proofs.Ytnffngbkidehfaa.Nk
open Go.RowKit

theorem again_any (h : Int) (n : Nat) (h1 : 1 ≤ h) (h2 : h ≤ 4096) (hn : n ≤ 5) (w : World) :
    Calls Try.prog 64 #[.int .i64 h, .int .i64 (n : Int)] w fun e w' => e = .returned (.int .i64 (agn h n)) ∧ w' = w := by
  unfold agn
  rcases (show n = 0 ∨ n = 1 ∨ n = 2 ∨ n = 3 ∨ n = 4 ∨ n = 5 by omega) with rfl | rfl | rfl | rfl | rfl | rfl
  all_goals
    clear hn
    go_enter Try.func64, Try.ntmps64
    go_wp2
    all_goals go_ret
    all_goals exact ⟨ret_int (by omega), rfl⟩
section
variable {w w1 w2 : World} {b s m C asked full c : Nat} {A : Option Addr} {q q' : Qn} {S S' : Int → Bool} {T T' : Int → Nat}
/-- The set has moved on. -/
theorem NB.set_to (h : NB w b s m A C q asked full c S T) (ht : QTo w s A q' w1) : ∃ A' C', NB w1 b s m A' C' q' asked full c S T ∧ Moved w (A.map Addr.block) (A'.map Addr.block) ∧ NFr b s m (A.map Addr.block) w w1 := by
  obtain ⟨A', C', h1, h2, h3⟩ := ht
  obtain ⟨a1, a2, a3, a4⟩ := h.apart
  refine ⟨A', C', ⟨h.blk.keep (h3.block b h.blk.lt a1 (fun e => (a4 b e.symm).1 rfl)), h1, h.map.keep (h3.block m h.map.lt (fun e => a3 e.symm) (fun e => (a4 m e.symm).2.2 rfl))⟩, h2, NFr.of_set h3⟩
/-- The map has moved on. -/
theorem NB.map_to {c' : Nat} (h : NB w b s m A C q asked full c S T) (hm : TMap w1 m c' S' T') (hg : w.grownBy w1 (some m)) : NB w1 b s m A C q asked full c' S' T' ∧ NFr b s m (A.map Addr.block) w w1 := by
  obtain ⟨a1, a2, a3, a4⟩ := h.apart
  exact ⟨⟨h.blk.keep (hg.block b h.blk.lt (fun e => a2 (Option.some.inj e))), h.set.keep (hg.block s h.set.blk.lt (fun e => a3 (Option.some.inj e))) (fun g hg' => hg.block g (h.set.lt g hg') (fun e => (a4 g hg').2.2 (Option.some.inj e))), hm⟩, NFr.of_map hg⟩
theorem NB.setAsked (h : NB w b s m A C q asked full c S T) (n : Nat) : NB (w.setCell ⟨b, 2, none⟩ (.int .i64 (n : Int))) b s m A C q n full c S T ∧ NFr b s m (A.map Addr.block) w (w.setCell ⟨b, 2, none⟩ (.int .i64 (n : Int))) := by
  obtain ⟨a1, a2, a3, a4⟩ := h.apart
  have hk : ∀ k, k ≠ b → (w.setCell ⟨b, 2, none⟩ (.int .i64 (n : Int))).heap[k]? = w.heap[k]? := fun k hk => Below.heap_setCell w ⟨b, 2, none⟩ _ k hk
  exact ⟨⟨h.blk.setAsked n, h.set.keep (hk s (fun e => a1 e.symm)) (fun g hg => hk g (a4 g hg).1), h.map.keep (hk m (fun e => a2 e.symm))⟩, NFr.setIn 2 w _⟩
theorem NB.setFull (h : NB w b s m A C q asked full c S T) (n : Nat) : NB (w.setCell ⟨b, 3, none⟩ (.int .i64 (n : Int))) b s m A C q asked n c S T ∧ NFr b s m (A.map Addr.block) w (w.setCell ⟨b, 3, none⟩ (.int .i64 (n : Int))) := by
  obtain ⟨a1, a2, a3, a4⟩ := h.apart
  have hk : ∀ k, k ≠ b → (w.setCell ⟨b, 3, none⟩ (.int .i64 (n : Int))).heap[k]? = w.heap[k]? := fun k hk => Below.heap_setCell w ⟨b, 3, none⟩ _ k hk
  exact ⟨⟨h.blk.setFull n, h.set.keep (hk s (fun e => a1 e.symm)) (fun g hg => hk g (a4 g hg).1), h.map.keep (hk m (fun e => a2 e.symm))⟩, NFr.setIn 3 w _⟩
end
theorem Nl.stop_count (N : Nl) (k : Int) : (if N.has k = true then N.q.l.length - 1 else N.q.l.length) = (N.stop k).q.l.length := by
  unfold Nl.stop Qn.stop Nl.has hasK
  dsimp only
  rw [cutK_length]
  by_cases h : fidx k N.q.l < N.q.l.length
  · rw [if_pos h, if_pos (by simpa using h)]
  · rw [if_neg h, if_neg (by simpa using h)]
set_option maxRecDepth 100000 in
theorem nstop_any (k : Int) (hk : 0 ≤ k ∧ k ≤ 4294967295) (b s m : Nat) (A : Option Addr) (C j : Nat) (N : Nl) (hf : N.fit j) (w : World) (h : NS w b s m A C N) :
    Calls Try.prog 28 #[.pointer (some ⟨b, 0, none⟩), .int .u32 k] w fun e w' => e = .returned (.tuple #[]) ∧ Hid (NTo w b s m A (N.stop k) w') := by
  have hn : N.q.l.length ≤ 1000 := by have := hf.q.len; have := hf.room; omega
  obtain ⟨c0, c1, c2, c3⟩ := h.blk.cells
  have CS := Lib.hid (stop_any k s N.q A C hn w h.set)
  have HT : Hid (∀ w1, QTo w s A (N.q.stop k) w1 → w1.cell? ⟨b, 1, none⟩ = some (.map (some m)) ∧ TMap w1 m N.q.l.length N.has N.t ∧ ∀ w2, TMap w2 m (if N.has k = true then N.q.l.length - 1 else N.q.l.length) (fun y => N.has y && !decide (y = k)) N.t → w1.grownBy w2 (some m) → NTo w b s m A (N.stop k) w2) := Lib.hid (fun w1 ht => by
    obtain ⟨A', C', h1, h2, h3⟩ := NB.set_to h ht
    refine ⟨h1.blk.cells.2.1, h1.map, fun w2 hm hg => ?_⟩
    obtain ⟨h4, h5⟩ := h1.map_to hm hg
    refine ⟨A', C', ⟨h4.blk, h4.set, h4.map.congr (N.stop_count k) (fun z _ => ?_) (fun _ _ _ => rfl)⟩, h2, h3.then_ h2 h5⟩
    rw [Nl.stop_strike hf, Nl.has_strike])
  have HK := Lib.hid hk
  clear h hf hn
  generalize hasK k N.q.l = z at *
  go_enter Try.func28, Try.ntmps28
  go_wp2_with (first
    | (go_at_call 65; (with_reducible refine (CS.out).mono ?_); rintro e w1 ⟨rfl, ht⟩; obtain ⟨d1, hm1, hfin⟩ := HT.out w1 ht.out; have HM1 := Lib.hid hm1; have HF1 := Lib.hid hfin; clear c0 c1 c2 c3 hm1 hfin ht)
    | ((with_reducible refine wpList_tdrop rfl (.tmp 13) (.tmp 14) rfl m N.q.l.length N.has N.t rfl HM1.out k HK.out rfl ?_); intro w2 HM2 HG2)
    | fail)
  go_end0
  exact ⟨rfl, Lib.hid (HF1.out w2 HM2.out HG2.out)⟩
end Go.Proofs.Ytnffngbkidehfaa.Nk
