/-
  Own text: which of two items comes first; where an item belongs among others, walked.
-/
import Derived.Test.YtagcpnelobidnaaPqM
import Derived.BigQuiet
namespace Go.Proofs.Ytagcpnelobidnaa
open Go.RowKit

/-- The code's answer on two numbers. -/
def cmpI (x y : Int) : Int := if x < y then -1 else if y < x then 1 else 0
def cmpT (a b : It) : Int := if cmpI a.rank b.rank = 0 then cmpI a.num b.num else cmpI a.rank b.rank
theorem cmpI_any (x y : Int) (w : World) :
    Calls Try.prog 33 #[.int .i64 x, .int .i64 y] w fun e w' => e = .returned (.int .i64 (cmpI x y)) ∧ w' = w := by
  unfold cmpI
  by_cases h1 : x < y
  · rw [if_pos h1]
    go_enter Try.func33, Try.ntmps33
    go_wp2
    go_ret
    exact ⟨rfl, rfl⟩
  · rw [if_neg h1]
    by_cases h2 : y < x
    · rw [if_pos h2]
      go_enter Try.func33, Try.ntmps33
      go_wp2
      go_ret
      exact ⟨rfl, rfl⟩
    · rw [if_neg h2]
      go_enter Try.func33, Try.ntmps33
      go_wp2
      go_ret
      exact ⟨rfl, rfl⟩
theorem or_any (x y : Int) (b : Nat) (w : World) (h0 : w.cell? ⟨b, 0, none⟩ = some (.int .i64 x)) (h1 : w.cell? ⟨b, 1, none⟩ = some (.int .i64 y)) :
    Calls Try.prog 32 #[.slice (some ⟨b, 0, none⟩) 2 2] w fun e w' => e = .returned (.int .i64 (if x = 0 then y else x)) ∧ w' = w := by
  by_cases hx : x = 0
  · subst hx
    rw [if_pos rfl]
    by_cases hy : y = 0
    · subst hy
      go_enter Try.func32, Try.ntmps32
      go_wp2
      refine wp_loop_rounds 3 ?_
      iterate 3 (rw [rounds_succ]; go_wp2)
      go_ret
      exact ⟨rfl, rfl⟩
    · go_enter Try.func32, Try.ntmps32
      go_wp2
      refine wp_loop_rounds 2 ?_
      iterate 2 (rw [rounds_succ]; go_wp2)
      go_ret
      exact ⟨rfl, rfl⟩
  · rw [if_neg hx]
    go_enter Try.func32, Try.ntmps32
    go_wp2
    refine wp_loop_rounds 1 ?_
    rw [rounds_succ]
    go_wp2
    go_ret
    exact ⟨rfl, rfl⟩
def It.val (x : It) : Value := .agg #[.int .i64 x.rank, .int .i64 x.num, .int .i64 x.v]
theorem or_new (x y z : Int) (hz : (if x = 0 then y else x) = z) (W w : World) (b : Nat) (hb : b = W.heap.size) (hw : w = (W.alloc (.cells #[.int .i64 x, .int .i64 y] 3)).drew) :
    Calls Try.prog 32 #[.slice (some ⟨b, 0, none⟩) 2 2] w fun e w' => e = .returned (.int .i64 z) ∧ w' = w := by
  subst hw hb hz
  have hB : (W.alloc (.cells #[.int .i64 x, .int .i64 y] 3)).drew.heap[W.heap.size]? = _ := Go.Deep.blk_alloc_new W (.cells #[.int .i64 x, .int .i64 y] 3)
  exact or_any x y _ _ (by simp only [World.cell?, hB]; rfl) (by simp only [World.cell?, hB]; rfl)
set_option maxRecDepth 100000 in
theorem compare_any (a b : It) (w : World) :
    Calls Try.prog 20 #[a.val, b.val] w fun e w' => e = .returned (.int .i64 (cmpT a b)) ∧ Below w.heap.size w w' := by
  unfold It.val cmpT
  obtain ⟨x, hx⟩ : ∃ x, x = cmpI a.rank b.rank := ⟨_, rfl⟩
  obtain ⟨y, hy⟩ : ∃ y, y = cmpI a.num b.num := ⟨_, rfl⟩
  obtain ⟨z, hz⟩ : ∃ z, z = if x = 0 then y else x := ⟨_, rfl⟩
  have C1 := Lib.hid (fun w => cmpI_any a.rank b.rank w)
  have C2 := Lib.hid (fun w => cmpI_any a.num b.num w)
  rw [← hx] at C1
  rw [← hy] at C2
  rw [← hx, ← hy, ← hz]
  have HZ := Lib.hid hz.symm
  clear hx hy hz
  generalize a.rank = ar at *
  generalize b.rank = br at *
  generalize a.num = an at *
  generalize b.num = bn at *
  generalize a.v = av at *
  generalize b.v = bv at *
  go_enter Try.func20, Try.ntmps20
  go_upto_region 1 with fail
  obtain ⟨W, hW⟩ : ∃ W, W = (w.alloc (.cells #[.int .i64 ar, .int .i64 an, .int .i64 av] 62)).alloc (.cells #[.int .i64 br, .int .i64 bn, .int .i64 bv] 62) := ⟨_, rfl⟩
  rw [← hW]
  have HB : Hid (Below w.heap.size w W) := Lib.hid (by rw [hW]; exact ((Below.refl w.heap.size w).alloc (Nat.le_refl _) _).alloc (by simp) _)
  have HS : Hid (∀ w', Below W.heap.size W w' → w'.cell? ⟨w.heap.size, 0, none⟩ = some (.int .i64 ar) ∧ w'.cell? ⟨w.heap.size, 1, none⟩ = some (.int .i64 an) ∧ w'.cell? ⟨w.heap.size + 1, 0, none⟩ = some (.int .i64 br) ∧ w'.cell? ⟨w.heap.size + 1, 1, none⟩ = some (.int .i64 bn)) := Lib.hid (fun w' h => by
    have hs : W.heap.size = w.heap.size + 2 := by rw [hW]; simp
    have l0 : w.heap.size < W.heap.size := by omega
    have l1 : w.heap.size + 1 < W.heap.size := by omega
    refine ⟨(h.cell (p := ⟨w.heap.size, 0, none⟩) l0).trans ?_, (h.cell (p := ⟨w.heap.size, 1, none⟩) l0).trans ?_, (h.cell (p := ⟨w.heap.size + 1, 0, none⟩) l1).trans ?_, (h.cell (p := ⟨w.heap.size + 1, 1, none⟩) l1).trans ?_⟩ <;> rw [hW] <;> simp [go_sem])
  have HA : Hid (∀ o, Below W.heap.size W ((W.alloc o).drew)) := Lib.hid (fun o => ((Below.refl W.heap.size W).alloc (Nat.le_refl _) o).drew)
  have HL : Hid (w.heap.size ≤ W.heap.size) := Lib.hid (by rw [hW]; simp <;> omega)
  clear hW
  go_region_held3 (fun w' => w'.cell? ⟨w.heap.size, 0, none⟩ = some (.int .i64 ar) ∧ w'.cell? ⟨w.heap.size, 1, none⟩ = some (.int .i64 an) ∧ w'.cell? ⟨w.heap.size + 1, 0, none⟩ = some (.int .i64 br) ∧ w'.cell? ⟨w.heap.size + 1, 1, none⟩ = some (.int .i64 bn))
    (first | exact HS.out _ (Below.refl _ _) | exact HS.out _ ((Below.refl _ _).drew) | exact HS.out _ (HA.out _))
    (first
      | (go_at_call 33; (with_reducible refine (C1.out _).mono ?_); rintro e w1 ⟨rfl, rfl⟩)
      | (go_at_call 33; (with_reducible refine (C2.out _).mono ?_); rintro e w1 ⟨rfl, rfl⟩)
      | (go_at_call 32; (with_reducible refine (or_new x y z HZ.out W _ _ rfl rfl).mono ?_); rintro e w1 ⟨rfl, rfl⟩)
      | fail)
  all_goals
    go_wp2
    go_ret
    exact ⟨rfl, HB.out.trans ((HA.out _).mono HL.out)⟩
end Go.Proofs.Ytagcpnelobidnaa
