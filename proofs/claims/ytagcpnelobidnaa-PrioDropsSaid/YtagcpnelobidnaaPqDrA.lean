/-
  Own text: law PrioDrops: what goes by; plain facts.
-/
import Derived.Test.YtagcpnelobidnaaPqY
namespace Go.Proofs.Ytagcpnelobidnaa
open Go.RowKit

/-- When one is dropped, none that stays comes behind both the new one and the last one of before. -/
theorem drops_le {Q : Qn} {k : Nat} (h : Q.fit k) (r v : Int) (n : Nat) (hn : Q.l.length = n + 1) (y : It) (hy : y ∈ (Q.push r v).l) : y.rank ≤ r ∨ y.rank ≤ (itAt Q.l n).rank := by
  have hm : y ∈ Q.ins r v := by
    unfold Qn.push at hy
    split at hy
    · exact hy
    · exact (List.dropLast_subset _) hy
  rcases Q.ins_mem r v y hm with hq | rfl
  · right
    obtain ⟨i, hi, e⟩ := List.getElem_of_mem hq
    have hs := List.pairwise_iff_getElem.1 h.sorted
    have e2 : itAt Q.l n = Q.l[n] := by
      unfold itAt
      rw [List.getD_eq_getElem?_getD, List.getElem?_eq_getElem (by omega)]
      rfl
    rw [e2, ← e]
    by_cases hin : i = n
    · subst hin
      exact Int.le_refl _
    · have := hs i n hi (by omega) (by omega)
      unfold It.ahead at this
      omega
  · left
    exact Int.le_refl _
theorem itAt_mem {l : List It} {i : Nat} (h : i < l.length) : itAt l i ∈ l := by
  have := itAt_some h
  exact List.mem_of_getElem? this
set_option maxRecDepth 100000 in
theorem drops10_skip (room : Int) (a : Option Addr) (n c : Nat) (rk : Int) (h : room < 1 ∨ 40 < room ∨ 80 < n) (w : World) :
    Calls Try.prog 6 #[.int .i64 room, .slice a n c, .int .i64 rk] w (Yes10 w) := by
  have CP := Lib.hid (played10_skip room a n c h)
  obtain ⟨W, hW⟩ : ∃ W, W = (w.alloc (.cells #[.int .i64 rk] 3)).alloc (.cells #[.bool false] 4) := ⟨_, rfl⟩
  have hs : W.heap.size = w.heap.size + 2 := by rw [hW]; simp
  have hb : Below w.heap.size w W := by rw [hW]; exact ((Below.refl w.heap.size w).alloc (Nat.le_refl _) _).alloc (by simp) _
  have hx : Boxed W (w.heap.size + 1) 4 (.bool false) := by
    rw [hW]
    have := Boxed.new (w.alloc (.cells #[.int .i64 rk] 3)) 4 (.bool false)
    simpa using this
  have HALL : Hid (∀ w', Below W.heap.size W w' → Boxed w' (w.heap.size + 1) 4 (.bool false) ∧ Below w.heap.size w w') := Lib.hid (fun w' h => ⟨(h.block _ (by omega)).trans hx, hb.trans (h.mono (by omega))⟩)
  have HW := Lib.hid hW
  clear hW hs hb hx h
  go_enter Try.func6, Try.ntmps6
  go_upto_region 1 with fail
  rw [← HW.out]
  go_upto_region 4 with (first
    | (go_at_call 7; (refine (awake10_any _).mono ?_); rintro e w1 ⟨rfl, hb1⟩; have HB1 := Lib.hid hb1; clear hb1)
    | (go_at_call 8; (with_reducible refine (CP.out _).mono ?_); rintro e w2 ⟨rfl, hb⟩; have HB2 := Lib.hid (HB1.out.trans (hb.mono HB1.out.size)); clear hb)
    | fail)
  obtain ⟨W3, hW3⟩ : ∃ W3, W3 = w2.alloc (.cells #[.int .i64 room, .slice none 0 0] 27) := ⟨_, rfl⟩
  rw [← hW3]
  have hb3 : Below W.heap.size W W3 := by rw [hW3]; exact HB2.out.alloc HB2.out.size _
  obtain ⟨hr, hbB⟩ := HALL.out W3 hb3
  have cR := hr.cell
  have fR := hr.frozen
  have HR := Lib.hid hr
  have HBB := Lib.hid hbB
  clear hW3 hb3 hr hbB
  go_wp2
  have hc := (HR.out.set (.bool true)).cell
  refine bodyPost_ret (v := .bool true) (by simp [results, Try.results6, go_sem, hc]) rfl ?_
  exact ⟨rfl, HBB.out.setCell (p := ⟨w.heap.size + 1, 0, none⟩) (by show w.heap.size ≤ w.heap.size + 1; omega) _⟩
end Go.Proofs.Ytagcpnelobidnaa
