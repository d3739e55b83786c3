/-
  Own text: a call that comes in; law TimerComes, put together.
-/
import Derived.Test.YthkckgdhaihmoaaTmL
import Derived.Test.YthkckgdhaihmoaaTmO
namespace Go.Proofs.Ythkckgdhaihmoaa
open Go.ChangeShapes Go.WideShapes Go.ChangeAt Go.RowKit Go.Deep

theorem array3 {α : Type} {cs : Array α} (h : cs.size = 3) : ∃ c0 c1 c2, cs = #[c0, c1, c2] := by
  obtain ⟨l⟩ := cs
  match l, h with
  | [c0, c1, c2], _ => exact ⟨c0, c1, c2, rfl⟩
set_option maxRecDepth 100000 in
theorem op_arg {H : Type} {enc : TypeId × Value → H} {W : World} {base : Nat} {v : Value} {d : DataW H} {ps : List MemPlace} (hval : Value.okWide Try.prog W .any base 44 v) (h : DataW.Trod enc Try.prog W 0 (fun _ => true) true 44 v d ps) :
    ∃ x y z : Int, v = .agg #[.int .i64 x, .int .i64 y, .int .i64 z] := by
  unfold Value.okWide at hval
  rw [Try.underlying44] at hval
  obtain ⟨cs, rfl, hs, _⟩ := hval
  have ce : Try.prog.cellsOf 44 = 3 := by kernel_rfl
  have ci : Try.prog.cellsOf 3 = 1 := by kernel_rfl
  have cj : Try.prog.cellsOf 2 = 1 := by kernel_rfl
  rw [ce] at hs
  obtain ⟨c0, c1, c2, rfl⟩ := array3 hs
  obtain ⟨fuel, hf⟩ := h
  obtain ⟨xs, k, _, _, _, hxl, hf⟩ := DataW.trod_struct Try.underlying44 hf
  match xs, hxl with
  | [y0, y1, y2], _ =>
    have g0 := hf 0 _ rfl
    have g1 := hf 1 _ rfl
    have g2 := hf 2 _ rfl
    simp [ci, cj, Value.cells] at g0 g1 g2
    obtain ⟨z0, e0, _⟩ := DataW.trod_int Try.underlying3 g0
    obtain ⟨z1, e1, _⟩ := DataW.trod_int Try.underlying3 g1
    obtain ⟨z2, e2, _⟩ := DataW.trod_int Try.underlying2 g2
    simp at e0 e1 e2
    subst e0 e1 e2
    exact ⟨z0, z1, z2, rfl⟩
theorem comes_any (a : Option Addr) (n c : Nat) (k t : Int) (a2 : Option Addr) (n2 c2 : Nat) (P : Nat → Int) (w : World) (hp : n ≤ 80 → ∃ K N V, Ops w a n K N V) (hi : Ints11 w a2 n2 P) :
    Calls Try.prog 13 #[.slice a n c, .int .i64 k, .int .i64 t, .slice a2 n2 c2] w (Yes11 w) := by
  by_cases h : 80 < n
  · exact comes_skip a n c h k t a2 n2 c2 w
  · obtain ⟨K, N, V, ho⟩ := hp (by omega)
    exact comes_go a n c (by omega) K N V k t a2 n2 c2 P w ho hi
set_option maxRecDepth 100000 in
theorem comes11_walk (a : Option Addr) (n c : Nat) (x k t : Int) (a2 : Option Addr) (n2 c2 : Nat) (zs : List Int) (w : World) (hp : n ≤ 80 → ∃ K N V, Ops w a n K N V) (hi : IsRow .i64 w a2 n2 c2 zs) :
    Calls Try.prog 6 #[.slice a n c, .agg #[.int .i64 x, .int .i64 k, .int .i64 t], .slice a2 n2 c2] w (Yes11 w) := by
  obtain ⟨W, hW⟩ : ∃ W, W = w.alloc (.cells #[.int .i64 x, .int .i64 k, .int .i64 t] 44) := ⟨_, rfl⟩
  have hb : Below w.heap.size w W := by rw [hW]; exact (Below.refl _ _).alloc (Nat.le_refl _) _
  have hx : OBx W w.heap.size x k t := by rw [hW]; exact Go.Deep.blk_alloc_new w _
  have HALL : Hid (∀ w', Below W.heap.size W w' → w'.cell? ⟨w.heap.size, 1, none⟩ = some (.int .i64 k) ∧ w'.cell? ⟨w.heap.size, 2, none⟩ = some (.int .i64 t) ∧ Calls Try.prog 13 #[.slice a n c, .int .i64 k, .int .i64 t, .slice a2 n2 c2] w' (Yes11 w')) := Lib.hid (fun w' h => by
    have hlt : w.heap.size < W.heap.size := by rw [hW]; simp
    have hx' : OBx w' w.heap.size x k t := (h.block _ hlt).trans hx
    have hbb : Below w.heap.size w w' := hb.trans (h.mono (Nat.le_of_lt hlt))
    refine ⟨hx'.cells.2.1, hx'.cells.2.2, comes_any a n c k t a2 n2 c2 (fun i => zs.getD i 0) w' (fun hn => ?_) ((isrow_ints11 hi).below hbb (Nat.le_refl _))⟩
    obtain ⟨K, N, V, ho⟩ := hp hn
    exact ⟨K, N, V, ho.below hbb (Nat.le_refl _)⟩)
  have HB := Lib.hid hb
  have HW := Lib.hid hW
  clear hp hi hW hb hx
  go_enter Try.func6, Try.ntmps6
  go_upto_region 1 with fail
  rw [← HW.out]
  go_wp2_with (first
    | (go_at_call 7; (refine (awake11_any _).mono ?_); rintro e w1 ⟨rfl, hb1⟩; have HB1 := Lib.hid hb1; obtain ⟨d1, d2, hcc⟩ := HALL.out w1 hb1; have CC := Lib.hid hcc; clear hb1 hcc)
    | (go_at_call 13; (with_reducible refine (CC.out).mono ?_); rintro e w2 ⟨rfl, hb2⟩; have HB2 := Lib.hid hb2; clear hb2)
    | fail)
  go_ret
  exact ⟨rfl, HB.out.trans ((HB1.out.trans (HB2.out.mono HB1.out.size)).mono HB.out.size)⟩
end Go.Proofs.Ythkckgdhaihmoaa
