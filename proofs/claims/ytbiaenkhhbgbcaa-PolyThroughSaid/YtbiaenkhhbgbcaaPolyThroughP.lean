/-
  PROVED HERE: for every input the law 'PolyThrough' returns true and leaves its arguments as they were. No condition.
  (The frame goes as the program's frames for slices of integers; a slice of structs of two is opened by the library's law.)
-/
import Derived.Test.YtbiaenkhhbgbcaaRows
import Derived.WalkKit
import Derived.ProofKit
import Derived.OpenShut
import Derived.Test.YtbiaenkhhbgbcaaPost
import Derived.Test.YtbiaenkhhbgbcaaThrL
import Derived.Deep.SlicePairs
import Derived.ShutString
import Derived.ChangeOld
import Derived.Below
namespace Go.Proofs.Ytbiaenkhhbgbcaa.polyThrough
open Go.ChangeShapes Go.WideShapes Go.ChangeAt Go.RowKit Go.Deep
set_option linter.unusedVariables false

theorem own : ownKnob Try.prog.godebug = none := by kernel_rfl
theorem laidOut : laidOutB Try.prog = true := by kernel_rfl

theorem pts_of {w : World} {a : Addr} {len m : Nat} {V0 V1 : Nat → Value} (hl : len ≤ m) (hm : len ≤ 40)
    (hc : ∀ i, i < m → w.cell? (a.add (i * 2)) = some (V0 i) ∧ w.cell? (a.add (i * 2 + 1)) = some (V1 i) ∧ (∃ z : Int, V0 i = .int .u8 z ∧ (Lit.int .u8 z).wf = true) ∧ ∃ z : Int, V1 i = .int .u8 z ∧ (Lit.int .u8 z).wf = true) :
    ∃ X Y, Pts w (some a) len X Y := by
  have hX : ∀ i : Nat, ∃ x y : Nat, i < len → x < 256 ∧ y < 256 ∧ w.cell? (a.add (i * 2)) = some (.int .u8 x) ∧ w.cell? (a.add (i * 2 + 1)) = some (.int .u8 y) := fun i => by
    by_cases h : i < len
    · obtain ⟨h1, h2, ⟨z, hz, hw⟩, ⟨z', hz', hw'⟩⟩ := hc i (by omega)
      obtain ⟨x, rfl, hx⟩ := u8_of hw
      obtain ⟨y, rfl, hy⟩ := u8_of hw'
      exact ⟨x, y, fun _ => ⟨hx, hy, by rw [h1, hz], by rw [h2, hz']⟩⟩
    · exact ⟨0, 0, fun e => absurd e h⟩
  obtain ⟨X, hX⟩ := Classical.axiomOfChoice hX
  obtain ⟨Y, hXY⟩ := Classical.axiomOfChoice hX
  refine ⟨X, Y, by omega, fun i h => (hXY i h).1, fun i h => (hXY i h).2.1, ?_⟩
  by_cases h0 : len = 0
  · exact .inl h0
  · obtain ⟨b, off, spot⟩ := a
    have c0 := (hXY 0 (by omega)).2.2.1
    have : spot = none := by simpa [Addr.add] using World.cell?_spot c0
    subst this
    have key : ∀ k, (⟨b, off, none⟩ : Addr).add k = ⟨b, off + k, none⟩ := fun k => by unfold Addr.add; split <;> simp_all
    refine .inr ⟨b, off, rfl, cell_lt (o := off + 0) (by rw [← key]; exact c0), fun i hi => ?_⟩
    have h := (hXY i hi).2.2
    rw [key, key] at h
    exact h

set_option maxRecDepth 100000 in
theorem lifted (os : Os) (started : os.Started) (H : Type) (enc : TypeId × Value → H) :
    ReturnsInHanded {} Try.checked os 6 .any (Rows.polyThroughSpec.pre6 enc Try.prog Try.f6 Rows.polyThroughRow.domain false) (Rows.polyThroughSpec.post enc Try.prog Try.f6 false true false false) := by
  refine returnsInHanded_of_change (C := Try.checked) own started (by kernel_rfl) Try.func6
    (ChangeSpec.witness6 (enc := enc) (C := Try.checked) false ⟨#[], #[.slice none 0 0], []⟩ 8 (by kernel_rfl) (by kernel_rfl) (by kernel_rfl) (by kernel_rfl)) ?_
  intro W base args ds gs before hval0 hW hcnd _
  have hval : ∀ (j : Nat) t v, Try.f6.params[j]? = some t → args[j]? = some v → Value.okWide Try.prog W .any base t v := hval0
  have hW' := hW
  obtain ⟨p, q, hA0, hV, rfl, hfz, hnd⟩ := hW
  have hA : DataW.TrodAll enc Try.prog W 0 (fun _ => true) true Try.f6.params.toList args.toList ds p := hA0
  rw [Try.params6] at hA hval
  obtain ⟨v0, vs0, d0, ds0, p0, q0, hargs, rfl, rfl, h0, r0⟩ := trodAll_cons hA
  obtain ⟨rfl, rfl, rfl⟩ := trodAll_nil r0
  obtain rfl : args = #[v0] := by cases args; simp_all
  obtain ⟨rfl, rfl⟩ := trodVars_none hV
  obtain ⟨a0, len0, cap0, rfl⟩ := okWide_slice Try.underlying39 (hval 0 39 v0 rfl rfl)
  have k0 := h0
  have lt0 : ∀ x ∈ p0, x.block < W.heap.size := by obtain ⟨m, hm⟩ := k0; exact DataW.trod_lt m _ _ _ hm
  obtain ⟨w0, w1⟩ : len0 ≤ 9223372036854775807 ∧ (len0 ≤ 40 → ∃ X Y, Pts W a0 len0 X Y) := by
    obtain ⟨fuel, hf⟩ := h0
    rcases open_slice_pairs Try.underlying39 Try.underlying43 (by kernel_rfl) rfl rfl (by kernel_rfl) (by kernel_rfl) hf with ⟨hcs, _⟩ | ⟨x, l, c, m, n, V0, V1, D0, D1, P0, P1, hcs, _, hl, hm, hmm, _, hx⟩
    · simp [Value.cells] at hcs
      obtain ⟨rfl, rfl, rfl⟩ := hcs
      exact ⟨by omega, fun _ => ⟨fun _ => 0, fun _ => 0, by omega, fun i h => by omega, fun i h => by omega, .inl rfl⟩⟩
    · simp [Value.cells] at hcs
      obtain ⟨rfl, rfl, rfl⟩ := hcs
      refine ⟨by unfold maxLen at hm; omega, fun h40 => pts_of (m := m) (V0 := V0) (V1 := V1) (by rw [hmm]; split <;> omega) h40 (fun i hi => ?_)⟩
      obtain ⟨e1, e2, e3, e4⟩ := hx i hi
      obtain ⟨z, hz, _, hzw⟩ := DataW.trod_int Try.underlying5 e3
      obtain ⟨z', hz', _, hzw'⟩ := DataW.trod_int Try.underlying5 e4
      exact ⟨e1, e2, ⟨z, by simpa using hz, hzw⟩, ⟨z', by simpa using hz', hzw'⟩⟩
  clear hA0 hval0
  refine (thru_walk a0 len0 cap0 W w0 w1).mono fun e W' ⟨he, bel⟩ => ?_
  subst he
  exact ⟨_, rfl, _, _, _, [], _, [], hW', trodAll_mk1 (shut_bool Try.underlying4 _), (trodAll_cons_mk (Below.trod laidOut (by kernel_rfl) (of_decide_eq_true (by kernel_rfl)) k0 bel lt0) trodAll_mk0), rfl, bel.frame _, fun h => by cases h⟩

theorem over : Rows.polyThroughRow.holds Try.pinned (OpenSpec.ofChange Rows.polyThroughSpec) :=
  OpenClaim.holds_of_wide 6 Try.f6 rfl rfl rfl rfl rfl rfl rfl ⟨rfl, rfl, rfl, rfl, rfl⟩ rfl rfl rfl rfl rfl (by kernel_rfl) Try.func6 (by kernel_rfl)
    (of_decide_eq_true (by kernel_rfl)) (by unfold Func.isWrapper; first | (rw [if_pos (by decide +kernel)]; kernel_rfl) | (rw [if_neg (by decide +kernel)]; exact ⟨rfl, rfl⟩))
    (fun os started H enc _ => lifted os started H enc)

theorem proved : Rows.PolyThroughSaid := over
#print axioms proved
end Go.Proofs.Ytbiaenkhhbgbcaa.polyThrough
