/-
  Own text: what the document's wide numbers answer (Of, plus, minus, less, Turn), walked.
-/
import Derived.Test.YtbbdkkjbcpkplaaWideM
import Derived.Test.YtbbdkkjbcpkplaaWordA
namespace Go.Proofs.Ytbbdkkjbcpkplaa
open Go.RowKit

theorem of_any (n : Int) (w : World) (hn : -9223372036854775808 ≤ n) (hn' : n ≤ 9223372036854775807) :
    Calls Try.prog 30 #[.int .i64 n] w fun e w' => e = .returned (wideV (decide (n < 0)) n.natAbs) ∧ Below w.heap.size w w' := by
  have L := limb_digits n.natAbs (by omega)
  by_cases h : n < 0
  · obtain ⟨x, hx⟩ : ∃ x : Nat, x = n.natAbs := ⟨_, rfl⟩
    have H : IntKind.u64.wrap (-IntKind.u64.wrap n) = x := by rw [IntKind.wrap_u64, IntKind.wrap_u64]; omega
    have hx2 : (x : Int) ≤ 9223372036854775808 := by omega
    have E : decide (n < 0) = true := by simp [h]
    rw [← hx] at L ⊢
    rw [E]
    have HL := Lib.hid L
    clear hx E L
    go_enter Try.func30, Try.ntmps30
    go_wp2
    refine wp_loop_rounds 5 ?_
    iterate 5 (rw [rounds_succ]; go_wp2)
    exact bodyPost_ret (v := wideV true x) (by simp [results, Try.results30, go_sem, HL.out]) rfl ⟨rfl, ((Below.refl _ _).alloc (by simp) _).alloc (by simp) _⟩
  · obtain ⟨x, rfl⟩ : ∃ x : Nat, n = x := ⟨n.natAbs, by omega⟩
    have H : IntKind.u64.wrap (x : Int) = x := by rw [IntKind.wrap_u64]; omega
    have E : decide ((x : Int) < 0) = false := by simp
    rw [E]
    rw [Int.natAbs_natCast] at L ⊢
    have HL := Lib.hid L
    clear E L
    go_enter Try.func30, Try.ntmps30
    go_wp2
    refine wp_loop_rounds 5 ?_
    iterate 5 (rw [rounds_succ]; go_wp2)
    exact bodyPost_ret (v := wideV false x) (by simp [results, Try.results30, go_sem, HL.out]) rfl ⟨rfl, ((Below.refl _ _).alloc (by simp) _).alloc (by simp) _⟩

theorem wide_row (w : World) (m : Bool) (x : Nat) : (w.alloc (.cells #[.bool m, .int .u64 (limb x 0), .int .u64 (limb x 1), .int .u64 (limb x 2), .int .u64 (limb x 3), .int .u64 (limb x 4), .int .u64 (limb x 5), .int .u64 (limb x 6), .int .u64 (limb x 7), .int .u64 (limb x 8)] 63)).rowIs w.heap.size 63 10 (wcell m (limb x)) :=
  World.rowIs_alloc w _ _ _ (by
    intro i hi
    match i, hi with
    | 0, _ => rfl
    | 1, _ => rfl
    | 2, _ => rfl
    | 3, _ => rfl
    | 4, _ => rfl
    | 5, _ => rfl
    | 6, _ => rfl
    | 7, _ => rfl
    | 8, _ => rfl
    | 9, _ => rfl
    | n + 10, h => simp at h; omega)
theorem wide_row0 (w : World) : (w.alloc (.cells #[.bool false, .int .u64 0, .int .u64 0, .int .u64 0, .int .u64 0, .int .u64 0, .int .u64 0, .int .u64 0, .int .u64 0, .int .u64 0] 63)).rowIs w.heap.size 63 10 (wcell false (fun _ => 0)) := by
  have h := wide_row w false 0
  have z : ∀ i, limb 0 i = 0 := fun i => limb_big 0 i (pow_pos' i)
  simp only [z] at h
  exact h.congr fun i _ => by cases i <;> simp [wcell, z]

theorem wide_row_2 (w : World) (c0 c2 : Array Value) (m : Bool) (x : Nat) : (((w.alloc (.cells c0 63)).alloc (.cells #[.bool m, .int .u64 (limb x 0), .int .u64 (limb x 1), .int .u64 (limb x 2), .int .u64 (limb x 3), .int .u64 (limb x 4), .int .u64 (limb x 5), .int .u64 (limb x 6), .int .u64 (limb x 7), .int .u64 (limb x 8)] 63)).alloc (.cells c2 63)).rowIs (w.heap.size + 1) 63 10 (wcell m (limb x)) := by
  have := wide_row (w.alloc (.cells c0 63)) m x
  simp only [World.size_alloc] at this
  exact this.alloc _
theorem wide_row_3 (w : World) (c0 c1 : Array Value) : (((w.alloc (.cells c0 63)).alloc (.cells c1 63)).alloc (.cells #[.bool false, .int .u64 0, .int .u64 0, .int .u64 0, .int .u64 0, .int .u64 0, .int .u64 0, .int .u64 0, .int .u64 0, .int .u64 0] 63)).rowIs (w.heap.size + 1 + 1) 63 10 (wcell false (fun _ => 0)) := by
  have := wide_row0 ((w.alloc (.cells c0 63)).alloc (.cells c1 63))
  simp only [World.size_alloc] at this
  exact this

theorem plus_any (m m' : Bool) (x y : Nat) (w : World) :
    Calls Try.prog 33 #[wideV m x, wideV m' y] w fun e w' => e = .returned (wideV m (x + y)) ∧ Below w.heap.size w w' := by
  go_enter Try.func33, Try.ntmps33
  go_wp2
  go_loopw [5, 6] (fun c i wr => ∃ k : Nat, k ≤ 9 ∧ i = .int .i64 k ∧ c = .int .u64 (carry x y k) ∧ wr.rowIs w.heap.size 63 10 (wcell m (fun j => if j < k then limb (x + y) j else limb x j)) ∧
      wr.rowIs (w.heap.size + 1) 63 10 (wcell m' (limb y)) ∧ wr.rowIs (w.heap.size + 1 + 1) 63 10 (wcell false (fun _ => 0)) ∧ Below w.heap.size w wr)
    (fun _ i _ => 9 - (intOf i).toNat)
  case atStart =>
    refine ⟨0, Nat.zero_le _, rfl, by rw [carry_zero]; rfl, ?_, ?_, ?_, ?_⟩
    · exact (((wide_row w m x).alloc _).alloc _).congr fun i _ => by cases i <;> simp [wcell]
    · exact wide_row_2 w _ _ m' y
    · exact wide_row_3 w _ _
    · exact (((Below.refl _ _).alloc (by simp) _).alloc (by simp) _).alloc (by simp; omega) _
  case round =>
    obtain ⟨k, hk, rfl, rfl, R1, R2, R3, hb⟩ := hrel
    by_cases hlt : k < 9
    · have c1 : wr.cell? ⟨w.heap.size, 1 + k, none⟩ = some (.int .u64 (limb x k)) := by rw [Nat.add_comm 1 k, R1.cell (by omega)]; simp [wcell]
      have c2 : wr.cell? ⟨w.heap.size + 1, 1 + k, none⟩ = some (.int .u64 (limb y k)) := by rw [Nat.add_comm 1 k, R2.cell (by omega)]; simp [wcell]
      have f1 := R1.frozen (1 + k)
      have l1 := limb_lt x k
      have l2 := limb_lt y k
      have l3 := carry_le x y k
      have s1 : IntKind.u64.wrap ((limb x k : Int) + (limb y k : Int)) = (limb x k : Int) + (limb y k : Int) := by rw [IntKind.wrap_u64]; omega
      have s2 : IntKind.u64.wrap ((limb x k : Int) + (limb y k : Int) + (carry x y k : Int)) = (limb x k : Int) + (limb y k : Int) + (carry x y k : Int) := by rw [IntKind.wrap_u64]; omega
      go_wp2
      go_quiet (fail)
      go_wp2
      go_roundw
      case rel =>
        refine ⟨k + 1, by omega, by go_num, ?_, ?_, ?_, ?_, ?_⟩
        · rw [carry_succ]; congr 1
        · rw [Nat.add_comm 1 k]
          refine ((rowIs_drewN R1 nq).set (k + 1) _).congr fun i hi => ?_
          cases i with
          | zero => simp [wcell]
          | succ i =>
            by_cases e : i = k
            · subst e; simp [wcell, limb_add]
            · have e1 : (i < k + 1) ↔ i < k := by omega
              simp [wcell, e, e1]
        · exact (rowIs_drewN R2 nq).setOther (by simp) _
        · exact (rowIs_drewN R3 nq).setOther (by simp; omega) _
        · exact (below_drewN hb nq).setCell (by simp) _
      case measure => simp [intOf]; omega
    · obtain rfl : k = 9 := by omega
      have R1' : wr.rowIs w.heap.size 63 10 (wcell m (limb (x + y))) := R1.congr fun i hi => by
        cases i with
        | zero => rfl
        | succ i => simp only [wcell]; rw [if_pos (by omega)]
      clear R1
      obtain ⟨c0, c1, c2, c3, c4, c5, c6, c7, c8, c9⟩ := wide_cells R1'
      obtain ⟨d0, d1, d2, d3, d4, d5, d6, d7, d8, d9⟩ := wide_cells R3
      obtain ⟨f0, f1, f2, f3, f4, f5, f6, f7, f8, f9⟩ := wide_free R3
      clear R1' R2 R3
      go_wp2
      exact bodyPost_ret (v := wideV m (x + y)) (by simp [results, Try.results33, go_sem, d0, d1, d2, d3, d4, d5, d6, d7, d8, d9]) rfl
        ⟨rfl, below_wide hb (by omega) _ _ _ _ _ _ _ _ _ _⟩

theorem minus_any (m m' : Bool) (x y : Nat) (w : World) (hyx : y ≤ x) :
    Calls Try.prog 35 #[wideV m x, wideV m' y] w fun e w' => e = .returned (wideV m (x - y)) ∧ Below w.heap.size w w' := by
  go_enter Try.func35, Try.ntmps35
  go_wp2
  go_loopw [5, 6] (fun c i wr => ∃ k : Nat, k ≤ 9 ∧ i = .int .i64 k ∧ c = .int .u64 (take x y k) ∧ wr.rowIs w.heap.size 63 10 (wcell m (fun j => if j < k then limb (x - y) j else limb x j)) ∧
      wr.rowIs (w.heap.size + 1) 63 10 (wcell m' (limb y)) ∧ wr.rowIs (w.heap.size + 1 + 1) 63 10 (wcell false (fun _ => 0)) ∧ Below w.heap.size w wr)
    (fun _ i _ => 9 - (intOf i).toNat)
  case atStart =>
    refine ⟨0, Nat.zero_le _, rfl, by rw [take_zero]; rfl, ?_, ?_, ?_, ?_⟩
    · exact (((wide_row w m x).alloc _).alloc _).congr fun i _ => by cases i <;> simp [wcell]
    · exact wide_row_2 w _ _ m' y
    · exact wide_row_3 w _ _
    · exact (((Below.refl _ _).alloc (by simp) _).alloc (by simp) _).alloc (by simp; omega) _
  case round =>
    obtain ⟨k, hk, rfl, rfl, R1, R2, R3, hb⟩ := hrel
    by_cases hlt : k < 9
    · have c1 : wr.cell? ⟨w.heap.size, 1 + k, none⟩ = some (.int .u64 (limb x k)) := by rw [Nat.add_comm 1 k, R1.cell (by omega)]; simp [wcell]
      have c2 : wr.cell? ⟨w.heap.size + 1, 1 + k, none⟩ = some (.int .u64 (limb y k)) := by rw [Nat.add_comm 1 k, R2.cell (by omega)]; simp [wcell]
      have f1 := R1.frozen (1 + k)
      have l1 := limb_lt x k
      have l2 := limb_lt y k
      have l3 := take_le x y k
      have s1 : IntKind.u64.wrap ((limb x k : Int) + 65536) = (limb x k : Int) + 65536 := by rw [IntKind.wrap_u64]; omega
      have s2 : IntKind.u64.wrap ((limb x k : Int) + 65536 - (limb y k : Int)) = (limb x k : Int) + 65536 - (limb y k : Int) := by rw [IntKind.wrap_u64]; omega
      have s3 : IntKind.u64.wrap ((limb x k : Int) + 65536 - (limb y k : Int) - (take x y k : Int)) = (limb x k : Int) + 65536 - (limb y k : Int) - (take x y k : Int) := by rw [IntKind.wrap_u64]; omega
      go_wp2
      go_quiet (fail)
      go_wp2
      go_roundw
      case rel =>
        refine ⟨k + 1, by omega, by go_num, ?_, ?_, ?_, ?_, ?_⟩
        · rw [take_succ]; congr 1; omega
        · rw [Nat.add_comm 1 k]
          refine ((rowIs_drewN R1 nq).set (k + 1) _).congr fun i hi => ?_
          cases i with
          | zero => simp [wcell]
          | succ i =>
            by_cases e : i = k
            · subst e; simp [wcell, limb_sub _ _ _ hyx]; omega
            · have e1 : (i < k + 1) ↔ i < k := by omega
              simp [wcell, e, e1]
        · exact (rowIs_drewN R2 nq).setOther (by simp) _
        · exact (rowIs_drewN R3 nq).setOther (by simp; omega) _
        · exact (below_drewN hb nq).setCell (by simp) _
      case measure => simp [intOf]; omega
    · obtain rfl : k = 9 := by omega
      have R1' : wr.rowIs w.heap.size 63 10 (wcell m (limb (x - y))) := R1.congr fun i hi => by
        cases i with
        | zero => rfl
        | succ i => simp only [wcell]; rw [if_pos (by omega)]
      clear R1
      obtain ⟨c0, c1, c2, c3, c4, c5, c6, c7, c8, c9⟩ := wide_cells R1'
      obtain ⟨d0, d1, d2, d3, d4, d5, d6, d7, d8, d9⟩ := wide_cells R3
      obtain ⟨f0, f1, f2, f3, f4, f5, f6, f7, f8, f9⟩ := wide_free R3
      clear R1' R2 R3
      go_wp2
      exact bodyPost_ret (v := wideV m (x - y)) (by simp [results, Try.results35, go_sem, d0, d1, d2, d3, d4, d5, d6, d7, d8, d9]) rfl
        ⟨rfl, below_wide hb (by omega) _ _ _ _ _ _ _ _ _ _⟩
end Go.Proofs.Ytbbdkkjbcpkplaa
