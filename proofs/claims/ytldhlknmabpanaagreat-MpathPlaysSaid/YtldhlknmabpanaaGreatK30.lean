/-
  Own text: lists of items of so many cells, made by the call itself.
-/
import Derived.Test.YtldhlknmabpanaaGreatK29
import Derived.Test.YtldhlknmabpanaaGreatK20
namespace Go.Proofs.YtldhlknmabpanaaGreat.Mp
open Go.RowKit

theorem flat_length {α β : Type} (f : α → List β) (m : Nat) (hm : ∀ x, (f x).length = m) : ∀ l : List α, (l.flatMap f).length = l.length * m
  | [] => by simp
  | x :: l => by rw [List.flatMap_cons, List.length_append, flat_length f m hm l, hm, List.length_cons, Nat.succ_mul, Nat.add_comm]
theorem flat_at {α β : Type} (f : α → List β) (m : Nat) (hm : ∀ x, (f x).length = m) : ∀ (l : List α) (i : Nat) (x : α), l[i]? = some x → ∀ j, j < m → (l.flatMap f)[i * m + j]? = (f x)[j]?
  | [], i, x, h, j, _ => by simp at h
  | y :: l, 0, x, h, j, hj => by
    obtain rfl : y = x := by simpa using h
    rw [List.flatMap_cons, Nat.zero_mul, Nat.zero_add, List.getElem?_append_left (by rw [hm]; exact hj)]
  | y :: l, i + 1, x, h, j, hj => by
    rw [List.flatMap_cons, List.getElem?_append_right (by rw [hm, Nat.succ_mul]; omega), hm, show (i + 1) * m + j - m = i * m + j by rw [Nat.succ_mul]; omega]
    exact flat_at f m hm l i x (by simpa using h) j hj
theorem row_lies {α : Type} {w : World} {base n m C : Nat} {e : TypeId} {A : Option Addr} (f : α → Array Value) (hm : ∀ x, (f x).size = m) (h0 : 0 < m) (l : List α) (h : w.ownsRow base e m (.slice A n C) n (l.flatMap (fun x => (f x).toList))) (i : Nat) (x : α) (hx : l[i]? = some x) :
    ∃ g, A = some ⟨g, 0, none⟩ ∧ base ≤ g ∧ g < w.heap.size ∧ Lies w g (i * m) (f x) := by
  have hm' : ∀ x, (f x).toList.length = m := fun x => by rw [Array.length_toList]; exact hm x
  have hfl := flat_length (fun x => (f x).toList) m hm' l
  have hil : i < l.length := (List.getElem?_eq_some_iff.1 hx).1
  have hmul : (i + 1) * m ≤ l.length * m := Nat.mul_le_mul_right m hil
  rw [Nat.succ_mul] at hmul
  rcases h.2 with ⟨e1, h1⟩ | ⟨g, cap, cur, e1, hb, hg, _, _, hs, ht⟩
  · have := h.1
    rw [hfl, h1, Nat.zero_mul] at this
    omega
  · injection e1 with e1 _ _
    refine ⟨g, e1, hb, (Array.getElem?_eq_some_iff.1 hg).1, cur, e, hg, ?_, fun j hj => ?_⟩
    · have h2 : (cur.toList.take (n * m)).length ≤ cur.toList.length := by rw [List.length_take]; omega
      rw [ht, hfl] at h2
      have h3 : cur.toList.length = cur.size := Array.length_toList
      rw [hm]
      omega
    · rw [hm] at hj
      have h3 := flat_at (fun x => (f x).toList) m hm' l i x hx j hj
      rw [← ht, List.getElem?_take] at h3
      split at h3
      · simpa using h3
      · have : j < (f x).size := by rw [hm]; exact hj
        simp [this] at h3
theorem dic_size (x : Mq.It) : (dic x).size = 12 := rfl
theorem dic_one (x : Mq.It) : (dic x).all (·.oneCell') = true := by simp [Value.oneCell']
theorem infoI15 (x : Mq.It) : (Tryz.prog.info? 130).map (·.size) = some (dic x).size := by kernel_rfl
def zI : Value := .agg #[.int .i64 0, .int .i64 0, .int .u32 0, .int .u32 0, .int .i64 0, .int .u32 0, .int .u32 0, .int .u32 0, .int .i64 0, .int .i64 0, .int .i64 0, .slice none 0 0]
theorem infoI : (Tryz.prog.info? 130).map (fun i => (i.zero, i.size, i.bytes)) = some (some zI, 12, 96) := by kernel_rfl
/-- A list of items of the call's own. -/
def LR (w : World) (base : Nat) (A : Option Addr) (C : Nat) (l : List Mq.It) : Prop := w.ownsRow base 130 12 (.slice A l.length C) l.length (l.flatMap (fun x => (dic x).toList))
theorem LR.start (w : World) (base : Nat) : LR w base none 0 [] := World.ownsRow_nil _ _ _ _
theorem LR.dl {w : World} {base C : Nat} {A : Option Addr} {l : List Mq.It} (h : LR w base A C l) : DL w A l := ⟨fun i x hx => by
  obtain ⟨g, e, _, hl, hc⟩ := row_lies dic dic_size (by decide) l h i x hx
  exact ⟨g, 0, e, hl, by rw [Nat.zero_add]; exact hc⟩⟩
theorem LR.low {w : World} {base C : Nat} {A : Option Addr} {l : List Mq.It} (h : LR w base A C l) : ∀ g, A.map Addr.block = some g → base ≤ g ∧ g < w.heap.size := fun g hg => h.lt g (by
  cases A with
  | none => cases hg
  | some a => exact hg)
theorem LR.below {w w' : World} {base B C : Nat} {A : Option Addr} {l : List Mq.It} (h : LR w base A C l) (hb : Below B w w') (hB : w.heap.size ≤ B) : LR w' base A C l := ownsRow_below h hb hB
theorem LR.more {w : World} {base C n : Nat} {A : Option Addr} {l : List Mq.It} {x : Mq.It} (hn : n = l.length) (h : w.ownsRow base 130 12 (.slice A (n + 1) C) (n + 1) (l.flatMap (fun x => (dic x).toList) ++ (dic x).toList)) : LR w base A C (l ++ [x]) := by
  subst hn
  unfold LR
  rw [List.length_append, List.flatMap_append]
  simpa using h
end Go.Proofs.YtldhlknmabpanaaGreat.Mp
