/-
  Own text: Missing, walked.
-/
import Derived.Test.YtfemiflgnadfkaaSqP
import Derived.Deep.DeepCutAuto
namespace Go.Proofs.Ytfemiflgnadfkaa
open Go.RowKit

theorem miss_stops (F : Fence) (n : Nat) (hf : F.fn 23) (hro : F.round = none) (hn : 1 ≤ n) (q p T : Nat) (hT : T < 4294967296) (g : BitVec 64)
    (w : World) (hql : q < w.heap.size) (hpl : p < w.heap.size) (hq : w.cell? ⟨q, 0, none⟩ = some (.int .u64 (g.toNat : Int))) (hp : w.cell? ⟨p, 0, none⟩ = some (.int .u32 (T : Int))) :
    SeqStopsK F n Try.prog 23 #[.pointer (some ⟨q, 0, none⟩), .pointer (some ⟨p, 0, none⟩)] (fun x : Hole g => #[Value.int .u32 (((T : Int) - (x.1 : Int)) % 4294967296)]) (Km q p (.int .u64 (g.toNat : Int)) (.int .u32 (T : Int))) (fun ys => holesOf ys = gl g 64)
      (fun pre => ∃ k, k ≤ 64 ∧ holesOf pre = gl g k) 64 w := fun l J Jx W hW _ _ hY h0 => by
  have hk : Km q p (.int .u64 (g.toNat : Int)) (.int .u32 (T : Int)) w W := Km.below hW hql hpl
  exact miss1_in F n hf hro hn l q p T hT g J Jx hY W (hk.1 hq) (hk.2 hp) h0
theorem two_boxes (w : World) (x y : Value) (t1 t2 : TypeId) : ((w.alloc (.cells #[x] t1)).alloc (.cells #[y] t2)).drew.cell? ⟨w.heap.size, 0, none⟩ = some x ∧ ((w.alloc (.cells #[x] t1)).alloc (.cells #[y] t2)).drew.cell? ⟨w.heap.size + 1, 0, none⟩ = some y := by
  have h1 : ((w.alloc (.cells #[x] t1)).alloc (.cells #[y] t2)).heap[w.heap.size]? = some (.cells #[x] t1) := heap_alloc2_old w _ _
  have h2 : ((w.alloc (.cells #[x] t1)).alloc (.cells #[y] t2)).heap[w.heap.size + 1]? = some (.cells #[y] t2) := heap_alloc2_new w _ _
  constructor
  · show ((w.alloc (.cells #[x] t1)).alloc (.cells #[y] t2)).cell? _ = _
    simp only [World.cell?, h1]
    rfl
  · show ((w.alloc (.cells #[x] t1)).alloc (.cells #[y] t2)).cell? _ = _
    simp only [World.cell?, h2]
    rfl
/-- What Missing answers: its iterator over two boxes. -/
def Missed (s : Sn) (w : World) (e : Ending) (w' : World) : Prop :=
  ∃ q p, e = .returned (.func (.func 23) #[] #[.pointer (some ⟨q, 0, none⟩), .pointer (some ⟨p, 0, none⟩)]) ∧ w'.cell? ⟨q, 0, none⟩ = some (.int .u64 (s.gone.toNat : Int)) ∧ w'.cell? ⟨p, 0, none⟩ = some (.int .u32 (s.top : Int)) ∧ Below w.heap.size w w'
theorem missed_any (b : Nat) (s : Sn) (w : World) (h : SBlk w b s) :
    Calls Try.prog 19 #[.pointer (some ⟨b, 0, none⟩)] w (Missed s w) := by
  have c1 : w.cell? ⟨b, 1, none⟩ = some (.int .u32 s.top) := h.cell 1
  have H := Lib.hid h
  have hlt := h.lt
  have CM := Lib.hid (missing_any b s)
  obtain ⟨u, hu⟩ : ∃ u, u = s.gone.toNat := ⟨_, rfl⟩
  rw [← hu] at CM
  have HU := Lib.hid hu
  clear hu h
  go_enter Try.func19, Try.ntmps19
  go_upto_region 1 with fail
  refine Code.wp_mono (Q := fun e a' w' => e = .normal ∧ ∃ q p, a' = { tmps := #[.pointer (some ⟨b, 0, none⟩), undef, Value.nilFunc, .pointer (some ⟨p, 0, none⟩), .pointer (some ⟨q, 0, none⟩), .pointer (some ⟨b, 0, none⟩), .pointer (some ⟨b, 0, none⟩), .pointer (some ⟨b, 1, none⟩), .int .u32 s.top, .pointer (some ⟨b, 0, none⟩), .int .u64 u, undef], defers := [] } ∧ w'.cell? ⟨q, 0, none⟩ = some (.int .u64 (u : Int)) ∧ w'.cell? ⟨p, 0, none⟩ = some (.int .u32 (s.top : Int)) ∧ Below w.heap.size w w') ?post ?reg
  case reg =>
    refine wp_region_noPanic ?_
    have HX : ∀ w', Below w.heap.size w w' → w'.cell? ⟨b, 1, none⟩ = some (.int .u32 s.top) := fun w' hb => (hb.cell (p := ⟨b, 1, none⟩) hlt).trans c1
    have HB0 : Hid (w.drew.cell? ⟨b, 1, none⟩ = some (.int .u32 s.top) ∧ Below w.heap.size w w.drew) := Lib.hid ⟨HX _ (Below.refl _ _).drew, (Below.refl _ _).drew⟩
    have b1 : ∀ o, Below w.heap.size w (w.alloc o) := fun o => (Below.refl w.heap.size w).alloc (Nat.le_refl _) o
    have b2 : ∀ o o', Below w.heap.size w ((w.alloc o).alloc o') := fun o o' => (b1 o).alloc (b1 o).size o'
    have HB1 : Hid (∀ o, (w.alloc o).drew.cell? ⟨b, 1, none⟩ = some (.int .u32 s.top) ∧ Below w.heap.size w (w.alloc o).drew) := Lib.hid (fun o => ⟨HX _ (b1 o).drew, (b1 o).drew⟩)
    have HB2 : Hid (∀ o o', ((w.alloc o).alloc o').drew.cell? ⟨b, 1, none⟩ = some (.int .u32 s.top) ∧ Below w.heap.size w ((w.alloc o).alloc o').drew) := Lib.hid (fun o o' => ⟨HX _ (b2 o o').drew, (b2 o o').drew⟩)
    clear b1 b2
    have HS0 : Hid (∀ w', Below w.heap.size w w' → SBlk w' b s) := Lib.hid (fun w' hb => H.out.below hb hlt)
    clear HX
    go_region_held3 (fun w' => w'.cell? ⟨b, 1, none⟩ = some (.int .u32 s.top) ∧ Below w.heap.size w w') (first | exact HB0.out | exact HB1.out _ | exact HB2.out _ _)
      (first
        | (go_at_call 18; (with_reducible refine (CM.out _ (HS0.out _ HB0.out.2)).mono ?_); rintro e w9 ⟨rfl, rfl⟩)
        | (go_at_call 18; (with_reducible refine (CM.out _ (HS0.out _ (HB1.out _).2)).mono ?_); rintro e w9 ⟨rfl, rfl⟩)
        | (go_at_call 18; (with_reducible refine (CM.out _ (HS0.out _ (HB2.out _ _).2)).mono ?_); rintro e w9 ⟨rfl, rfl⟩)
        | fail)
    all_goals first
      | exact NoPanic.normal ⟨rfl, _, _, rfl, (two_boxes w _ _ _ _).2, (two_boxes w _ _ _ _).1, (HB2.out _ _).2⟩
      | exact NoPanic.normal ⟨rfl, _, _, rfl, (two_boxes w _ _ _ _).1, (two_boxes w _ _ _ _).2, (HB2.out _ _).2⟩
  case post =>
    rintro e a' W ⟨rfl, q, p, rfl, hq, hp, hb⟩
    go_wp2
    go_ret
    exact ⟨q, p, rfl, by rw [hq, HU.out], hp, hb⟩
end Go.Proofs.Ytfemiflgnadfkaa
