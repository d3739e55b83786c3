/-
  Own text: layer 17 (group): the document's Make, walked.
  Own text: what the loop-free functions of package word answer (Add, Sub, Clamp, Abs, Abs64, Floor, Rest, Behind, Newer), that the page's examples hold ('awake'), and the same of the document's own answers where they hold no wide number.
    the page's examples of layer 1 hold ('awake'); the laws WordFloors, WordBack, WordNewer, walked.
  Own text: how a way has done, in plain numbers.
    a way's numbers in their block and by value; a share of the way; Mark and Trip, walked.
    Trip, walked.
  Own text: layer 16 (redund), plain.
  Own text: regions that draw their order, inside a round of a loop over a function: all but the last operation only read.
    regions that draw their order: all but the last operation keep the world within a class and yield one value in each world of it (calls that only make memory of their own, too); the last one is walked behind them.
    a region that draws its order, at a class of worlds: guarded operations, loads and calls that make memory, one walk in the written order.
    regions that draw their order: the first operations keep the world within a class and yield one value in each world of it (calls that only make memory of their own, too); behind them come several more, each bound to the one ahead of it: they are walked as they stand.
  Own text: the code's product of two numbers (Mul64, Wide, Mul), walked; without the document's.
-/
import Derived.Test.YtjcbcdjfhcnhcaaK13
import Derived.Test.YtjcbcdjfhcnhcaaK01
import Derived.Test.YtjcbcdjfhcnhcaaRows
import Derived.OrdersHeld
import Derived.Deep.RegionHeld3
import Derived.WalkKit
import Derived.ProofKit
import Derived.OpenShut
import Derived.StillTailTactics
import Derived.BigRegion
import Derived.Sort.QuietIn
import Derived.OwnWalkIn
import Derived.ControlIn
import Derived.Laws.MathBits
namespace Go.Proofs.Ytjcbcdjfhcnhcaa
open Go.RowKit

/-- The document's two bytes of an input. -/
theorem rbytes17 (z : Int) (w : World) (h0 : 0 ≤ z) (h1 : z ≤ 65535) :
    Calls Try.prog 33 #[.int .u64 z, .int .i64 2] w fun e w' => ∃ g, e = .returned (.slice (some ⟨g, 0, none⟩) 2 2) ∧ Hid (w.heap.size ≤ g) ∧ Hid (Dat w' g 2 (be 2 z)) ∧ Hid (Below w.heap.size w w') := by
  have HB : ∀ C : Array Value, C.toList = (be 2 z).map (Value.int .u8) → Hid (Dat (w.alloc (.cells C 5)) w.heap.size 2 (be 2 z)) ∧ Hid (Below w.heap.size w (w.alloc (.cells C 5))) := fun C h =>
    ⟨Lib.hid ⟨be_range 2 z, be_length 2 z, _, by rw [← h]; exact Go.Deep.blk_alloc_new w _, by rw [List.length_map, be_length]; exact Nat.le_refl _, List.take_of_length_le (by rw [List.length_map, be_length]; exact Nat.le_refl _)⟩, Lib.hid ((Below.refl w.heap.size w).alloc (Nat.le_refl _) _)⟩
  have HB := Lib.hid HB
  rw [be_two] at *
  have hmk : ∀ w : World, (Instr.makeSlice 42 (.int .i64 2) (.int .i64 2)).run Try.prog w = .ok (.slice (some ⟨w.heap.size, 0, none⟩) 2 2) (w.alloc (.cells #[.int .u8 0, .int .u8 0] 5)) := fun _ => by kernel_rfl
  go_enter Try.func33, Try.ntmps33
  go_wp2
  refine wp_loop_rounds 3 ?_
  iterate 3 (rw [rounds_succ]; go_wp2)
  go_ret
  have h := HB.out #[.int .u8 (z / 256 % 256), .int .u8 (z % 256)] (by simp)
  exact ⟨_, rfl, Lib.hid (Nat.le_refl _), by simpa using h.1, by simpa using h.2⟩
/-- One slice, in a block that is new. -/
theorem own_one (w : World) (base : Nat) (hb : base ≤ w.heap.size) (v : Value) : OwnS (w.alloc (.cells #[v] 42)) base (.slice (some ⟨w.heap.size, 0, none⟩) 1 1) 1 [v] :=
  World.ownsRow_lit w #[v] 1 hb (by unfold maxLen; omega) rfl
set_option maxRecDepth 100000 in
set_option maxHeartbeats 1000000 in
theorem rgmake_yes (no fst : Int) (n m N cap : Nat) (a : Option Addr) (Z : List Int) (w : World) (h1 : 1 ≤ n) (h2 : n ≤ 16) (hm : m ≤ 16) (hI : Ins w a n Z) (hZ : ∀ z ∈ Z, 0 ≤ z ∧ z ≤ 65535) (hN : n + m = N) :
    Calls Try.prog 10 #[.int .u32 no, .int .u32 fst, .int .i64 m, .slice a n cap] w (MadeG no fst n m N (.bool true) (G17 Z n) w) := by
  obtain ⟨b1, o1, rfl, hb1, hc1⟩ := hI.2.resolve_left (by omega)
  have hlen := hI.1
  have hz0 : ∀ k, k < n → 0 ≤ Z.getD k 0 ∧ Z.getD k 0 ≤ 65535 := fun k hk => by rw [List.getD_eq_getElem?_getD, List.getElem?_eq_getElem (by omega)]; exact hZ _ (List.getElem_mem _)
  have HP := Lib.hid (fun k w' (hk : k < n) => rbytes17 (Z.getD k 0) w' (hz0 k hk).1 (hz0 k hk).2)
  have HWR : Hid (∀ k, k < n → IntKind.u64.wrap (Z.getD k 0) = Z.getD k 0) := Lib.hid (fun k hk => by rw [IntKind.wrap_u64]; have := hz0 k hk; omega)
  have HIN : Hid (∀ w' k, Below w.heap.size w w' → k < n → w'.cell? ⟨b1, o1 + k, none⟩ = some (.int .u16 (Z.getD k 0))) := Lib.hid (fun w' k hb hk => (hb.cell (p := ⟨b1, o1 + k, none⟩) hb1).trans (hc1 k hk))
  obtain ⟨Y, hY⟩ : ∃ Y : Nat → Int, ∀ k, Z.getD k 0 = Y k := ⟨_, fun _ => rfl⟩
  simp only [hY] at HP HIN HWR
  have HY := Lib.hid hY
  clear hY
  have hs0 : (w.alloc (.cells #[.int .u32 0, .int .u32 0, .int .i64 0, .int .i64 0, .slice none 0 0] 34)).heap.size = w.heap.size + 1 := by simp
  obtain ⟨W, hW⟩ : ∃ W, W = (w.alloc (.cells #[.int .u32 0, .int .u32 0, .int .i64 0, .int .i64 0, .slice none 0 0] 34)).alloc (.cells #[.int .u32 no, .int .u32 fst, .int .i64 n, .int .i64 m, .slice none 0 0] 34) := ⟨_, rfl⟩
  have HX0 : Hid (B5 34 W w.heap.size (.int .u32 0) (.int .u32 0) (.int .i64 0) (.int .i64 0) (.slice none 0 0)) := Lib.hid (by
    have h := B5.new w 34 (.int .u32 0) (.int .u32 0) (.int .i64 0) (.int .i64 0) (.slice none 0 0)
    rw [hW]
    exact h.keep (Below.heap_alloc _ _ _ h.lt))
  have HD0 : Hid (B5 34 W (w.heap.size + 1) (.int .u32 no) (.int .u32 fst) (.int .i64 n) (.int .i64 m) (.slice none 0 0)) := Lib.hid (by
    rw [hW, ← hs0]
    exact B5.new _ _ _ _ _ _ _)
  have HB0 : Hid (Below w.heap.size w W) := Lib.hid (by rw [hW]; exact ((Below.refl w.heap.size w).alloc (Nat.le_refl _) _).alloc (by simp) _)
  have HS0 : Hid (W.heap.size = w.heap.size + 2) := Lib.hid (by rw [hW]; simp)
  have k1 : ¬ (n : Int) < 1 := by omega
  have k2 : ¬ (16 : Int) < n := by omega
  have k3 : ¬ (m : Int) < 0 := by omega
  have k4 : ¬ (16 : Int) < m := by omega
  have HN : Hid (1 ≤ n ∧ n ≤ 16 ∧ m ≤ 16) := Lib.hid ⟨h1, h2, hm⟩
  have HNN := Lib.hid hN
  clear hI hZ hc1 hlen hs0 h1 h2 hm hN hz0
  unfold MadeG
  go_enter Try.func10, Try.ntmps10
  go_upto_region 4 with fail
  rw [← hW]
  clear hW
  have HG : Hid (w.heap.size < w.heap.size + 1) := Lib.hid (by omega)
  have HB1 : Hid (b1 < w.heap.size + 2) := Lib.hid (by omega)
  have HGB : Hid (w.heap.size + 1 < w.heap.size + 2) := Lib.hid (by omega)
  have HG2 : Hid (∀ q, w.heap.size + 2 ≤ q → w.heap.size + 1 ≠ q ∧ w.heap.size ≠ q ∧ w.heap.size < q ∧ (∀ i, i < w.heap.size → i < q) ∧ w.heap.size ≠ w.heap.size + 1) := Lib.hid (fun q hq => ⟨by omega, by omega, by omega, fun i hi => by omega, by omega⟩)
  have HGG : Hid (w.heap.size ≤ w.heap.size + 1) := Lib.hid (by omega)
  obtain ⟨B2, hB2⟩ : ∃ B2, B2 = w.heap.size + 2 := ⟨_, rfl⟩
  rw [← hB2] at HG2 HS0 HB1 HGB
  have HL0 : Hid (Shs W B2 (.slice none 0 0) 0 (G17 Z n)) := Lib.hid (Shs.nil _ _ _)
  clear hB2
  generalize hh : w.heap.size + 1 = g at *
  clear hh
  go_wp2
  go_loopw [11] (fun i wr => ∃ (k : Nat) (A : Option Addr) (C : Nat), k ≤ n ∧ i = .int .i64 k ∧ Hid (Shs wr B2 (.slice A k C) k (G17 Z n)) ∧ Hid (B5 34 wr g (.int .u32 no) (.int .u32 fst) (.int .i64 n) (.int .i64 m) (.slice A k C)) ∧ Hid (B5 34 wr w.heap.size (.int .u32 0) (.int .u32 0) (.int .i64 0) (.int .i64 0) (.slice none 0 0)) ∧ Hid (Below w.heap.size w wr ∧ B2 ≤ wr.heap.size)) (fun i _ => n - (intOf i).toNat)
  case atStart => exact ⟨0, none, 0, by omega, rfl, HL0, HD0, HX0, Lib.hid ⟨HB0.out, by rw [HS0.out]; exact Nat.le_refl _⟩⟩
  case round =>
    clear HL0 HD0 HX0 HB0 HS0
    obtain ⟨k, A, C, hk, rfl, HL, HD, HX, HB⟩ := hrel
    obtain ⟨wo, ho⟩ : ∃ wo, wo = wr := ⟨_, rfl⟩
    subst ho
    by_cases hlt : k < n
    · have j0 : (0 : Int) ≤ k := by omega
      have j1 : (k : Int) < n := by omega
      obtain ⟨l, hl1, hl2⟩ := HL.out
      have HPK := Lib.hid (fun w' => HP.out k w' hlt)
      have hwr := HWR.out k hlt
      have HYK : Hid (∀ c, co (be 2 (Y k)) c = G17 Z n (k + 0) c) := Lib.hid (fun c => by rw [Nat.add_zero, G17_data Z (by have := HN.out; omega) hlt, HY.out k])
      have HI2 := Lib.hid (fun w' hb => HIN.out w' k hb hlt)
      generalize Y k = y at *
      have HW2 : Hid (∀ w' : World, (∀ q : Nat, q < B2 → w'.heap[q]? = wo.heap[q]?) → w'.cell? ⟨g, 4, none⟩ = some (.slice A k C) ∧ w'.cell? ⟨b1, o1 + k, none⟩ = some (.int .u16 y)) := Lib.hid (fun w' hq => ⟨(World.cell?_of_block (w := wo) (a := ⟨g, 4, none⟩) (hq g HGB.out)).trans HD.out.cells.2.2.2.2, (World.cell?_of_block (w := wo) (a := ⟨b1, o1 + k, none⟩) (hq b1 HB1.out)).trans (HI2.out wo HB.out.1)⟩)
      have HQB : Hid (∀ w' : World, Below wo.heap.size wo w' → ∀ q : Nat, q < B2 → w'.heap[q]? = wo.heap[q]?) := Lib.hid (fun w' hb q hq => hb.block q (Nat.lt_of_lt_of_le hq HB.out.2))
      have HQG : Hid (∀ (w2 : World) (u : Value) (w' : World), Below wo.heap.size wo w2 → (w2.alloc (.cells #[u] 42)).grownBy w' (Value.slice A k C).ownBlock → ∀ q : Nat, q < B2 → w'.heap[q]? = wo.heap[q]?) := Lib.hid (fun w2 u w' hb hg q hq => by
        have h1 : q < wo.heap.size := Nat.lt_of_lt_of_le hq HB.out.2
        have h2 : q < w2.heap.size := Nat.lt_of_lt_of_le h1 hb.size
        refine ((hg.block q (by simp; omega) (fun e => ?_)).trans (Below.heap_alloc _ _ _ h2)).trans (hb.block q h1)
        have := (World.ownsRow.lt hl1 q e.symm).1
        omega)
      have HAPP : Hid (∀ (w2 : World) (u : Value), Below wo.heap.size wo w2 → OwnS (w2.alloc (.cells #[u] 42)) B2 (.slice A k C) k l ∧ OwnS (w2.alloc (.cells #[u] 42)) 0 (.slice (some ⟨w2.heap.size, 0, none⟩) 1 1) 1 [u] ∧ B2 ≤ (w2.alloc (.cells #[u] 42)).heap.size) := Lib.hid (fun w2 u hb => ⟨row_alloc (row_below hl1 hb (Nat.le_refl _)) _, own_one w2 0 (Nat.zero_le _) u, by have := HB.out.2; have := hb.size; simp; omega⟩)
      have HKN : Hid (k + 1 ≤ 100000) := Lib.hid (by have := HN.out; omega)
      have h1 : ∀ g' : Nat, ∀ u ∈ [Value.slice (some ⟨g', 0, none⟩) 2 2], u.oneCell' = true := fun g' u hu => by
        simp at hu
        subst hu
        rfl
      have H1 := Lib.hid h1
      have HSH : Hid (∀ (w3 : World) (gn : Nat) (w4 : World) (A4 : Option Addr) (C4 : Nat), Below wo.heap.size wo w3 → Dat w3 gn 2 (be 2 y) → OwnS w4 B2 (.slice A4 (k + 1) C4) (k + 1) (l ++ [.slice (some ⟨gn, 0, none⟩) 2 2]) → (w3.alloc (.cells #[.slice (some ⟨gn, 0, none⟩) 2 2] 42)).grownBy w4 (Value.slice A k C).ownBlock → Shs w4 B2 (.slice A4 (k + 1) C4) (k + 1) (G17 Z n)) := Lib.hid (fun w3 gn w4 A4 C4 hb hd ho hg =>
        Shs.other (w := w3.alloc (.cells #[.slice (some ⟨gn, 0, none⟩) 2 2] 42)) (G := G17 Z n) (H := fun i c => G17 Z n (k + i) c) (HAPP.out w3 _ hb).1
          (fun i hi => by
            obtain ⟨g', off, N', d, e1, e2, e3⟩ := hl2 i hi
            have e4 := e2.below hb e2.lt
            exact ⟨g', off, N', d, e1, e4.keep (Below.heap_alloc _ _ _ e4.lt), e3⟩)
          (fun i hi => by
            obtain rfl : i = 0 := by omega
            exact ⟨gn, 0, 2, _, rfl, hd.keep (Below.heap_alloc _ _ _ hd.lt), by omega, by omega, fun c _ => by rw [Nat.zero_add]; exact HYK.out c⟩)
          ho hg (fun _ _ _ _ => rfl) (fun _ _ _ _ => rfl))
      clear h1 hl1 hl2
      have HPRE : Hid (∀ w3 u, Below wo.heap.size wo w3 → w3.cell? ⟨g, 4, none⟩ = some (.slice A k C) ∧ (w3.alloc (.cells #[u] 42)).cell? ⟨g, 4, none⟩ = some (.slice A k C)) := Lib.hid (fun w3 u hb => ⟨(HW2.out w3 (HQB.out w3 hb)).1, (HW2.out _ (HQB.out _ (hb.alloc hb.size _))).1⟩)
      obtain ⟨p4, p5⟩ := HW2.out wo (fun _ _ => rfl)
      go_wp2
      go_region_law (first
          | (go_simp; go_at_call 33; (with_reducible refine (HPK.out _).mono ?_); rintro e w3 ⟨gn, rfl, HGN, HDN, HBN⟩; have cc : Below wo.heap.size wo w3 := (Below.refl wo.heap.size wo).drew.trans HBN.out; obtain ⟨q4, q5⟩ := HPRE.out w3 (.slice (some ⟨gn, 0, none⟩) 2 2) cc; have HQ := Lib.hid (HAPP.out w3 (.slice (some ⟨gn, 0, none⟩) 2 2) cc))
          | (refine step_append_ss (w := w3.alloc _) rfl (.tmp 44) (.tmp 51) rfl B2 A k C rfl l HQ.out.1 0 (some ⟨w3.heap.size, 0, none⟩) 1 1 rfl [.slice (some ⟨gn, 0, none⟩) 2 2] HQ.out.2.1 (H1.out gn) HKN.out HQ.out.2.2 (k + 1) rfl (l ++ [.slice (some ⟨gn, 0, none⟩) 2 2]) rfl ?_; intro A4 C4 w4 HO4 HG4 HF4; have cq := HQG.out w3 _ w4 cc HG4.out; have HD4 := Lib.hid (HD.out.keep (cq g HGB.out)); obtain ⟨x0, x1, x2, x3, x4⟩ := HD4.out.cells; have f4 := HD4.out.frozen 4)
          | fail "arm")
      all_goals
        have HS4 := Lib.hid (HSH.out w3 gn w4 A4 C4 cc HDN.out HO4.out HG4.out)
        have HX4 := Lib.hid (HX.out.keep (cq _ (HG2.out B2 (Nat.le_refl _)).2.2.1))
        have HB4 : Hid (Below w.heap.size w w4 ∧ B2 ≤ w4.heap.size) := Lib.hid ⟨⟨(HG4.out.os.trans cc.os).trans HB.out.1.os, (HG4.out.tape.trans cc.tape).trans HB.out.1.tape, (HG4.out.output.trans cc.output).trans HB.out.1.output, by have h1 := HG4.out.size; have h2 := cc.size; have h3 := HB.out.1.size; simp at h1; omega, fun q hq => (cq q ((HG2.out B2 (Nat.le_refl _)).2.2.2.1 q hq)).trans (HB.out.1.block q hq)⟩, by have h1 := HG4.out.size; have h2 := cc.size; have h3 := HB.out.2; simp at h1; omega⟩
        clear cc cq HSH HQG HQB HW2 HAPP HPRE HQ HO4 HG4 HF4 HGN HDN HBN HPK HI2 HYK p4 p5 q4 q5
        go_wp2
        go_roundw
        case rel => exact ⟨k + 1, A4, C4, by omega, by go_num, Lib.hid (HS4.out.set HD4.out (by decide) (by decide) 4 _), Lib.hid (HD4.out.set4 _), Lib.hid (HX4.out.keep (Below.heap_setCell _ _ _ _ (HG2.out B2 (Nat.le_refl _)).2.2.2.2)), Lib.hid ⟨HB4.out.1.setCell (p := ⟨g, 4, none⟩) HGG.out _, by simpa using HB4.out.2⟩⟩
        case measure => simp [intOf]; omega
    · obtain rfl : k = n := by omega
      have HENC : Hid (∀ w' : World, Below wo.heap.size wo w' → Calls Try.prog 34 #[.int .i64 k, .int .i64 m, .slice A k C] w' fun e w'' => ∃ A3 C3 l3, e = .returned (.tuple #[.slice A3 m C3, .int .i64 0]) ∧ Hid (OwnS w'' w'.heap.size (.slice A3 m C3) m l3 ∧ (∀ i, i < m → ∃ g off N d, l3[i]? = some (.slice (some ⟨g, off, none⟩) 2 2) ∧ Dat w'' g N d ∧ off + 2 ≤ N ∧ N ≤ 1000 ∧ ∀ c, c < 2 → co d (off + c) = G17 Z k (k + i) c) ∧ ∀ u ∈ l3, u.oneCell' = true) ∧ Hid (Below w'.heap.size w' w'')) := Lib.hid (fun w' hb => by
        obtain ⟨B, X, hX, hE⟩ := (HL.out.below hb (Nat.le_refl _)).cols
        refine (rencode_some k m C HN.out.1 (by have := HN.out; omega) _ B _ _ X w' hX (fun j _ => ⟨rfl, by show 2 ≤ 1200; omega⟩)).mono ?_
        rintro e w2 ⟨A3, C3, he, ⟨l3, a1, a2⟩, a3⟩
        refine ⟨A3, C3, l3, he, Lib.hid ⟨a1, fun i hi => ?_, fun u hu => ?_⟩, Lib.hid a3⟩
        · obtain ⟨g', d, e1, e2, e3⟩ := a2 i hi
          exact ⟨g', 0, 2, d, e1, e2, by omega, by omega, fun c hc => by
            rw [Nat.zero_add, e3 c hc]
            exact G17_more Z (by have := HN.out; omega) X c (fun j hj => (hE j hj c hc).trans (G17_data Z (by have := HN.out; omega) hj c)) i⟩
        · obtain ⟨i, hi⟩ := List.mem_iff_getElem?.1 hu
          have hl : l3.length = m := by have := a1.1; simpa using this
          have hi2 := (List.getElem?_eq_some_iff.1 hi).1
          obtain ⟨g', d, e1, _⟩ := a2 i (by omega)
          rw [hi] at e1
          cases e1
          rfl)
      obtain ⟨l, hl1, hl2⟩ := HL.out
      have HL1 : Hid (∀ w' : World, Below wo.heap.size wo w' → OwnS w' B2 (.slice A k C) k l) := Lib.hid (fun w' hb => row_below hl1 hb (Nat.le_refl _))
      have HL2 : Hid (∀ w' : World, Below wo.heap.size wo w' → ∀ i, i < k → ∃ g off N d, l[i]? = some (.slice (some ⟨g, off, none⟩) 2 2) ∧ Dat w' g N d ∧ off + 2 ≤ N ∧ N ≤ 1000 ∧ ∀ c, c < 2 → co d (off + c) = G17 Z k i c) := Lib.hid (fun w' hb i hi => by
        obtain ⟨g', off, N', d, e1, e2, e3⟩ := hl2 i hi
        exact ⟨g', off, N', d, e1, e2.below hb e2.lt, e3⟩)
      have HQG : Hid (∀ (w2 : World) (w' : World), Below wo.heap.size wo w2 → w2.grownBy w' (Value.slice A k C).ownBlock → ∀ q : Nat, q < B2 → w'.heap[q]? = wo.heap[q]?) := Lib.hid (fun w2 w' hb hg q hq => by
        have h1 : q < wo.heap.size := Nat.lt_of_lt_of_le hq HB.out.2
        refine (hg.block q (Nat.lt_of_lt_of_le h1 hb.size) (fun e => ?_)).trans (hb.block q h1)
        have := (World.ownsRow.lt hl1 q e.symm).1
        omega)
      have HKM : Hid (k + m ≤ 100000) := Lib.hid (by have := HN.out; omega)
      have HGS : Hid (∀ w' : World, Below wo.heap.size wo w' → B2 ≤ w'.heap.size) := Lib.hid (fun w' hb => Nat.le_trans HB.out.2 hb.size)
      obtain ⟨x0, x1, x2, x3, x4⟩ := HD.out.cells
      have f4 := HD.out.frozen 4
      clear hl1 hl2 HP HWR HIN HL hlt hk
      go_upto_region 9 with (first
        | (go_at_call 34; (with_reducible refine (HENC.out _ (Below.refl _ _)).mono ?_); rintro e w3 ⟨A3, C3, l3, rfl, HR3, HB3⟩; clear x0 x1 x2 x3 x4 f4; have HD3 := Lib.hid (HD.out.below HB3.out HD.out.lt); obtain ⟨x0, x1, x2, x3, x4⟩ := HD3.out.cells; have f4 := HD3.out.frozen 4)
        | fail)
      clear HENC
      go_upto_region 10 with (first
        | ((with_reducible refine wpList_append_ss rfl (.tmp 64) (.tmp 65) rfl B2 A k C rfl l (HL1.out _ HB3.out) wo.heap.size A3 m C3 rfl l3 HR3.out.1 HR3.out.2.2 HKM.out (HGS.out _ HB3.out) (k + m) rfl (l ++ l3) rfl ?_); intro A4 C4 w4 HO4 HG4 HF4; clear x0 x1 x2 x3 x4 f4; have cq := Lib.hid (HQG.out w3 w4 HB3.out HG4.out); have HD4 := Lib.hid (HD.out.keep (cq.out g HGB.out)); obtain ⟨x0, x1, x2, x3, x4⟩ := HD4.out.cells; have f4 := HD4.out.frozen 4)
        | fail)
      have HD5 := Lib.hid (HD4.out.set4 (.slice A4 (k + m) C4))
      have HX5 := Lib.hid ((HX.out.keep (cq.out _ (HG2.out B2 (Nat.le_refl _)).2.2.1)).keep (w' := w4.setCell ⟨g, 4, none⟩ (.slice A4 (k + m) C4)) (Below.heap_setCell _ _ _ _ (HG2.out B2 (Nat.le_refl _)).2.2.2.2))
      have HS5 : Hid (Shs (w4.setCell ⟨g, 4, none⟩ (.slice A4 (k + m) C4)) B2 (.slice A4 (k + m) C4) (k + m) (G17 Z k)) := Lib.hid ((Shs.other (HL1.out _ HB3.out) (HL2.out _ HB3.out) HR3.out.2.1 HO4.out HG4.out (fun _ _ _ _ => rfl) (fun _ _ _ _ => rfl)).set HD4.out (by decide) (by decide) 4 _)
      have HB5 : Hid (Below w.heap.size w (w4.setCell ⟨g, 4, none⟩ (.slice A4 (k + m) C4))) := Lib.hid ((Below.setCell (B := w.heap.size) (a := w) (w := w4) ⟨(HG4.out.os.trans HB3.out.os).trans HB.out.1.os, (HG4.out.tape.trans HB3.out.tape).trans HB.out.1.tape, (HG4.out.output.trans HB3.out.output).trans HB.out.1.output, by have h1 := HG4.out.size; have h2 := HB3.out.size; have h3 := HB.out.1.size; omega, fun q hq => (cq.out q ((HG2.out B2 (Nat.le_refl _)).2.2.2.1 q hq)).trans (HB.out.1.block q hq)⟩ (p := ⟨g, 4, none⟩) HGG.out _))
      clear x0 x1 x2 x3 x4 f4
      generalize w4.setCell ⟨g, 4, none⟩ (.slice A4 (k + m) C4) = w5 at *
      obtain ⟨x0, x1, x2, x3, x4⟩ := HD5.out.cells
      obtain ⟨r0, r1, r2, r3, r4⟩ := HX5.out.cells
      have v0 := HX5.out.frozen 0
      have v1 := HX5.out.frozen 1
      have v2 := HX5.out.frozen 2
      have v3 := HX5.out.frozen 3
      have v4 := HX5.out.frozen 4
      go_wp2
      obtain ⟨z0, z1, z2, z3, z4⟩ := put5_cells HX5.out (.int .u32 no) (.int .u32 fst) (.int .i64 k) (.int .i64 m) (.slice A4 (k + m) C4) rfl
      refine bodyPost_ret (v := .tuple #[.agg #[.int .u32 no, .int .u32 fst, .int .i64 k, .int .i64 m, .slice A4 (k + m) C4], .bool true]) (by simp [results, Try.results10, go_sem, z0, z1, z2, z3, z4]) rfl ?_
      refine ⟨A4, C4, by rw [← HNN.out], ?_, Lib.hid (below_put5 HB5.out (Nat.le_refl _) _ _ _ _ _)⟩
      rw [← HNN.out]
      exact Lib.hid ((HS5.out.low (Nat.le_of_lt (HG2.out B2 (Nat.le_refl _)).2.2.1)).put HX5.out (by decide) (by decide) _ _ _ _ _)
end Go.Proofs.Ytjcbcdjfhcnhcaa
namespace Go.Proofs.Ytjcbcdjfhcnhcaa
open Go.RowKit

/-- Held at the limits. -/
def held (n : Int) : Int := max (-9223372036854775808) (min n 9223372036854775807)
/-- Held within two others. -/
def clampZ (n l h : Int) : Int := if n < l ∨ h < l then l else if h < n then h else n
/-- Without its sign, held. -/
def absZ (n : Int) : Int := held (if n < 0 then -n else n)

/-- Without its sign, as a word. -/
def abs64Z (n : Int) : Int := if n < 0 then -n else n

/-- Is the quotient that is cut off toward 0 above the true one? -/
def unevenB (a b : Int) : Bool := a.tmod b != 0 && decide (a < 0) != decide (b < 0)
/-- How far behind, going round. -/
def behindZ (a b : Int) : Int := wrap32 (a - b)
/-- A quotient, rounded down, held. -/
def floorZ (a b : Int) : Int := if b = 0 then 0 else if a = -9223372036854775808 ∧ b = -1 then 9223372036854775807 else if unevenB a b then wrap64 (wrap64 (a.tdiv b) - 1) else wrap64 (a.tdiv b)
/-- What a quotient that is rounded down leaves. -/
def restZ (a b : Int) : Int := if b = 0 then 0 else if unevenB a b then wrap64 (a.tmod b + b) else a.tmod b
end Go.Proofs.Ytjcbcdjfhcnhcaa
namespace Go.Proofs.Ytjcbcdjfhcnhcaa
open Go.RowKit



end Go.Proofs.Ytjcbcdjfhcnhcaa
namespace Go.Proofs.Ytjcbcdjfhcnhcaa
open Go.RowKit

/-- A share of the way. -/
def toward (n tg k : Int) : Int := n + (tg - n) / k
/-- Its numbers: Loss, Rtt, Var, Marks, Trips. -/
structure Sk where
  lo : Int
  rt : Int
  va : Int
  ma : Int
  tr : Int
def Sk.zero : Sk := ⟨0, 0, 0, 0, 0⟩
/-- What may be, behind so many calls. -/
structure Sk.fit (s : Sk) (i : Nat) : Prop where
  l0 : 0 ≤ s.lo
  l1 : s.lo ≤ 65535
  r0 : 0 ≤ s.rt
  r1 : s.rt ≤ 16000
  v0 : 0 ≤ s.va
  v1 : s.va ≤ 16000
  m0 : 0 ≤ s.ma
  m1 : s.ma ≤ i
  t0 : 0 ≤ s.tr
  t1 : s.tr ≤ i
theorem Sk.fit.more {s : Sk} {i : Nat} (h : s.fit i) : s.fit (i + 1) := ⟨h.l0, h.l1, h.r0, h.r1, h.v0, h.v1, h.m0, by have := h.m1; push_cast; omega, h.t0, by have := h.t1; push_cast; omega⟩
def Sk.mark (s : Sk) (b : Bool) : Sk := ⟨toward s.lo (if b = true then 65535 else 0) 16, s.rt, s.va, s.ma + 1, s.tr⟩
/-- 8 times the ticks, held. -/
def trip8 (t : Int) : Int := 8 * (if t < 0 then 0 else if 2000 < t then 2000 else t)
def absI (a : Int) : Int := if a < 0 then -a else a
def Sk.trip (s : Sk) (t : Int) : Sk :=
  if s.tr = 0 then ⟨s.lo, trip8 t, trip8 t / 2, s.ma, s.tr + 1⟩
  else ⟨s.lo, toward s.rt (trip8 t) 8, toward s.va (absI (trip8 t - s.rt)) 4, s.ma, s.tr + 1⟩
/-- One call. -/
def Sk.act (s : Sk) (tp lost : Bool) (t : Int) : Sk := if tp = true then s.trip t else s.mark lost
def Sk.wait (s : Sk) : Int := if s.tr = 0 then 50 else (if (s.rt + 4 * s.va + 7) / 8 < 2 then 2 else if 200 < (s.rt + 4 * s.va + 7) / 8 then 200 else (s.rt + 4 * s.va + 7) / 8)
def Sk.score (s : Sk) : Int := (65536 - s.lo) * 64 / (64 + s.rt)
/-- How many must go, that so many come: rounded up, without a limit. -/
def Sk.many (s : Sk) (c : Int) : Int := (c * 65536 + (65536 - s.lo) - 1) / (65536 - s.lo)
def Sk.need (s : Sk) (c l : Int) : Int := if s.many (if c < 0 then 0 else c) < (if l < 0 then 0 else l) then s.many (if c < 0 then 0 else c) else (if l < 0 then 0 else l)
end Go.Proofs.Ytjcbcdjfhcnhcaa
namespace Go.Proofs.Ytjcbcdjfhcnhcaa
open Go.RowKit

/-- A way's block. -/
def Blk13 (t : TypeId) (w : World) (b : Nat) (s : Sk) : Prop := w.heap[b]? = some (.cells #[.int .i64 s.lo, .int .i64 s.rt, .int .i64 s.va, .int .i64 s.ma, .int .i64 s.tr] t (0, 0))
/-- A way by value. -/
def SV (s : Sk) : Value := .agg #[.int .i64 s.lo, .int .i64 s.rt, .int .i64 s.va, .int .i64 s.ma, .int .i64 s.tr]
section
variable {t : TypeId} {w : World} {b : Nat} {s : Sk}
theorem Blk13.lt (h : Blk13 t w b s) : b < w.heap.size := (Array.getElem?_eq_some_iff.1 h).1
theorem Blk13.cells (h : Blk13 t w b s) : w.cell? ⟨b, 0, none⟩ = some (.int .i64 s.lo) ∧ w.cell? ⟨b, 1, none⟩ = some (.int .i64 s.rt) ∧ w.cell? ⟨b, 2, none⟩ = some (.int .i64 s.va) ∧ w.cell? ⟨b, 3, none⟩ = some (.int .i64 s.ma) ∧ w.cell? ⟨b, 4, none⟩ = some (.int .i64 s.tr) := by
  unfold Blk13 at h
  simp [World.cell?, h]
theorem Blk13.frozen (h : Blk13 t w b s) (i : Nat) : w.frozen? ⟨b, i, none⟩ = false := by
  unfold Blk13 at h
  simp [World.frozen?, h]
theorem Blk13.keep {w' : World} (h : Blk13 t w b s) (e : w'.heap[b]? = w.heap[b]?) : Blk13 t w' b s := e.trans h
theorem Blk13.drewN (h : Blk13 t w b s) (j : Nat) : Blk13 t (w.drewN j) b s := h.keep rfl
theorem Blk13.below {w' : World} {B : Nat} (h : Blk13 t w b s) (hb : Below B w w') (hB : b < B) : Blk13 t w' b s := h.keep (hb.block b hB)
theorem Blk13.set0 (h : Blk13 t w b s) (n : Int) : Blk13 t (w.setCell ⟨b, 0, none⟩ (.int .i64 n)) b ⟨n, s.rt, s.va, s.ma, s.tr⟩ := by
  unfold Blk13 at *
  simp [World.setCell, Array.getElem?_modify, h]
theorem Blk13.set4 (h : Blk13 t w b s) (n : Int) : Blk13 t (w.setCell ⟨b, 4, none⟩ (.int .i64 n)) b ⟨s.lo, s.rt, s.va, s.ma, n⟩ := by
  unfold Blk13 at *
  simp [World.setCell, Array.getElem?_modify, h]
theorem Blk13.other (h : Blk13 t w b s) {p : Addr} (hp : b ≠ p.block) (u : Value) : Blk13 t (w.setCell p u) b s := h.keep (Below.heap_setCell w p u b hp)
theorem Blk13.new (w : World) (s : Sk) (t : TypeId) : Blk13 t (w.alloc (.cells #[.int .i64 s.lo, .int .i64 s.rt, .int .i64 s.va, .int .i64 s.ma, .int .i64 s.tr] t)) w.heap.size s := Go.Deep.blk_alloc_new w _
end
/-- What a call by pointer may turn: its block, and what is new. -/
structure Frm13 (b : Nat) (w w' : World) : Prop where
  os : w'.os = w.os
  tape : w'.tape = w.tape
  output : w'.output = w.output
  size : w.heap.size ≤ w'.heap.size
  block : ∀ k, k < w.heap.size → k ≠ b → w'.heap[k]? = w.heap[k]?
theorem Frm13.refl (b : Nat) (w : World) : Frm13 b w w := ⟨rfl, rfl, rfl, Nat.le_refl _, fun _ _ _ => rfl⟩
theorem Frm13.trans {b : Nat} {w w1 w2 : World} (h : Frm13 b w w1) (k : Frm13 b w1 w2) : Frm13 b w w2 :=
  ⟨k.os.trans h.os, k.tape.trans h.tape, k.output.trans h.output, Nat.le_trans h.size k.size, fun i hi h1 => (k.block i (Nat.lt_of_lt_of_le hi h.size) h1).trans (h.block i hi h1)⟩
theorem Frm13.drewN {b : Nat} {w w' : World} (h : Frm13 b w w') (k : Nat) : Frm13 b w (w'.drewN k) := ⟨h.os, h.tape, h.output, h.size, h.block⟩
theorem Frm13.drew {b : Nat} {w w' : World} (h : Frm13 b w w') : Frm13 b w w'.drew := ⟨h.os, h.tape, h.output, h.size, h.block⟩
theorem Frm13.set {b : Nat} {w w' : World} (h : Frm13 b w w') (i : Nat) (v : Value) : Frm13 b w (w'.setCell ⟨b, i, none⟩ v) :=
  ⟨h.os, h.tape, h.output, by simpa using h.size, fun k hk h1 => (Below.heap_setCell _ _ _ k h1).trans (h.block k hk h1)⟩
theorem Frm13.bel {b B : Nat} {w w' w0 : World} (h : Frm13 b w w') (h0 : Below B w0 w) (hB : B ≤ w.heap.size) (hb : B ≤ b) : Below B w0 w' :=
  h0.trans ⟨h.os, h.tape, h.output, h.size, fun k hk => h.block k (by omega) (by omega)⟩

end Go.Proofs.Ytjcbcdjfhcnhcaa
namespace Go.Proofs.Ytjcbcdjfhcnhcaa
open Go.RowKit

end Go.Proofs.Ytjcbcdjfhcnhcaa
namespace Go.Proofs.Ytjcbcdjfhcnhcaa

/-- A number, from 0 to a limit. -/
def held16 (n l : Int) : Int := clampZ n 0 l
/-- The losses of a way of which nothing else is known. -/
def lost16 (l : Int) : Sk := ⟨l, 0, 0, 0, 0⟩
/-- How many. -/
def tgt (k l m : Int) : Int :=
  if held16 k 16 = 0 ∨ held16 l 65535 = 0 then 0 else held16 ((lost16 (held16 l 65535)).need (held16 k 16) 255 - held16 k 16 + 1) m
/-- A control. -/
structure Cn where
  now : Int
  most : Int
  calm : Int
structure Cn.ok (c : Cn) : Prop where
  n0 : 0 ≤ c.now
  n1 : c.now ≤ c.most
  m1 : c.most ≤ 16
  c0 : 0 ≤ c.calm
  c1 : c.calm ≤ 7
def Cn.next (c : Cn) (k l : Int) : Cn :=
  if c.now ≤ tgt k l c.most then ⟨tgt k l c.most, c.most, 0⟩
  else if 7 ≤ c.calm then ⟨c.now - 1, c.most, 0⟩
  else ⟨c.now, c.most, c.calm + 1⟩
/-- The rows of how likely each count is. -/
def od (l : Int) : Nat → Nat → Int
  | 0, i => if i = 0 then 65536 else 0
  | n + 1, i => od l n i * l / 65536 + (if i = 0 then 0 else od l n (i - 1) * (65536 - l) / 65536)
/-- What stands from one on, among the first ones. -/
def tl16 (f : Nat → Int) (a : Int) : Nat → Int
  | 0 => 0
  | m + 1 => tl16 f a m + (if a ≤ m then f m else 0)
section
variable {l : Int} (h0 : 0 ≤ l) (h1 : l ≤ 65536)
include h0 h1
end
/-- How likely it is that enough come. -/
def odds16 (s n l : Int) : Int := if s < 0 ∨ 32 < s ∨ s < n then 0 else tl16 (od (held16 l 65536) s.toNat) n 33
end Go.Proofs.Ytjcbcdjfhcnhcaa
namespace Go.Proofs.Ytjcbcdjfhcnhcaa
open Go

section
variable {F : Fence} {n : Nat} {P : Program} {md : Region.Mode} {C : World → Prop}

/-- What is asked of the operations ahead of the last one. -/
structure Ahead (md : Region.Mode) (l : List Oper) (last : Oper) : Prop where
  nodefer : ∀ o, o ∈ l → ∀ c, o.op ≠ .defer c
  plain : ∀ o, o ∈ l → o.guard = none
  plainLast : last.guard = none
  back : ∀ (i : Nat) (o : Oper), l[i]? = some o → ∀ e ∈ o.after, e.on < i
  backLast : ∀ e ∈ last.after, e.on < l.length
  used : ∀ j : Nat, j < l.length → ∃ (i : Nat) (o : Oper), j < i ∧ (l ++ [last])[i]? = some o ∧ ∃ e ∈ o.after, Region.binds md e = true ∧ e.on = j
/-- What has come up came up behind what it waits for. -/
def Closed (md : Region.Mode) (l : List Oper) (listed : Array Bool) : Prop :=
  ∀ (i : Nat) (o : Oper), l[i]? = some o → listed.getD i true = true → ∀ e ∈ o.after, Region.binds md e = true → listed.getD e.on false = true
variable {l : List Oper} {last : Oper}
variable {Q : Act → Prop} {Q' : Exit → Act → World → Prop}
/-- The check, by reckoning. -/
def aheadB (md : Region.Mode) (l : List Oper) (last : Oper) : Bool :=
  l.all (fun o => (match o.op with | .defer _ => false | _ => true) && o.guard.isNone) && last.guard.isNone &&
  (List.range l.length).all (fun i => ((l[i]?).map (fun o => o.after.toList.all fun e => decide (e.on < i))).getD true) &&
  last.after.toList.all (fun e => decide (e.on < l.length)) &&
  (List.range l.length).all (fun j => (List.range (l.length + 1)).any fun i => decide (j < i) && (((l ++ [last])[i]?).map (fun o => o.after.toList.any fun e => Region.binds md e && e.on == j)).getD false)
end
end Go.Proofs.Ytjcbcdjfhcnhcaa
namespace Go.Proofs.Ytjcbcdjfhcnhcaa
open Go

end Go.Proofs.Ytjcbcdjfhcnhcaa
namespace Go.Proofs.Ytjcbcdjfhcnhcaa
open Go

theorem wpIn_class {F : Fence} {n : Nat} {P : Program} {id : Nat} {Q : Exit → Act → World → Prop} {a : Act} {w : World} {l : List Oper} (C : World → Prop) (hC : C w.drew) (hro : F.round = none) (hm : P.follows .mixedOrders = true) (hB : Region.lexB .any l.toArray = true)
    (h : wpQuietIn F n P l.toArray C (fun a' => ∀ w', C w' → Q .normal a' w') l a) : (Code.region id l.toArray true).wpIn F n P Q a w :=
  wpIn_region_quiet (C := C) hro hm hB hC (by simpa using h)
/-- A guarded operation, whose guard is decided, that yields this value in every world of the class. -/
theorem wpQ_readw {F : Fence} {n : Nat} {P : Program} {ops : Array Oper} {C : World → Prop} {Q : Act → Prop} {a : Act} {o : Oper} {rest : List Oper} (v : Value) (ha : o.askedIn F P a C) (hg : Region.wanted o (yielded ops a.tmps) = true) (hv : ∀ w, C w → o.quietAtIn F n P a C w v) (h : wpQuietIn F n P ops C Q rest (a.put o.dst v)) : wpQuietIn F n P ops C Q (o :: rest) a :=
  ⟨ha, by rw [if_pos hg]; exact ⟨v, hv, h⟩⟩
end Go.Proofs.Ytjcbcdjfhcnhcaa
namespace Go.Proofs.Ytjcbcdjfhcnhcaa
open Go

/-- The first j have come. -/
def flags (j n : Nat) : Array Bool := Array.replicate j true ++ Array.replicate (n - j) false
section
variable {F : Fence} {n : Nat} {P : Program} {md : Region.Mode} {C : World → Prop} {Q' : Exit → Act → World → Prop}
/-- What is asked of the operations behind: each is bound to the one ahead of it. -/
def Chain (md : Region.Mode) (k : Nat) (T : List Oper) : Prop := ∀ (i : Nat) (o : Oper), T[i]? = some o → ∃ e ∈ o.after, Region.binds md e = true ∧ e.on = k + i
variable {l T : List Oper} {t : Oper}
variable {Q : Act → Prop}
/-- The check, by reckoning. -/
def tailB (md : Region.Mode) (ops : List Oper) (k : Nat) : Bool :=
  match ops.drop k with
  | [] => false
  | t :: T => aheadB md (ops.take k) t && (List.range T.length).all (fun i => ((T[i]?).map (fun o => o.after.toList.any fun e => Region.binds md e && e.on == k + i)).getD false) &&
    (List.range ops.length).all (fun i => decide (i < k) || Region.ready md ops.toArray (flags i ops.length) == [i]) && (Region.ready md ops.toArray (flags ops.length ops.length) == []) && decide (k < ops.length)
end
end Go.Proofs.Ytjcbcdjfhcnhcaa
namespace Go.Proofs.Ytjcbcdjfhcnhcaa
open Go.RowKit

/-- A product's two halves. -/
def hiZ (z : Int) : Int := z / 18446744073709551616
def loZ (z : Int) : Int := z % 18446744073709551616
theorem halves (z : Int) : z = hiZ z * 18446744073709551616 + loZ z ∧ 0 ≤ loZ z ∧ loZ z ≤ 18446744073709551615 := by unfold hiZ loZ; omega

end Go.Proofs.Ytjcbcdjfhcnhcaa
