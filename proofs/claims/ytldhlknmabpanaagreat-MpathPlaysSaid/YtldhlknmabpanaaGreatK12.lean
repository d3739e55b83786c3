/-
  Own text: which datagrams may be; formed, Check, walked.
-/
import Derived.Test.YtldhlknmabpanaaGreatK11
namespace Go.Proofs.YtldhlknmabpanaaGreat
open Go.RowKit

/-- A datagram in its box. -/
structure DBox (w : World) (b : Nat) (d : Dg) : Prop where
  lt : b < w.heap.size
  c0 : w.cell? ⟨b, 0, none⟩ = some (.int .i64 d.kind)
  c1 : w.cell? ⟨b, 1, none⟩ = some (.int .u32 d.ses)
  c2 : w.cell? ⟨b, 2, none⟩ = some (.int .u32 d.seq)
  c3 : w.cell? ⟨b, 3, none⟩ = some (.int .i64 d.path)
  c4 : w.cell? ⟨b, 4, none⟩ = some (.int .u32 d.tick)
  c5 : w.cell? ⟨b, 5, none⟩ = some (.int .u32 d.A)
  c6 : w.cell? ⟨b, 6, none⟩ = some (.int .u32 d.B)
  c7 : w.cell? ⟨b, 7, none⟩ = some (.int .i64 d.K)
  c8 : w.cell? ⟨b, 8, none⟩ = some (.int .i64 d.M)
  c9 : w.cell? ⟨b, 9, none⟩ = some (.int .i64 d.ix)
  c10 : w.cell? ⟨b, 10, none⟩ = some (.slice d.da d.dl d.dc)
theorem DBox.below {w w' : World} {b B : Nat} {d : Dg} (h : DBox w b d) (hb : Below B w w') (hB : b < B) : DBox w' b d :=
  ⟨Nat.lt_of_lt_of_le h.lt hb.size, (hb.cell (p := ⟨b, 0, none⟩) hB).trans h.c0, (hb.cell (p := ⟨b, 1, none⟩) hB).trans h.c1, (hb.cell (p := ⟨b, 2, none⟩) hB).trans h.c2, (hb.cell (p := ⟨b, 3, none⟩) hB).trans h.c3, (hb.cell (p := ⟨b, 4, none⟩) hB).trans h.c4,
    (hb.cell (p := ⟨b, 5, none⟩) hB).trans h.c5, (hb.cell (p := ⟨b, 6, none⟩) hB).trans h.c6, (hb.cell (p := ⟨b, 7, none⟩) hB).trans h.c7, (hb.cell (p := ⟨b, 8, none⟩) hB).trans h.c8, (hb.cell (p := ⟨b, 9, none⟩) hB).trans h.c9, (hb.cell (p := ⟨b, 10, none⟩) hB).trans h.c10⟩
abbrev Dg.cells (d : Dg) : Array Value := #[.int .i64 d.kind, .int .u32 d.ses, .int .u32 d.seq, .int .i64 d.path, .int .u32 d.tick, .int .u32 d.A, .int .u32 d.B, .int .i64 d.K, .int .i64 d.M, .int .i64 d.ix, .slice d.da d.dl d.dc]
theorem dbox_new (W : World) (d : Dg) (t : TypeId) : DBox (W.alloc (.cells d.cells t)) W.heap.size d := by
  have h := Go.Deep.blk_alloc_new W (.cells d.cells t)
  refine ⟨by simp, ?_, ?_, ?_, ?_, ?_, ?_, ?_, ?_, ?_, ?_, ?_⟩ <;> (simp only [World.cell?, h]; rfl)
theorem dbox_all (w : World) (d : Dg) (t : TypeId) (l : List Int) (hl : Bytes w d.da d.dl l) : Hid (∀ w', Below (w.alloc (.cells d.cells t)).heap.size (w.alloc (.cells d.cells t)) w' → DBox w' w.heap.size d ∧ Bytes w' d.da d.dl l ∧ Below w.heap.size w w') :=
  Lib.hid fun w' h => ⟨(dbox_new w d t).below h (by simp), (hl.below ((Below.refl w.heap.size w).alloc (Nat.le_refl _) _) (Nat.le_refl _)).below h (Nat.le_refl _), ((Below.refl w.heap.size w).alloc (Nat.le_refl _) _).trans (h.mono (by simp))⟩

/-- What hangs on the kind is as that asks. -/
def formP (d : Dg) (l : List Int) : Prop :=
  (d.kind = 2 ∧ codedB d = true ∧ 0 ≤ d.ix ∧ d.ix < d.K) ∨ (d.kind = 3 ∧ codedB d = true ∧ d.K ≤ d.ix ∧ d.ix < d.K + d.M) ∨ (d.kind = 4 ∧ bareB d = true ∧ d.B = 0 ∧ decide (0 < d.dl ∧ AskTo l d.dl) = true) ∨
  (d.kind = 5 ∧ bareB d = true ∧ d.dl = 4) ∨ (d.kind = 8 ∧ bareB d = true ∧ d.B = 0 ∧ d.dl = 0) ∨ (d.kind = 7 ∧ bareB d = true ∧ d.A = 0 ∧ d.B = 0 ∧ d.dl = 0) ∨ ((d.kind = 1 ∨ d.kind = 6) ∧ bareB d = true ∧ d.dl = 0)
open Classical in
set_option maxHeartbeats 4000000 in
theorem formed_any (d : Dg) (l : List Int) (w : World) (hl : Bytes w d.da d.dl l) (h1 : 1 ≤ d.kind) (h8 : d.kind ≤ 8) :
    Calls Tryz.prog 45 #[d.val] w fun e w' => e = .returned (.bool (decide (formP d l))) ∧ Below w.heap.size w w' := by
  have HX := dbox_all w d 50 l hl
  have HC := Lib.hid (fun w => coded_any d w)
  have HB := Lib.hid (fun w => bare_any d w)
  have HA := Lib.hid (fun w h => asking_any d.da d.dl d.dc l w h)
  obtain ⟨R, hR⟩ : ∃ R, R = decide (formP d l) := ⟨_, rfl⟩
  have HR : Hid (∀ b : Bool, (b = true ↔ formP d l) → b = R) := Lib.hid (fun b h => by rw [hR, Bool.eq_iff_iff, decide_eq_true_iff, h])
  rw [← hR]
  clear hR
  unfold formP at HR
  have hcK : codedB d = true → (1 ≤ d.K ∧ d.K ≤ 16) ∧ 0 ≤ d.M ∧ d.M ≤ 16 := by
    intro h
    unfold codedB at h
    rw [decide_eq_true_iff] at h
    omega
  obtain ⟨cb, hcb⟩ : ∃ cb, cb = codedB d := ⟨_, rfl⟩
  obtain ⟨bb, hbb⟩ : ∃ bb, bb = bareB d := ⟨_, rfl⟩
  obtain ⟨ab, hab⟩ : ∃ ab, ab = decide (0 < d.dl ∧ AskTo l d.dl) := ⟨_, rfl⟩
  rw [← hcb] at HC hcK HR
  rw [← hbb] at HB HR
  rw [← hab] at HA HR
  obtain ⟨kind, ses, seq, path, tick, A, B, K, M, ix, da, dl, dc⟩ := d
  dsimp only [Dg.val, Dg.cells] at *
  have hm := hl.max
  clear hcb hbb hab hl
  rcases (show kind = 1 ∨ kind = 2 ∨ kind = 3 ∨ kind = 4 ∨ kind = 5 ∨ kind = 6 ∨ kind = 7 ∨ kind = 8 by omega) with rfl | rfl | rfl | rfl | rfl | rfl | rfl | rfl
  · clear h1 h8
    have HS : Hid (∀ b : Bool, (b = true ↔ bb = true ∧ dl = 0) → b = R) := Lib.hid (fun b h => HR.out b (h.trans (by simp)))
    clear HR
    rcases bb with _ | _
    · clear hcK
      go_enter Tryz.func45, Tryz.ntmps45
      go_wp2_with first
        | (go_at_call 80; refine (HB.out _).mono ?_; rintro e w1 ⟨rfl, hb⟩; have HB1 := Lib.hid hb; clear hb; obtain ⟨_, x0, x1, x2, x3, x4, x5, x6, x7, x8, x9, x10⟩ := (HX.out _ HB1.out).1)
        | (go_at_call 79; refine (HC.out _).mono ?_; rintro e w1 ⟨rfl, hb⟩; have HB1 := Lib.hid hb; clear hb; obtain ⟨_, x0, x1, x2, x3, x4, x5, x6, x7, x8, x9, x10⟩ := (HX.out _ HB1.out).1)
        | (go_at_call 81; refine (HA.out _ (HX.out _ HB1.out).2.1).mono ?_; rintro e w2 ⟨rfl, rfl⟩)
      all_goals
        go_ret
        refine ⟨ret_bool (HS.out _ ?_), (HX.out _ HB1.out).2.2⟩
        clear HX HC HB HA HS HB1
        (try simp) <;> omega
    · clear hcK
      go_enter Tryz.func45, Tryz.ntmps45
      go_wp2_with first
        | (go_at_call 80; refine (HB.out _).mono ?_; rintro e w1 ⟨rfl, hb⟩; have HB1 := Lib.hid hb; clear hb; obtain ⟨_, x0, x1, x2, x3, x4, x5, x6, x7, x8, x9, x10⟩ := (HX.out _ HB1.out).1)
        | (go_at_call 79; refine (HC.out _).mono ?_; rintro e w1 ⟨rfl, hb⟩; have HB1 := Lib.hid hb; clear hb; obtain ⟨_, x0, x1, x2, x3, x4, x5, x6, x7, x8, x9, x10⟩ := (HX.out _ HB1.out).1)
        | (go_at_call 81; refine (HA.out _ (HX.out _ HB1.out).2.1).mono ?_; rintro e w2 ⟨rfl, rfl⟩)
      all_goals
        go_ret
        refine ⟨ret_bool (HS.out _ ?_), (HX.out _ HB1.out).2.2⟩
        clear HX HC HB HA HS HB1
        (try simp) <;> omega
  · clear h1 h8
    have HS : Hid (∀ b : Bool, (b = true ↔ cb = true ∧ 0 ≤ ix ∧ ix < K) → b = R) := Lib.hid (fun b h => HR.out b (h.trans (by simp)))
    clear HR
    rcases cb with _ | _
    · clear hcK
      go_enter Tryz.func45, Tryz.ntmps45
      go_wp2_with first
        | (go_at_call 80; refine (HB.out _).mono ?_; rintro e w1 ⟨rfl, hb⟩; have HB1 := Lib.hid hb; clear hb; obtain ⟨_, x0, x1, x2, x3, x4, x5, x6, x7, x8, x9, x10⟩ := (HX.out _ HB1.out).1)
        | (go_at_call 79; refine (HC.out _).mono ?_; rintro e w1 ⟨rfl, hb⟩; have HB1 := Lib.hid hb; clear hb; obtain ⟨_, x0, x1, x2, x3, x4, x5, x6, x7, x8, x9, x10⟩ := (HX.out _ HB1.out).1)
        | (go_at_call 81; refine (HA.out _ (HX.out _ HB1.out).2.1).mono ?_; rintro e w2 ⟨rfl, rfl⟩)
      all_goals
        go_ret
        refine ⟨ret_bool (HS.out _ ?_), (HX.out _ HB1.out).2.2⟩
        clear HX HC HB HA HS HB1
        (try simp) <;> omega
    · clear hcK
      go_enter Tryz.func45, Tryz.ntmps45
      go_wp2_with first
        | (go_at_call 80; refine (HB.out _).mono ?_; rintro e w1 ⟨rfl, hb⟩; have HB1 := Lib.hid hb; clear hb; obtain ⟨_, x0, x1, x2, x3, x4, x5, x6, x7, x8, x9, x10⟩ := (HX.out _ HB1.out).1)
        | (go_at_call 79; refine (HC.out _).mono ?_; rintro e w1 ⟨rfl, hb⟩; have HB1 := Lib.hid hb; clear hb; obtain ⟨_, x0, x1, x2, x3, x4, x5, x6, x7, x8, x9, x10⟩ := (HX.out _ HB1.out).1)
        | (go_at_call 81; refine (HA.out _ (HX.out _ HB1.out).2.1).mono ?_; rintro e w2 ⟨rfl, rfl⟩)
      all_goals
        go_ret
        refine ⟨ret_bool (HS.out _ ?_), (HX.out _ HB1.out).2.2⟩
        clear HX HC HB HA HS HB1
        (try simp) <;> omega
  · clear h1 h8
    have HS : Hid (∀ b : Bool, (b = true ↔ cb = true ∧ K ≤ ix ∧ ix < K + M) → b = R) := Lib.hid (fun b h => HR.out b (h.trans (by simp)))
    clear HR
    rcases cb with _ | _
    · clear hcK
      go_enter Tryz.func45, Tryz.ntmps45
      go_wp2_with first
        | (go_at_call 80; refine (HB.out _).mono ?_; rintro e w1 ⟨rfl, hb⟩; have HB1 := Lib.hid hb; clear hb; obtain ⟨_, x0, x1, x2, x3, x4, x5, x6, x7, x8, x9, x10⟩ := (HX.out _ HB1.out).1)
        | (go_at_call 79; refine (HC.out _).mono ?_; rintro e w1 ⟨rfl, hb⟩; have HB1 := Lib.hid hb; clear hb; obtain ⟨_, x0, x1, x2, x3, x4, x5, x6, x7, x8, x9, x10⟩ := (HX.out _ HB1.out).1)
        | (go_at_call 81; refine (HA.out _ (HX.out _ HB1.out).2.1).mono ?_; rintro e w2 ⟨rfl, rfl⟩)
      all_goals
        go_ret
        refine ⟨ret_bool (HS.out _ ?_), (HX.out _ HB1.out).2.2⟩
        clear HX HC HB HA HS HB1
        (try simp) <;> omega
    · have hw : wrap64 (K + M) = K + M := by
        have := hcK rfl
        unfold wrap64; omega
      clear hcK
      go_enter Tryz.func45, Tryz.ntmps45
      go_wp2_with first
        | (go_at_call 80; refine (HB.out _).mono ?_; rintro e w1 ⟨rfl, hb⟩; have HB1 := Lib.hid hb; clear hb; obtain ⟨_, x0, x1, x2, x3, x4, x5, x6, x7, x8, x9, x10⟩ := (HX.out _ HB1.out).1)
        | (go_at_call 79; refine (HC.out _).mono ?_; rintro e w1 ⟨rfl, hb⟩; have HB1 := Lib.hid hb; clear hb; obtain ⟨_, x0, x1, x2, x3, x4, x5, x6, x7, x8, x9, x10⟩ := (HX.out _ HB1.out).1)
        | (go_at_call 81; refine (HA.out _ (HX.out _ HB1.out).2.1).mono ?_; rintro e w2 ⟨rfl, rfl⟩)
      all_goals
        go_ret
        refine ⟨ret_bool (HS.out _ ?_), (HX.out _ HB1.out).2.2⟩
        clear HX HC HB HA HS HB1
        (try simp) <;> omega
  · clear h1 h8
    have HS : Hid (∀ b : Bool, (b = true ↔ bb = true ∧ B = 0 ∧ ab = true) → b = R) := Lib.hid (fun b h => HR.out b (h.trans (by simp)))
    clear HR
    rcases ab with _ | _
    all_goals rcases bb with _ | _
    all_goals
      go_enter Tryz.func45, Tryz.ntmps45
      go_wp2_with first
        | (go_at_call 80; refine (HB.out _).mono ?_; rintro e w1 ⟨rfl, hb⟩; have HB1 := Lib.hid hb; clear hb; obtain ⟨_, x0, x1, x2, x3, x4, x5, x6, x7, x8, x9, x10⟩ := (HX.out _ HB1.out).1)
        | (go_at_call 79; refine (HC.out _).mono ?_; rintro e w1 ⟨rfl, hb⟩; have HB1 := Lib.hid hb; clear hb; obtain ⟨_, x0, x1, x2, x3, x4, x5, x6, x7, x8, x9, x10⟩ := (HX.out _ HB1.out).1)
        | (go_at_call 81; refine (HA.out _ (HX.out _ HB1.out).2.1).mono ?_; rintro e w2 ⟨rfl, rfl⟩)
      all_goals
        go_ret
        refine ⟨ret_bool (HS.out _ ?_), (HX.out _ HB1.out).2.2⟩
        clear HX HC HB HA HS HB1
        (try simp) <;> omega
  · clear h1 h8
    have HS : Hid (∀ b : Bool, (b = true ↔ bb = true ∧ dl = 4) → b = R) := Lib.hid (fun b h => HR.out b (h.trans (by simp)))
    clear HR
    rcases bb with _ | _
    · clear hcK
      go_enter Tryz.func45, Tryz.ntmps45
      go_wp2_with first
        | (go_at_call 80; refine (HB.out _).mono ?_; rintro e w1 ⟨rfl, hb⟩; have HB1 := Lib.hid hb; clear hb; obtain ⟨_, x0, x1, x2, x3, x4, x5, x6, x7, x8, x9, x10⟩ := (HX.out _ HB1.out).1)
        | (go_at_call 79; refine (HC.out _).mono ?_; rintro e w1 ⟨rfl, hb⟩; have HB1 := Lib.hid hb; clear hb; obtain ⟨_, x0, x1, x2, x3, x4, x5, x6, x7, x8, x9, x10⟩ := (HX.out _ HB1.out).1)
        | (go_at_call 81; refine (HA.out _ (HX.out _ HB1.out).2.1).mono ?_; rintro e w2 ⟨rfl, rfl⟩)
      all_goals
        go_ret
        refine ⟨ret_bool (HS.out _ ?_), (HX.out _ HB1.out).2.2⟩
        clear HX HC HB HA HS HB1
        (try simp) <;> omega
    · clear hcK
      go_enter Tryz.func45, Tryz.ntmps45
      go_wp2_with first
        | (go_at_call 80; refine (HB.out _).mono ?_; rintro e w1 ⟨rfl, hb⟩; have HB1 := Lib.hid hb; clear hb; obtain ⟨_, x0, x1, x2, x3, x4, x5, x6, x7, x8, x9, x10⟩ := (HX.out _ HB1.out).1)
        | (go_at_call 79; refine (HC.out _).mono ?_; rintro e w1 ⟨rfl, hb⟩; have HB1 := Lib.hid hb; clear hb; obtain ⟨_, x0, x1, x2, x3, x4, x5, x6, x7, x8, x9, x10⟩ := (HX.out _ HB1.out).1)
        | (go_at_call 81; refine (HA.out _ (HX.out _ HB1.out).2.1).mono ?_; rintro e w2 ⟨rfl, rfl⟩)
      all_goals
        go_ret
        refine ⟨ret_bool (HS.out _ ?_), (HX.out _ HB1.out).2.2⟩
        clear HX HC HB HA HS HB1
        (try simp) <;> omega
  · clear h1 h8
    have HS : Hid (∀ b : Bool, (b = true ↔ bb = true ∧ dl = 0) → b = R) := Lib.hid (fun b h => HR.out b (h.trans (by simp)))
    clear HR
    rcases bb with _ | _
    · clear hcK
      go_enter Tryz.func45, Tryz.ntmps45
      go_wp2_with first
        | (go_at_call 80; refine (HB.out _).mono ?_; rintro e w1 ⟨rfl, hb⟩; have HB1 := Lib.hid hb; clear hb; obtain ⟨_, x0, x1, x2, x3, x4, x5, x6, x7, x8, x9, x10⟩ := (HX.out _ HB1.out).1)
        | (go_at_call 79; refine (HC.out _).mono ?_; rintro e w1 ⟨rfl, hb⟩; have HB1 := Lib.hid hb; clear hb; obtain ⟨_, x0, x1, x2, x3, x4, x5, x6, x7, x8, x9, x10⟩ := (HX.out _ HB1.out).1)
        | (go_at_call 81; refine (HA.out _ (HX.out _ HB1.out).2.1).mono ?_; rintro e w2 ⟨rfl, rfl⟩)
      all_goals
        go_ret
        refine ⟨ret_bool (HS.out _ ?_), (HX.out _ HB1.out).2.2⟩
        clear HX HC HB HA HS HB1
        (try simp) <;> omega
    · clear hcK
      go_enter Tryz.func45, Tryz.ntmps45
      go_wp2_with first
        | (go_at_call 80; refine (HB.out _).mono ?_; rintro e w1 ⟨rfl, hb⟩; have HB1 := Lib.hid hb; clear hb; obtain ⟨_, x0, x1, x2, x3, x4, x5, x6, x7, x8, x9, x10⟩ := (HX.out _ HB1.out).1)
        | (go_at_call 79; refine (HC.out _).mono ?_; rintro e w1 ⟨rfl, hb⟩; have HB1 := Lib.hid hb; clear hb; obtain ⟨_, x0, x1, x2, x3, x4, x5, x6, x7, x8, x9, x10⟩ := (HX.out _ HB1.out).1)
        | (go_at_call 81; refine (HA.out _ (HX.out _ HB1.out).2.1).mono ?_; rintro e w2 ⟨rfl, rfl⟩)
      all_goals
        go_ret
        refine ⟨ret_bool (HS.out _ ?_), (HX.out _ HB1.out).2.2⟩
        clear HX HC HB HA HS HB1
        (try simp) <;> omega
  · clear h1 h8
    have HS : Hid (∀ b : Bool, (b = true ↔ bb = true ∧ A = 0 ∧ B = 0 ∧ dl = 0) → b = R) := Lib.hid (fun b h => HR.out b (h.trans (by simp)))
    clear HR
    rcases bb with _ | _
    · clear hcK
      go_enter Tryz.func45, Tryz.ntmps45
      go_wp2_with first
        | (go_at_call 80; refine (HB.out _).mono ?_; rintro e w1 ⟨rfl, hb⟩; have HB1 := Lib.hid hb; clear hb; obtain ⟨_, x0, x1, x2, x3, x4, x5, x6, x7, x8, x9, x10⟩ := (HX.out _ HB1.out).1)
        | (go_at_call 79; refine (HC.out _).mono ?_; rintro e w1 ⟨rfl, hb⟩; have HB1 := Lib.hid hb; clear hb; obtain ⟨_, x0, x1, x2, x3, x4, x5, x6, x7, x8, x9, x10⟩ := (HX.out _ HB1.out).1)
        | (go_at_call 81; refine (HA.out _ (HX.out _ HB1.out).2.1).mono ?_; rintro e w2 ⟨rfl, rfl⟩)
      all_goals
        go_ret
        refine ⟨ret_bool (HS.out _ ?_), (HX.out _ HB1.out).2.2⟩
        clear HX HC HB HA HS HB1
        (try simp) <;> omega
    · clear hcK
      go_enter Tryz.func45, Tryz.ntmps45
      go_wp2_with first
        | (go_at_call 80; refine (HB.out _).mono ?_; rintro e w1 ⟨rfl, hb⟩; have HB1 := Lib.hid hb; clear hb; obtain ⟨_, x0, x1, x2, x3, x4, x5, x6, x7, x8, x9, x10⟩ := (HX.out _ HB1.out).1)
        | (go_at_call 79; refine (HC.out _).mono ?_; rintro e w1 ⟨rfl, hb⟩; have HB1 := Lib.hid hb; clear hb; obtain ⟨_, x0, x1, x2, x3, x4, x5, x6, x7, x8, x9, x10⟩ := (HX.out _ HB1.out).1)
        | (go_at_call 81; refine (HA.out _ (HX.out _ HB1.out).2.1).mono ?_; rintro e w2 ⟨rfl, rfl⟩)
      all_goals
        go_ret
        refine ⟨ret_bool (HS.out _ ?_), (HX.out _ HB1.out).2.2⟩
        clear HX HC HB HA HS HB1
        (try simp) <;> omega
  · clear h1 h8
    have HS : Hid (∀ b : Bool, (b = true ↔ bb = true ∧ B = 0 ∧ dl = 0) → b = R) := Lib.hid (fun b h => HR.out b (h.trans (by simp)))
    clear HR
    rcases bb with _ | _
    · clear hcK
      go_enter Tryz.func45, Tryz.ntmps45
      go_wp2_with first
        | (go_at_call 80; refine (HB.out _).mono ?_; rintro e w1 ⟨rfl, hb⟩; have HB1 := Lib.hid hb; clear hb; obtain ⟨_, x0, x1, x2, x3, x4, x5, x6, x7, x8, x9, x10⟩ := (HX.out _ HB1.out).1)
        | (go_at_call 79; refine (HC.out _).mono ?_; rintro e w1 ⟨rfl, hb⟩; have HB1 := Lib.hid hb; clear hb; obtain ⟨_, x0, x1, x2, x3, x4, x5, x6, x7, x8, x9, x10⟩ := (HX.out _ HB1.out).1)
        | (go_at_call 81; refine (HA.out _ (HX.out _ HB1.out).2.1).mono ?_; rintro e w2 ⟨rfl, rfl⟩)
      all_goals
        go_ret
        refine ⟨ret_bool (HS.out _ ?_), (HX.out _ HB1.out).2.2⟩
        clear HX HC HB HA HS HB1
        (try simp) <;> omega
    · clear hcK
      go_enter Tryz.func45, Tryz.ntmps45
      go_wp2_with first
        | (go_at_call 80; refine (HB.out _).mono ?_; rintro e w1 ⟨rfl, hb⟩; have HB1 := Lib.hid hb; clear hb; obtain ⟨_, x0, x1, x2, x3, x4, x5, x6, x7, x8, x9, x10⟩ := (HX.out _ HB1.out).1)
        | (go_at_call 79; refine (HC.out _).mono ?_; rintro e w1 ⟨rfl, hb⟩; have HB1 := Lib.hid hb; clear hb; obtain ⟨_, x0, x1, x2, x3, x4, x5, x6, x7, x8, x9, x10⟩ := (HX.out _ HB1.out).1)
        | (go_at_call 81; refine (HA.out _ (HX.out _ HB1.out).2.1).mono ?_; rintro e w2 ⟨rfl, rfl⟩)
      all_goals
        go_ret
        refine ⟨ret_bool (HS.out _ ?_), (HX.out _ HB1.out).2.2⟩
        clear HX HC HB HA HS HB1
        (try simp) <;> omega

open Classical in
/-- Check's number. -/
noncomputable def chk (d : Dg) (l : List Int) : Int := if d.kind < 1 ∨ 8 < d.kind then 72 else if ¬ (0 ≤ d.path ∧ d.path < 2 ∧ formP d l) then 73 else 0
theorem chk_ok {d : Dg} {l : List Int} (h : chk d l = 0) : 1 ≤ d.kind ∧ d.kind ≤ 8 ∧ 0 ≤ d.path ∧ d.path < 2 ∧ formP d l := by
  unfold chk at h
  split at h
  · omega
  · split at h
    · omega
    · rename_i h1 h2
      have h2 := Classical.not_not.1 h2
      exact ⟨by omega, by omega, h2⟩
open Classical in
set_option maxHeartbeats 4000000 in
theorem check_any (d : Dg) (l : List Int) (w : World) (hl : Bytes w d.da d.dl l) :
    Calls Tryz.prog 15 #[d.val] w fun e w' => e = .returned (.int .i64 (chk d l)) ∧ Below w.heap.size w w' := by
  have HX := dbox_all w d 50 l hl
  have HF := Lib.hid (fun w h => formed_any d l w h)
  obtain ⟨R, hR⟩ : ∃ R, R = chk d l := ⟨_, rfl⟩
  have HR := Lib.hid hR
  rw [← hR]
  clear hR
  unfold chk at HR
  have hm := hl.max
  clear hl
  by_cases h1 : d.kind < 1
  · go_enter Tryz.func15, Tryz.ntmps15
    go_wp2
    go_ret
    exact ⟨ret_int (by rw [HR.out, if_pos (.inl h1)]), (Below.refl w.heap.size w).alloc (Nat.le_refl _) _⟩
  by_cases h8 : 8 < d.kind
  · go_enter Tryz.func15, Tryz.ntmps15
    go_wp2
    go_ret
    exact ⟨ret_int (by rw [HR.out, if_pos (.inr h8)]), (Below.refl w.heap.size w).alloc (Nat.le_refl _) _⟩
  rw [if_neg (by omega)] at HR
  by_cases p0 : d.path < 0
  · go_enter Tryz.func15, Tryz.ntmps15
    go_wp2
    go_ret
    exact ⟨ret_int (by rw [HR.out, if_pos (by omega)]), (Below.refl w.heap.size w).alloc (Nat.le_refl _) _⟩
  by_cases p1 : 2 ≤ d.path
  · go_enter Tryz.func15, Tryz.ntmps15
    go_wp2
    go_ret
    exact ⟨ret_int (by rw [HR.out, if_pos (by omega)]), (Below.refl w.heap.size w).alloc (Nat.le_refl _) _⟩
  by_cases hf : formP d l
  · have HF := Lib.hid (fun w h => HF.out w h (by omega) (by omega))
    rw [decide_eq_true hf] at HF
    rw [if_neg (not_not_intro ⟨by omega, by omega, hf⟩)] at HR
    clear hf
    go_enter Tryz.func15, Tryz.ntmps15
    go_wp2_with first
      | (go_at_call 45; refine (HF.out _ (HX.out _ (Below.refl _ _)).2.1).mono ?_; rintro e w1 ⟨rfl, hb⟩; have HB1 := Lib.hid hb; clear hb)
    go_ret
    exact ⟨ret_int HR.out.symm, (HX.out _ HB1.out).2.2⟩
  · have HF := Lib.hid (fun w h => HF.out w h (by omega) (by omega))
    rw [decide_eq_false hf] at HF
    rw [if_pos (fun h => hf h.2.2)] at HR
    clear hf
    go_enter Tryz.func15, Tryz.ntmps15
    go_wp2_with first
      | (go_at_call 45; refine (HF.out _ (HX.out _ (Below.refl _ _)).2.1).mono ?_; rintro e w1 ⟨rfl, hb⟩; have HB1 := Lib.hid hb; clear hb)
    go_ret
    exact ⟨ret_int HR.out.symm, (HX.out _ HB1.out).2.2⟩
end Go.Proofs.YtldhlknmabpanaaGreat
