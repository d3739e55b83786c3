/-
  Own text: the law's play, walked.
-/
import Derived.Test.YtjkobejhbgjhlaaRgN
import Derived.BigRegion
namespace Go.Proofs.Ytjkobejhbgjhlaa
open Go.RowKit

/-- A script that came in. -/
def Ops (w : World) (a : Option Addr) (n : Nat) (K N V : Nat → Int) : Prop :=
  n = 0 ∨ ∃ g off, a = some ⟨g, off, none⟩ ∧ g < w.heap.size ∧ ∀ i, i < n → w.cell? ⟨g, off + i * 3, none⟩ = some (.int .i64 (K i)) ∧ w.cell? ⟨g, off + i * 3 + 1, none⟩ = some (.int .i64 (N i)) ∧ w.cell? ⟨g, off + i * 3 + 2, none⟩ = some (.int .i64 (V i))
theorem Ops.below {w w' : World} {a : Option Addr} {n : Nat} {K N V : Nat → Int} (h : Ops w a n K N V) {B : Nat} (hb : Below B w w') (hB : w.heap.size ≤ B) : Ops w' a n K N V :=
  h.imp id fun ⟨g, off, e, hl, hc⟩ => ⟨g, off, e, Nat.lt_of_lt_of_le hl hb.size, fun i hi => ⟨(hb.cell (p := ⟨g, off + i * 3, none⟩) (by show g < B; omega)).trans (hc i hi).1, (hb.cell (p := ⟨g, off + i * 3 + 1, none⟩) (by show g < B; omega)).trans (hc i hi).2.1, (hb.cell (p := ⟨g, off + i * 3 + 2, none⟩) (by show g < B; omega)).trans (hc i hi).2.2⟩⟩
theorem Lo0 {w W : World} {room : Nat} (hs : W.heap.size = w.heap.size + 2) (hb : Below w.heap.size w W) (h0 : DBx W w.heap.size 0 0 (.slice none 0 0)) (h1 : DBx W (w.heap.size + 1) room 0 (.slice none 0 0)) {w1 : World} (hr : RB w1 W.heap.size ⟨room, 0, []⟩ none 0 []) (hb1 : Below W.heap.size W w1) : Lo w W.heap.size ⟨room, 0, []⟩ none 0 w1 :=
  ⟨none, 0, [], Tw.start (W := w1) hr rfl (by omega) (h0.below hb1 h0.lt) (h1.below hb1 h1.lt), hb.trans (hb1.mono (by omega))⟩
/-- The play's two boxes. -/
theorem box2_new2 (w : World) (room : Nat) {W : World} (hW : W = (w.alloc (.cells #[.int .i64 0, .int .i64 0, .slice none 0 0] 27)).alloc (.cells #[.int .i64 (room : Int), .int .i64 0, .slice none 0 0] 27)) {w1 : World} (hr : RB w1 W.heap.size ⟨room, 0, []⟩ none 0 []) (hb1 : Below W.heap.size W w1) : Lo w W.heap.size ⟨room, 0, []⟩ none 0 w1 := by
  have hs : W.heap.size = w.heap.size + 2 := by rw [hW]; simp
  have hb : Below w.heap.size w W := by rw [hW]; exact ((Below.refl w.heap.size w).alloc (Nat.le_refl _) _).alloc (by simp) _
  have h0 := DBx.new w 0 0 (.slice none 0 0)
  have h0' : DBx W w.heap.size 0 0 (.slice none 0 0) := by rw [hW]; exact h0.keep (Below.heap_alloc _ _ _ (by simp))
  have h1 := DBx.new (w.alloc (.cells #[.int .i64 0, .int .i64 0, .slice none 0 0] 27)) room 0 (.slice none 0 0)
  have h1' : DBx W (w.heap.size + 1) room 0 (.slice none 0 0) := by rw [hW]; simpa using h1
  exact Lo0 hs hb h0' h1' hr hb1
theorem Rn.put_room (R : Rn) (v : Int) : (R.put v).room = R.room := by unfold Rn.put; split <;> rfl
theorem Rn.set_room (R : Rn) (n v : Int) : (R.set n v).room = R.room := by unfold Rn.set; split <;> rfl
theorem same_st0 {w W : World} {e b room z k : Nat} {kd n v : Int} (hk : k ≤ 1000000) (hf : (⟨room, z, []⟩ : Rn).fit k) (h : St w e kd n v b ⟨room, z, []⟩ ⟨room, z, []⟩ none 0 W) :
    Calls Try.prog 31 #[.pointer (some ⟨b, 0, none⟩), .agg #[.int .i64 (room : Int), .int .i64 (z : Int), .slice none 0 0]] W fun x W' => x = .returned (.bool true) ∧ Hid (St w e kd n v b ⟨room, z, []⟩ ⟨room, z, []⟩ none 0 W') := same_st hk hf h
/-- What the play leaves. -/
def Fin9 (w : World) (b : Nat) (R : Rn) (A2 : Option Addr) (C2 : Nat) (W : World) : Prop := From W w.heap.size b R ∧ DL W R A2 C2 ∧ Below w.heap.size w W
theorem Lo.fin {w W : World} {b : Nat} {R : Rn} {A2 : Option Addr} {C2 : Nat} (h : Lo w b R A2 C2 W) (x y z : Value) : Fin9 w b R A2 C2 ((((W.setCell ⟨w.heap.size, 0, none⟩ x).setCell ⟨w.heap.size, 1, none⟩ y).setCell ⟨w.heap.size, 2, none⟩ z)) := by
  obtain ⟨A, C, xs, h1, h2⟩ := h
  have e : ∀ k, k ≠ w.heap.size → (((W.setCell ⟨w.heap.size, 0, none⟩ x).setCell ⟨w.heap.size, 1, none⟩ y).setCell ⟨w.heap.size, 2, none⟩ z).heap[k]? = W.heap[k]? := fun k hk => by
    rw [Below.heap_setCell _ ⟨w.heap.size, 2, none⟩ _ k hk, Below.heap_setCell _ ⟨w.heap.size, 1, none⟩ _ k hk, Below.heap_setCell _ ⟨w.heap.size, 0, none⟩ _ k hk]
  have hb := h1.sb
  have hl := ((h2.setCell (p := ⟨w.heap.size, 0, none⟩) (Nat.le_refl _) x).setCell (p := ⟨w.heap.size, 1, none⟩) (Nat.le_refl _) y).setCell (p := ⟨w.heap.size, 2, none⟩) (Nat.le_refl _) z
  refine ⟨⟨A, C, xs, h1.rb.keep (e b (by omega)) (fun g hg => e g ?_), by omega, hl.size, fun k hk => ?_⟩, OwnI.keep h1.dl (fun g hg => e g ?_), hl⟩
  · have := h1.ss g (by rw [← own_block]; exact hg); omega
  · have := h1.ss k (by rw [← own_block]; exact hk); omega
  · have := h1.sd g (by rw [← own_block]; exact hg); omega
/-- The play goes by. -/
def Went0 (room : Int) (w : World) (x : Ending) (W : World) : Prop :=
  x = .returned (.tuple #[.pointer none, .agg #[.int .i64 room, .int .i64 0, .slice none 0 0], .bool true]) ∧ Below w.heap.size w W
set_option maxRecDepth 100000 in
set_option maxHeartbeats 4000000 in
theorem played9_any (room : Nat) (h1 : 1 ≤ room) (h2 : room ≤ 40) (a : Option Addr) (n c : Nat) (hn : n ≤ 60) (K N V : Nat → Int) (w : World) (ho : Ops w a n K N V) :
    Calls Try.prog 8 #[.int .i64 (room : Int), .slice a n c] w fun x W => ∃ b R A2 C2, x = .returned (.tuple #[.pointer (some ⟨b, 0, none⟩), DV R A2 C2, .bool true]) ∧ Hid (R.fit 60 ∧ R.room = room) ∧ Hid (Fin9 w b R A2 C2 W) := by
  have HO := Lib.hid ho
  have n0 : ¬ (room : Int) < 1 := by omega
  have n1 : ¬ (40 : Int) < (room : Int) := by omega
  have n2 : ¬ (60 : Int) < (n : Int) := by omega
  have CN := Lib.hid (new_any room h1 (by omega))
  go_enter Try.func8, Try.ntmps8
  go_upto_region 2 with fail
  obtain ⟨W, hW⟩ : ∃ W, W = (w.alloc (.cells #[.int .i64 0, .int .i64 0, .slice none 0 0] 27)).alloc (.cells #[.int .i64 (room : Int), .int .i64 0, .slice none 0 0] 27) := ⟨_, rfl⟩
  rw [← hW]
  have H0 := Lib.hid (fun w1 => box2_new2 w room hW (w1 := w1))
  clear hW
  go_wp2_with (first
    | (go_at_call 19; (with_reducible refine (CN.out _).mono ?_); rintro e w1 ⟨rfl, HR, HB⟩)
    | fail)
  have H1 : Hid (Lo w W.heap.size ⟨room, 0, []⟩ none 0 w1) := Lib.hid (H0.out w1 HR.out HB.out)
  have HF0 : Hid ((⟨room, 0, []⟩ : Rn).fit 0 ∧ (⟨room, 0, []⟩ : Rn).room = room) := Lib.hid ⟨⟨h1, by show room ≤ 4096; omega, by show 0 ≤ room; omega, by show 0 + 0 ≤ 1099511627776 + 0; omega⟩, rfl⟩
  clear H0 HR HB CN n0 n1 n2
  generalize W.heap.size = b0 at *
  go_loopw [8, 10] (fun p i wr => ∃ (b j : Nat) (R : Rn) (A2 : Option Addr) (C2 : Nat), p = .pointer (some ⟨b, 0, none⟩) ∧ i = .int .i64 (j : Int) ∧ j ≤ n ∧ Hid (R.fit j ∧ R.room = room) ∧ Hid (Lo w b R A2 C2 wr)) (fun _ i _ => n - (intOf i).toNat)
  case atStart => exact ⟨b0, 0, ⟨room, 0, []⟩, none, 0, rfl, rfl, Nat.zero_le _, HF0, H1⟩
  case round =>
    obtain ⟨b, j, R, A2, C2, rfl, rfl, hj, HF, HL⟩ := hrel
    obtain ⟨wo, hwo⟩ : ∃ wo, wo = wr := ⟨_, rfl⟩
    subst hwo
    by_cases hlt : j < n
    · obtain ⟨g, off, rfl, c0, c1, c2⟩ : ∃ g off, a = some ⟨g, off, none⟩ ∧ wo.cell? ⟨g, off + j * 3, none⟩ = some (.int .i64 (K j)) ∧ wo.cell? ⟨g, off + j * 3 + 1, none⟩ = some (.int .i64 (N j)) ∧ wo.cell? ⟨g, off + j * 3 + 2, none⟩ = some (.int .i64 (V j)) := by
        rcases HO.out.below HL.out.bel (Nat.le_refl _) with h | ⟨g, off, e, _, h⟩
        · omega
        · exact ⟨g, off, e, h j hlt⟩
      have k1 : (j : Int) < n := by omega
      have k2 : (0 : Int) ≤ (j : Int) := by omega
      have k3 : (j : Int) ≤ 60 := by omega
      have HS := Lib.hid (HL.out.start (K j) (N j) (V j))
      have HJ : Hid (R.fit j) := Lib.hid HF.out.1
      have HRM : Hid (R.room = room) := Lib.hid HF.out.2
      have HJK : Hid (j ≤ 1000000 ∧ j + 1 ≤ n ∧ j + 1 ≤ 1000000) := Lib.hid ⟨by omega, by omega, by omega⟩
      clear hlt hj HF
      generalize K j = kd at *
      generalize N j = nn at *
      generalize V j = vv at *
      go_upto_region 11 with fail
      generalize wo.alloc (.cells #[.int .i64 kd, .int .i64 nn, .int .i64 vv] 47) = W1 at *
      generalize wo.heap.size = e at *
      clear c0 c1 c2 HL HO
      by_cases hk0 : kd = 0
      · subst hk0
        have HR2 : Hid ((R.put vv).fit (j + 1) ∧ (R.put vv).room = room) := Lib.hid ⟨Rn.put_fit HJ.out vv, (Rn.put_room R vv).trans HRM.out⟩
        have CP := Lib.hid (fun W (h : St w e 0 nn vv b R R A2 C2 W) => put_st HJK.out.1 vv HJ.out h)
        have CX := Lib.hid (fun R1 W (h : St w e 0 nn vv b R1 R A2 C2 W) => next_st HJK.out.1 HJ.out h)
        have CR := Lib.hid (fun W (h : St w e 0 nn vv b (R.put vv) R A2 C2 W) => rput_st HJK.out.1 vv HJ.out h)
        have CS := Lib.hid (fun A3 C3 W (h : St w e 0 nn vv b (R.put vv) (R.put vv) A3 C3 W) => same_st HJK.out.2.2 HR2.out.1 h)
        generalize R.put vv = R2 at *
        have bn : ((R.next : Int) != (R.next : Int)) = false := by simp
        obtain ⟨o0, o1, o2, q0, q1, q2⟩ := HS.out.loads
        go_upto_region 13 with fail
        go_cut [61] (fun s61 wx => s61 = .bool false ∧ Hid (St w e 0 nn vv b R2 R A2 C2 wx))
        case first =>
          have cc : St w e 0 nn vv b R R A2 C2 W1.drew := HS.out.drew
          have CC : Hid (∀ R1 W, St w e 0 nn vv b R1 R A2 C2 W → W.cell? ⟨e, 2, none⟩ = some (.int .i64 vv) ∧ W.cell? ⟨w.heap.size + 1, 0, none⟩ = some (.int .i64 (R.room : Int)) ∧ W.cell? ⟨w.heap.size + 1, 1, none⟩ = some (.int .i64 (R.first : Int)) ∧ W.cell? ⟨w.heap.size + 1, 2, none⟩ = some (.slice A2 R.l.length C2)) := Lib.hid (fun R1 W h => h.loads.2.2)
          clear o0 o1 o2 q0 q1 q2
          go_region_held3 (fun w' => w'.cell? ⟨e, 2, none⟩ = some (.int .i64 vv) ∧ w'.cell? ⟨w.heap.size + 1, 0, none⟩ = some (.int .i64 (R.room : Int)) ∧ w'.cell? ⟨w.heap.size + 1, 1, none⟩ = some (.int .i64 (R.first : Int)) ∧ w'.cell? ⟨w.heap.size + 1, 2, none⟩ = some (.slice A2 R.l.length C2))
            (first
              | exact CC.out _ _ cc
              | exact CC.out _ _ HS.out
              | fail "keep")
            (first
              | (go_at_call 17; (with_reducible refine (CP.out _ cc).mono ?_); rintro x w3 ⟨rfl, hp⟩; replace cc := hp.out; clear hp)
              | (go_at_call 21; (with_reducible refine (CX.out _ _ cc).mono ?_); rintro x w4 ⟨rfl, hp⟩; replace cc := hp.out; clear hp)
              | fail "arm")
          all_goals
            have HF := Lib.hid cc
            clear cc
            go_wp2_with fail
            go_meet
            exact ⟨rfl, HF⟩
        case rest =>
          obtain ⟨rfl, HS2⟩ := hcut
          clear o0 o1 o2 q0 q1 q2
          obtain ⟨o0, o1, o2, q0, q1, q2⟩ := HS2.out.loads
          go_wp2_with (first
            | (go_at_call 22; (with_reducible refine (CR.out _ HS2.out).mono ?_); rintro x w7 ⟨A3, C3, rfl, HX, HS8⟩; obtain ⟨p0, p1, p2⟩ := HX.out.cells; have f0 := HX.out.frozen 0; have f1 := HX.out.frozen 1; have f2 := HX.out.frozen 2)
            | (go_at_call 31; (with_reducible refine (CS.out _ _ _ HS8.out).mono ?_); rintro x w9 ⟨rfl, HS9⟩)
            | fail)
          go_roundw
          case rel => exact ⟨b, j + 1, R2, A3, C3, rfl, by go_num, HJK.out.2.1, Lib.hid HR2.out, Lib.hid HS9.out.lo⟩
          case measure => simp [intOf] <;> omega
      · -- not 0
        by_cases hk1 : kd = 1
        · subst hk1
          have HR2 : Hid ((R.set nn vv).fit (j + 1) ∧ (R.set nn vv).room = room) := Lib.hid ⟨Rn.fit_more (Rn.set_fit HJ.out nn vv) (Nat.le_succ j), (Rn.set_room R nn vv).trans HRM.out⟩
          have CD := Lib.hid (rset_st HJK.out.1 nn vv HJ.out HS.out)
          have CP := Lib.hid (fun g A3 C3 W (h : Sp w e 1 nn vv b g R R (R.set nn vv) A2 C2 A3 C3 W) => setp_st HJK.out.1 nn vv HJ.out h)
          have CS := Lib.hid (fun A3 C3 W (h : St w e 1 nn vv b (R.set nn vv) (R.set nn vv) A3 C3 W) => same_st HJK.out.2.2 HR2.out.1 h)
          have bn : (R.kept nn != R.kept nn) = false := by simp
          generalize R.set nn vv = R2 at *
          generalize R.kept nn = q at *
          obtain ⟨o0, o1, o2, q0, q1, q2⟩ := HS.out.loads
          go_wp2_with (first
            | (go_at_call 23; (with_reducible refine (CD.out).mono ?_); rintro x w3 ⟨A3, C3, rfl, HP3⟩; obtain ⟨s0, s1, s2⟩ := HP3.out.op.cells)
            | (go_at_call 24; (with_reducible refine (CP.out _ _ _ _ HP3.out).mono ?_); rintro x w4 ⟨rfl, HP4⟩; have HS8 := Lib.hid HP4.out.done; obtain ⟨p0, p1, p2⟩ := HP4.out.box.cells; have f0 := HP4.out.box.frozen 0; have f1 := HP4.out.box.frozen 1; have f2 := HP4.out.box.frozen 2; obtain ⟨m0, m1, m2⟩ := HP4.out.new.cells)
            | (go_at_call 31; (with_reducible refine (CS.out _ _ _ HS8.out).mono ?_); rintro x w9 ⟨rfl, HS9⟩)
            | fail)
          go_roundw
          case rel => exact ⟨b, j + 1, R2, A3, C3, rfl, by go_num, HJK.out.2.1, Lib.hid HR2.out, Lib.hid HS9.out.lo⟩
          case measure => simp [intOf] <;> omega
        · -- not 1
          by_cases hk2 : kd = 2
          · subst hk2
            have HR2 : Hid ((R.drop nn).fit (j + 1) ∧ (R.drop nn).room = room) := Lib.hid ⟨Rn.fit_more (Rn.drop_fit HJ.out nn) (Nat.le_succ j), HRM.out⟩
            have CP := Lib.hid (fun W (h : St w e 2 nn vv b R R A2 C2 W) => drop_st HJK.out.1 nn HJ.out h)
            have CR := Lib.hid (fun W (h : St w e 2 nn vv b (R.drop nn) R A2 C2 W) => rdrop_st HJK.out.1 nn HJ.out h)
            have CS := Lib.hid (fun A3 C3 W (h : St w e 2 nn vv b (R.drop nn) (R.drop nn) A3 C3 W) => same_st HJK.out.2.2 HR2.out.1 h)
            generalize R.drop nn = R2 at *
            obtain ⟨o0, o1, o2, q0, q1, q2⟩ := HS.out.loads
            go_wp2_with (first
              | (go_at_call 25; (with_reducible refine (CP.out _ HS.out).mono ?_); rintro x w3 ⟨rfl, HS2⟩; obtain ⟨o0, o1, o2, q0, q1, q2⟩ := HS2.out.loads)
              | (go_at_call 26; (with_reducible refine (CR.out _ HS2.out).mono ?_); rintro x w7 ⟨A3, C3, rfl, HX, HS8⟩; obtain ⟨p0, p1, p2⟩ := HX.out.cells; have f0 := HX.out.frozen 0; have f1 := HX.out.frozen 1; have f2 := HX.out.frozen 2)
              | (go_at_call 31; (with_reducible refine (CS.out _ _ _ HS8.out).mono ?_); rintro x w9 ⟨rfl, HS9⟩)
              | fail)
            go_roundw
            case rel => exact ⟨b, j + 1, R2, A3, C3, rfl, by go_num, HJK.out.2.1, Lib.hid HR2.out, Lib.hid HS9.out.lo⟩
            case measure => simp [intOf] <;> omega
          · -- not 2
            by_cases hk3 : kd = 3
            · subst hk3
              have HR2 : Hid ((R.cut nn).fit (j + 1) ∧ (R.cut nn).room = room) := Lib.hid ⟨Rn.fit_more (Rn.cut_fit HJ.out nn) (Nat.le_succ j), HRM.out⟩
              have CP := Lib.hid (fun W (h : St w e 3 nn vv b R R A2 C2 W) => cut_st HJK.out.1 nn HJ.out h)
              have CR := Lib.hid (fun W (h : St w e 3 nn vv b (R.cut nn) R A2 C2 W) => rcut_st HJK.out.1 nn HJ.out h)
              have CS := Lib.hid (fun A3 C3 W (h : St w e 3 nn vv b (R.cut nn) (R.cut nn) A3 C3 W) => same_st HJK.out.2.2 HR2.out.1 h)
              generalize R.cut nn = R2 at *
              obtain ⟨o0, o1, o2, q0, q1, q2⟩ := HS.out.loads
              go_wp2_with (first
                | (go_at_call 27; (with_reducible refine (CP.out _ HS.out).mono ?_); rintro x w3 ⟨rfl, HS2⟩; obtain ⟨o0, o1, o2, q0, q1, q2⟩ := HS2.out.loads)
                | (go_at_call 28; (with_reducible refine (CR.out _ HS2.out).mono ?_); rintro x w7 ⟨A3, C3, rfl, HX, HS8⟩; obtain ⟨p0, p1, p2⟩ := HX.out.cells; have f0 := HX.out.frozen 0; have f1 := HX.out.frozen 1; have f2 := HX.out.frozen 2)
                | (go_at_call 31; (with_reducible refine (CS.out _ _ _ HS8.out).mono ?_); rintro x w9 ⟨rfl, HS9⟩)
                | fail)
              go_roundw
              case rel => exact ⟨b, j + 1, R2, A3, C3, rfl, by go_num, HJK.out.2.1, Lib.hid HR2.out, Lib.hid HS9.out.lo⟩
              case measure => simp [intOf] <;> omega
            · -- not 3
              by_cases hk4 : kd = 4
              · subst hk4
                by_cases hlo : nn < 0
                · obtain ⟨o0, o1, o2, q0, q1, q2⟩ := HS.out.loads
                  go_wp2
                  go_roundw
                  case rel => exact ⟨b, j + 1, R, A2, C2, rfl, by go_num, HJK.out.2.1, Lib.hid ⟨Rn.fit_more HJ.out (Nat.le_succ j), HRM.out⟩, Lib.hid HS.out.lo⟩
                  case measure => simp [intOf] <;> omega
                · by_cases hhi : 1099511627776 < nn
                  · obtain ⟨o0, o1, o2, q0, q1, q2⟩ := HS.out.loads
                    go_wp2
                    go_roundw
                    case rel => exact ⟨b, j + 1, R, A2, C2, rfl, by go_num, HJK.out.2.1, Lib.hid ⟨Rn.fit_more HJ.out (Nat.le_succ j), HRM.out⟩, Lib.hid HS.out.lo⟩
                    case measure => simp [intOf] <;> omega
                  · obtain ⟨z, rfl⟩ : ∃ z : Nat, nn = (z : Int) := ⟨nn.toNat, by omega⟩
                    have HR2 : Hid ((⟨R.room, z, []⟩ : Rn).fit (j + 1) ∧ (⟨R.room, z, []⟩ : Rn).room = room) := Lib.hid ⟨⟨HJ.out.lo, HJ.out.hi, Nat.zero_le _, by show z + 0 ≤ 1099511627776 + (j + 1); omega⟩, HRM.out⟩
                    have CP := Lib.hid (reset_st HJK.out.1 z (by omega) HJ.out HS.out)
                    have CS := Lib.hid (fun W (h : St w e 4 (z : Int) vv b ⟨R.room, z, []⟩ ⟨R.room, z, []⟩ none 0 W) => same_st0 HJK.out.2.2 HR2.out.1 h)
                    obtain ⟨o0, o1, o2, q0, q1, q2⟩ := HS.out.loads
                    go_wp2_with (first
                      | (go_at_call 29; (with_reducible refine (CP.out).mono ?_); rintro x w3 ⟨rfl, HS2⟩; have HS8 := Lib.hid (HS2.out.clear z); obtain ⟨o0, o1, o2, q0, q1, q2⟩ := HS2.out.loads; have f1 := HS2.out.box.frozen 1; have f2 := HS2.out.box.frozen 2)
                      | (go_at_call 31; (with_reducible refine (CS.out _ HS8.out).mono ?_); rintro x w9 ⟨rfl, HS9⟩)
                      | fail)
                    go_roundw
                    case rel => exact ⟨b, j + 1, ⟨R.room, z, []⟩, none, 0, rfl, by go_num, HJK.out.2.1, Lib.hid HR2.out, Lib.hid HS9.out.lo⟩
                    case measure => simp [intOf] <;> omega
              · -- not 4
                by_cases hk5 : kd = 5
                · subst hk5
                  have HR2 : Hid (R.fit (j + 1) ∧ R.room = room) := Lib.hid ⟨Rn.fit_more HJ.out (Nat.le_succ j), HRM.out⟩
                  have CC := Lib.hid (clone_st HJ.out HS.out)
                  have CP := Lib.hid (fun c W (h : Sc w e 5 nn vv b c R R R A2 C2 W) => putc_st HJK.out.1 vv HJ.out h)
                  have CQ := Lib.hid (fun c W (h : Sc w e 5 nn vv b c (R.put vv) R R A2 C2 W) => setc_st HJK.out.2.2 nn vv (Rn.put_fit HJ.out vv) h)
                  have CS := Lib.hid (fun c W (h : St w e 5 nn vv c R R A2 C2 W) => same_st HJK.out.2.2 HR2.out.1 h)
                  obtain ⟨o0, o1, o2, q0, q1, q2⟩ := HS.out.loads
                  go_wp2_with (first
                    | (go_at_call 30; (with_reducible refine (CC.out).mono ?_); rintro x w3 ⟨rfl, HC3⟩; obtain ⟨r0, r1, r2⟩ := HC3.out.op.cells)
                    | (go_at_call 17; (with_reducible refine (CP.out _ _ HC3.out).mono ?_); rintro x w4 ⟨rfl, HC4⟩; obtain ⟨s0, s1, s2⟩ := HC4.out.op.cells)
                    | (go_at_call 24; (with_reducible refine (CQ.out _ _ HC4.out).mono ?_); rintro x w5 ⟨rfl, HC5⟩; have HS8 := Lib.hid HC5.out.done; obtain ⟨t0, t1, t2, p0, p1, p2⟩ := HS8.out.loads)
                    | (go_at_call 31; (with_reducible refine (CS.out _ _ HS8.out).mono ?_); rintro x w9 ⟨rfl, HS9⟩)
                    | fail)
                  go_roundw
                  case rel => exact ⟨W1.heap.size, j + 1, R, A2, C2, rfl, by go_num, HJK.out.2.1, Lib.hid HR2.out, Lib.hid HS9.out.lo⟩
                  case measure => simp [intOf] <;> omega
                · -- not 5
                  obtain ⟨o0, o1, o2, q0, q1, q2⟩ := HS.out.loads
                  go_wp2
                  go_roundw
                  case rel => exact ⟨b, j + 1, R, A2, C2, rfl, by go_num, HJK.out.2.1, Lib.hid ⟨Rn.fit_more HJ.out (Nat.le_succ j), HRM.out⟩, Lib.hid HS.out.lo⟩
                  case measure => simp [intOf] <;> omega
    · obtain rfl : j = n := by omega
      have HLO := Lib.hid HL.out
      obtain ⟨q0, q1, q2⟩ := HL.out.box.cells
      obtain ⟨z0, z1, z2⟩ := HL.out.res.cells
      have zf0 := HL.out.res.frozen 0
      have zf1 := HL.out.res.frozen 1
      have zf2 := HL.out.res.frozen 2
      have HFF : Hid (R.fit 60 ∧ R.room = room) := Lib.hid ⟨Rn.fit_more HF.out.1 hn, HF.out.2⟩
      clear HF HL HO
      go_upto_region 40 with fail
      go_region
      all_goals
        go_wp2
        refine bodyPost_ret (v := .tuple #[.pointer (some ⟨b, 0, none⟩), DV R A2 C2, .bool true]) (by simp [results, Try.results8, go_sem, z0, z1, z2]) rfl ?_
        exact ⟨b, R, A2, C2, rfl, HFF, Lib.hid (HLO.out.drew.fin _ _ _)⟩
end Go.Proofs.Ytjkobejhbgjhlaa
