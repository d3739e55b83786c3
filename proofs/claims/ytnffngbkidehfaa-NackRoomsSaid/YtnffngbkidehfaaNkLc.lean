/-
  Own text: the law's play, walked.
-/
import Derived.Test.YtnffngbkidehfaaNkLb
import Derived.BigRegion
namespace Go.Proofs.Ytnffngbkidehfaa.Nk
open Go.RowKit

/-- A script that came in. -/
def Ops19 (w : World) (a : Option Addr) (n : Nat) (K No Tk Fo : Nat → Int) : Prop :=
  n = 0 ∨ ∃ g off, a = some ⟨g, off, none⟩ ∧ g < w.heap.size ∧ ∀ i, i < n → (w.cell? ⟨g, off + i * 4, none⟩ = some (.int .i64 (K i)) ∧ w.cell? ⟨g, off + i * 4 + 1, none⟩ = some (.int .u32 (No i)) ∧ w.cell? ⟨g, off + i * 4 + 2, none⟩ = some (.int .i64 (Tk i)) ∧ w.cell? ⟨g, off + i * 4 + 3, none⟩ = some (.int .i64 (Fo i))) ∧ (0 ≤ No i ∧ No i ≤ 4294967295)
theorem Ops19.below {w w' : World} {a : Option Addr} {n : Nat} {K No Tk Fo : Nat → Int} (h : Ops19 w a n K No Tk Fo) {B : Nat} (hb : Below B w w') (hB : w.heap.size ≤ B) : Ops19 w' a n K No Tk Fo :=
  h.imp id fun ⟨g, off, e, hl, hc⟩ => ⟨g, off, e, Nat.lt_of_lt_of_le hl hb.size, fun i hi => ⟨⟨(hb.cell (p := ⟨g, _, none⟩) (by show g < B; omega)).trans (hc i hi).1.1, (hb.cell (p := ⟨g, _, none⟩) (by show g < B; omega)).trans (hc i hi).1.2.1, (hb.cell (p := ⟨g, _, none⟩) (by show g < B; omega)).trans (hc i hi).1.2.2.1, (hb.cell (p := ⟨g, _, none⟩) (by show g < B; omega)).trans (hc i hi).1.2.2.2⟩, (hc i hi).2⟩⟩
/-- What the play leaves. -/
structure Fin19 (w : World) (b s m : Nat) (N : Nl) (A2 : Option Addr) (C2 : Nat) (W : World) : Prop where
  nf : NF W w.heap.size b s m N
  dl : DL W w.heap.size A2 N.q.l.length C2 N.ref
  bel : Below w.heap.size w W
theorem Lo.fin {w W : World} {b s m : Nat} {N : Nl} {A2 : Option Addr} {C2 : Nat} (h : Lo w b s m N N A2 C2 W) : Fin19 w b s m N A2 C2 (wr4 W w.heap.size N A2 C2) := by
  have hk : ∀ i, i ≠ w.heap.size → (wr4 W w.heap.size N A2 C2).heap[i]? = W.heap[i]? := fun i hi => wr4_far W _ N A2 C2 i hi
  have hsz : (wr4 W w.heap.size N A2 C2).heap.size = W.heap.size := by unfold wr4; simp
  have hsi := h.size
  obtain ⟨A, C, n1, n2, n3, n4, n5, n6⟩ := h.nf
  refine ⟨⟨A, C, NB.keep n1 (hk b (by omega)) (hk s (by omega)) (hk m (by omega)) (fun g hg => hk g (by have := n6 g hg; omega)), by omega, by omega, by omega, by rw [hsz]; omega, fun k hk => by have := n6 k hk; omega⟩, (h.dl.keep (fun g _ _ hg _ => hk g (by omega))).low (by omega), four_below h.bel _ (Nat.le_refl _) _ _ _ _⟩
theorem Fin19.drew {w W : World} {b s m : Nat} {N : Nl} {A2 : Option Addr} {C2 : Nat} (h : Fin19 w b s m N A2 C2 W) : Fin19 w b s m N A2 C2 W.drew :=
  ⟨h.nf.below (Below.refl W.heap.size W).drew (Nat.le_refl _), h.dl.keep (fun _ _ _ _ _ => rfl), h.bel.drew⟩
theorem Nl.wait_room (N : Nl) (k t : Int) : (N.wait k t).q.room = N.q.room := by
  unfold Nl.wait
  split
  · rfl
  · split
    · rfl
    · show (N.q.start k (hd t)).room = N.q.room
      unfold Qn.start
      split <;> rfl
theorem Lo0 {w W : World} {room : Nat} (hW : W = (w.alloc (.cells #[.int .i64 0, .int .i64 0, .int .i64 0, .slice none 0 0] 62)).alloc (.cells #[.int .i64 (room : Int), .int .i64 0, .int .i64 0, .slice none 0 0] 62)) {w1 : World} {b s m : Nat}
    (hn : NS w1 b s m none 0 ⟨⟨room, 0, []⟩, fun _ => 0, 0, 0⟩) (hl : W.heap.size ≤ b ∧ W.heap.size ≤ s ∧ W.heap.size ≤ m ∧ W.heap.size ≤ w1.heap.size) (hb1 : Below W.heap.size W w1) : Lo w b s m ⟨⟨room, 0, []⟩, fun _ => 0, 0, 0⟩ ⟨⟨room, 0, []⟩, fun _ => 0, 0, 0⟩ none 0 w1 := by
  have hs : W.heap.size = w.heap.size + 2 := by rw [hW]; simp
  have hb : Below w.heap.size w W := by rw [hW]; exact ((Below.refl w.heap.size w).alloc (Nat.le_refl _) _).alloc (by simp) _
  have h0 : DBx W w.heap.size 0 0 0 (.slice none 0 0) := by rw [hW]; exact (DBx.new w 0 0 0 (.slice none 0 0)).keep (Below.heap_alloc _ _ _ (by simp))
  have h1 : DBx W (w.heap.size + 1) room 0 0 (.slice none 0 0) := by
    rw [hW]
    have := DBx.new (w.alloc (.cells #[.int .i64 0, .int .i64 0, .int .i64 0, .slice none 0 0] 62)) room 0 0 (.slice none 0 0)
    simpa using this
  refine ⟨⟨none, 0, hn, by omega, by omega, by omega, by omega, fun k hk => by simp at hk⟩, h0.below hb1 h0.lt, DBx.below h1 hb1 h1.lt, ⟨rfl, ⟨Nat.le_refl _, Nat.zero_le _⟩, .inl rfl⟩, hb.trans (hb1.mono (by omega)), by omega⟩
set_option maxRecDepth 100000 in
set_option maxHeartbeats 4000000 in
theorem played19_any (room : Nat) (hr1 : 1 ≤ room) (hr2 : room ≤ 64) (a : Option Addr) (n c : Nat) (K No Tk Fo : Nat → Int) (w : World) (ho : Ops19 w a n K No Tk Fo) :
    Calls Try.prog 22 #[.int .i64 (room : Int), .slice a n c] w fun x W => ∃ b s m N A2 C2, x = .returned (.tuple #[.pointer (some ⟨b, 0, none⟩), NV N A2 C2, .bool true]) ∧ Hid (N.fit 3600 ∧ N.q.room = room) ∧ Hid (Fin19 w b s m N A2 C2 W) := by
  have HO := Lib.hid ho
  have n0 : ¬ (room : Int) < 1 := by omega
  have n1 : ¬ (64 : Int) < (room : Int) := by omega
  have CN := Lib.hid (nnew_any room hr1 hr2)
  have HRM : Hid (1 ≤ room ∧ room ≤ 64) := Lib.hid ⟨hr1, hr2⟩
  clear ho hr1 hr2
  go_enter Try.func22, Try.ntmps22
  go_upto_region 2 with fail
  obtain ⟨W, hW⟩ : ∃ W, W = (w.alloc (.cells #[.int .i64 0, .int .i64 0, .int .i64 0, .slice none 0 0] 62)).alloc (.cells #[.int .i64 (room : Int), .int .i64 0, .int .i64 0, .slice none 0 0] 62) := ⟨_, rfl⟩
  rw [← hW]
  have H0 := Lib.hid (fun (w1 : World) (b s m : Nat) => Lo0 (w := w) (room := room) hW (w1 := w1) (b := b) (s := s) (m := m))
  clear hW
  go_wp2_with (first
    | (go_at_call 53; (with_reducible refine (CN.out _).mono ?_); rintro e w1 ⟨b, s, m, rfl, HR, HL, HB⟩)
    | fail)
  have H1 := Lib.hid (H0.out _ _ _ _ HR.out HL.out HB.out)
  have HF0 : Hid ((⟨⟨room, 0, []⟩, fun _ => 0, 0, 0⟩ : Nl).fit 0 ∧ (⟨⟨room, 0, []⟩, fun _ => 0, 0, 0⟩ : Nl).q.room = room) := Lib.hid ⟨⟨Qn.new_fit room HRM.out.1 (by have := HRM.out; omega), HRM.out.2, Int.le_refl _, fun x hx => (by cases hx), fun x hx => (by cases hx), fun _ => Nat.zero_le _, Nat.zero_le _, Nat.zero_le _⟩, rfl⟩
  obtain ⟨n60, hn60⟩ : ∃ n60, n60 = min n 60 := ⟨_, rfl⟩
  have HN60 := Lib.hid hn60
  clear H0 HR HL HB CN n0 n1 hn60
  go_loopw [10] (fun i wr => ∃ (j : Nat) (N : Nl) (A2 : Option Addr) (C2 : Nat), i = .int .i64 (j : Int) ∧ j ≤ n60 ∧ Hid (N.fit (j * 60) ∧ N.q.room = room) ∧ Hid (Lo w b s m N N A2 C2 wr)) (fun i _ => n60 - (intOf i).toNat)
  case atStart => exact ⟨0, _, none, 0, rfl, Nat.zero_le _, HF0, H1⟩
  case round =>
    obtain ⟨j, N, A2, C2, rfl, hj, HF, HL⟩ := hrel
    obtain ⟨wo, hwo⟩ : ∃ wo, wo = wr := ⟨_, rfl⟩
    subst hwo
    by_cases hlt : j < n60
    · have hjn : j < n ∧ j < 60 := by have := HN60.out; omega
      obtain ⟨g, off, rfl, ⟨c0, c1, c2, c3⟩, hno⟩ : ∃ g off, a = some ⟨g, off, none⟩ ∧ (wo.cell? ⟨g, off + j * 4, none⟩ = some (.int .i64 (K j)) ∧ wo.cell? ⟨g, off + j * 4 + 1, none⟩ = some (.int .u32 (No j)) ∧ wo.cell? ⟨g, off + j * 4 + 2, none⟩ = some (.int .i64 (Tk j)) ∧ wo.cell? ⟨g, off + j * 4 + 3, none⟩ = some (.int .i64 (Fo j))) ∧ (0 ≤ No j ∧ No j ≤ 4294967295) := by
        rcases HO.out.below HL.out.bel (Nat.le_refl _) with h | ⟨g, off, e, _, h⟩
        · omega
        · exact ⟨g, off, e, h j hjn.1⟩
      have k1 : (j : Int) < n := by omega
      have k2 : (0 : Int) ≤ (j : Int) := by omega
      have k3 : (j : Int) < 60 := by omega
      have HNO := Lib.hid hno
      have HS := Lib.hid (HL.out.start (K j) (No j) (Tk j) (Fo j))
      have hfit : N.fit (j * 60) := HF.out.1
      have HJ : Hid (j < 60 ∧ j + 1 ≤ n60 ∧ j < n60) := Lib.hid ⟨by omega, by omega, by omega⟩
      have HRM1 : Hid (N.q.room = room) := Lib.hid HF.out.2
      have HFIT := Lib.hid hfit
      clear hlt hj HF hno hjn hfit
      generalize K j = kd at *
      generalize No j = no at *
      generalize Tk j = tk at *
      generalize Fo j = fo at *
      go_upto_region 11 with fail
      generalize wo.alloc (.cells #[.int .i64 kd, .int .u32 no, .int .i64 tk, .int .i64 fo] 67) = W1 at *
      generalize wo.heap.size = e at *
      clear c0 c1 c2 c3 HL HO
      by_cases hk0 : kd = 0
      · subst hk0
        have HR2 : Hid ((N.wait no tk).fit ((j + 1) * 60) ∧ (N.wait no tk).q.room = room) := Lib.hid ⟨(Nl.wait_fit HFIT.out HNO.out).more (by omega), (N.wait_room no tk).trans HRM1.out⟩
        have CP := Lib.hid (wait_st HNO.out HFIT.out (by have := HJ.out; omega) HS.out)
        have CR := Lib.hid (fun W (h : St w e 0 no tk fo b s m (N.wait no tk) N A2 C2 W) => rwait_st HFIT.out (by have := HJ.out; omega) h)
        generalize N.wait no tk = R2 at *
        obtain ⟨⟨o0, o1, o2, o3⟩, q0, q1, q2, q3⟩ := HS.out.loads
        unfold NV wr4 at CR
        go_upto_region 31 with (first
          | (go_at_call 24; (with_reducible refine (CP.out).mono ?_); rintro x w3 ⟨rfl, HS2⟩; clear o0 o1 o2 o3 q0 q1 q2 q3; obtain ⟨⟨o0, o1, o2, o3⟩, q0, q1, q2, q3⟩ := HS2.out.loads)
          | (go_at_call 54; (with_reducible refine (CR.out _ HS2.out).mono ?_); rintro x w7 ⟨A3, C3, rfl, HX, HS8⟩; have f0 := DBx.frozen HX.out 0; have f1 := DBx.frozen HX.out 1; have f2 := DBx.frozen HX.out 2; have f3 := DBx.frozen HX.out 3; obtain ⟨p0, p1, p2, p3⟩ := DBx.cells HX.out)
          | fail)
        have hs8 := HS8.out
        clear o0 o1 o2 o3 q0 q1 q2 q3 p0 p1 p2 p3 f0 f1 f2 f3 HS8 HS2 HX CP CR HS
        generalize (((w7.setCell ⟨w.heap.size + 1, 0, none⟩ (.int .i64 (R2.q.room : Int))).setCell ⟨w.heap.size + 1, 1, none⟩ (.int .i64 (R2.asked : Int))).setCell ⟨w.heap.size + 1, 2, none⟩ (.int .i64 (R2.full : Int))).setCell ⟨w.heap.size + 1, 3, none⟩ (.slice A3 R2.q.l.length C3) = w8 at *
        have HS8 := Lib.hid hs8
        have hj6 := HJ.out
        clear hs8
        have CS := Lib.hid (fun W (h : St w e 0 no tk fo b s m R2 R2 A3 C3 W) => same_st HR2.out.1 (by omega) h)
        have CH := Lib.hid (fun W (h : St w e 0 no tk fo b s m R2 R2 A3 C3 W) => has_st HNO.out h)
        have CRH := Lib.hid (fun W (h : St w e 0 no tk fo b s m R2 R2 A3 C3 W) => rhas_st HR2.out.1 h)
        have bn : ((R2.has no) != (R2.has no)) = false := by simp
        unfold NV at CS CRH
        refine (wpIn_wide (n := 3)).1 ?_
        refine wpIn_class (fun W' => St w e 0 no tk fo b s m R2 R2 A3 C3 W') (HS8.out.below (Below.refl _ _).drew) rfl (by kernel_rfl) (by kernel_rfl) ?_
        (refine wpQuietIn_step (fun _ _ _ _ => trivial) (fun K hK => ?_); go_simp; refine ⟨_, fun _ _ => rfl, hK _ ?_⟩; clear hK K)
        refine wpQ_readw (.agg #[.int .i64 (R2.q.room : Int), .int .i64 (R2.asked : Int), .int .i64 (R2.full : Int), .slice A3 R2.q.l.length C3]) (fun _ _ _ _ => trivial) rfl (fun w' hw => ?_) ?_
        · obtain ⟨⟨o0, o1, o2, o3⟩, q0, q1, q2, q3⟩ := St.loads hw
          unfold Oper.quietAtIn
          go_simp
        simp only [Act.put, List.setIfInBounds_toArray, List.set_cons_zero, List.set_cons_succ]
        (refine wpQuietIn_step (fun _ _ _ _ => trivial) (fun K hK => ?_); go_simp; refine ⟨.bool true, fun w' hw => callsIn_wide.2 (CS.out w' hw), hK _ ?_⟩; clear hK K)
        iterate 4 (refine wpQuietIn_step (fun _ _ _ _ => trivial) (fun K hK => ?_); go_simp; refine ⟨_, fun _ _ => rfl, hK _ ?_⟩; clear hK K)
        refine wpQ_readw (.int .u32 no) (fun _ _ _ _ => trivial) rfl (fun w' hw => ?_) ?_
        · obtain ⟨⟨o0, o1, o2, o3⟩, q0, q1, q2, q3⟩ := St.loads hw
          unfold Oper.quietAtIn
          go_simp
        simp only [Act.put, List.setIfInBounds_toArray, List.set_cons_zero, List.set_cons_succ]
        (refine wpQuietIn_step (fun _ _ _ _ => trivial) (fun K hK => ?_); go_simp; refine ⟨.bool (R2.has no), fun w' hw => callsIn_wide.2 (CH.out w' hw), hK _ ?_⟩; clear hK K)
        refine wpQ_readw (.agg #[.int .i64 (R2.q.room : Int), .int .i64 (R2.asked : Int), .int .i64 (R2.full : Int), .slice A3 R2.q.l.length C3]) (fun _ _ _ _ => trivial) rfl (fun w' hw => ?_) ?_
        · obtain ⟨⟨o0, o1, o2, o3⟩, q0, q1, q2, q3⟩ := St.loads hw
          unfold Oper.quietAtIn
          go_simp
        simp only [Act.put, List.setIfInBounds_toArray, List.set_cons_zero, List.set_cons_succ]
        (refine wpQuietIn_step (fun _ _ _ _ => trivial) (fun K hK => ?_); go_simp; refine ⟨_, fun _ _ => rfl, hK _ ?_⟩; clear hK K)
        refine wpQ_readw (.int .u32 no) (fun _ _ _ _ => trivial) rfl (fun w' hw => ?_) ?_
        · obtain ⟨⟨o0, o1, o2, o3⟩, q0, q1, q2, q3⟩ := St.loads hw
          unfold Oper.quietAtIn
          go_simp
        simp only [Act.put, List.setIfInBounds_toArray, List.set_cons_zero, List.set_cons_succ]
        (refine wpQuietIn_step (fun _ _ _ _ => trivial) (fun K hK => ?_); go_simp; refine ⟨.bool (R2.has no), fun w' hw => callsIn_wide.2 (CRH.out w' hw), hK _ ?_⟩; clear hK K)
        iterate 2 (refine wpQuietIn_step (fun _ _ _ _ => trivial) (fun K hK => ?_); go_simp; refine ⟨_, fun _ _ => rfl, hK _ ?_⟩; clear hK K)
        refine wpQuietIn_nil ?_
        rintro w9 hw9
        have HS9 := Lib.hid hw9
        clear hw9
        gi_wp2
        go_wp2
        have HRM2 := HR2.out.2
        go_roundw
        case rel => exact ⟨j + 1, R2, A3, C3, by go_num, HJ.out.2.1, Lib.hid ⟨HR2.out.1, HRM2⟩, Lib.hid HS9.out.lo⟩
        case measure => simp [intOf] <;> (have := HJ.out; omega)
      by_cases hk1 : kd = 1
      · subst hk1
        have HR2 : Hid ((N.stop no).fit ((j + 1) * 60) ∧ (N.stop no).q.room = room) := Lib.hid ⟨(by rw [Nl.stop_strike HFIT.out]; exact (Nl.strike_fit HFIT.out _).more (by omega)), HRM1.out⟩
        have CP := Lib.hid (stop_st HNO.out HFIT.out HS.out)
        have CR := Lib.hid (fun W (h : St w e 1 no tk fo b s m (N.stop no) N A2 C2 W) => rstop_st HFIT.out h)
        generalize N.stop no = R2 at *
        obtain ⟨⟨o0, o1, o2, o3⟩, q0, q1, q2, q3⟩ := HS.out.loads
        unfold NV wr4 at CR
        go_upto_region 31 with (first
          | (go_at_call 28; (with_reducible refine (CP.out).mono ?_); rintro x w3 ⟨rfl, HS2⟩; clear o0 o1 o2 o3 q0 q1 q2 q3; obtain ⟨⟨o0, o1, o2, o3⟩, q0, q1, q2, q3⟩ := HS2.out.loads)
          | (go_at_call 55; (with_reducible refine (CR.out _ HS2.out).mono ?_); rintro x w7 ⟨A3, C3, rfl, HX, HS8⟩; have f0 := DBx.frozen HX.out 0; have f1 := DBx.frozen HX.out 1; have f2 := DBx.frozen HX.out 2; have f3 := DBx.frozen HX.out 3; obtain ⟨p0, p1, p2, p3⟩ := DBx.cells HX.out)
          | fail)
        have hs8 := HS8.out
        clear o0 o1 o2 o3 q0 q1 q2 q3 p0 p1 p2 p3 f0 f1 f2 f3 HS8 HS2 HX CP CR HS
        generalize (((w7.setCell ⟨w.heap.size + 1, 0, none⟩ (.int .i64 (R2.q.room : Int))).setCell ⟨w.heap.size + 1, 1, none⟩ (.int .i64 (R2.asked : Int))).setCell ⟨w.heap.size + 1, 2, none⟩ (.int .i64 (R2.full : Int))).setCell ⟨w.heap.size + 1, 3, none⟩ (.slice A3 R2.q.l.length C3) = w8 at *
        have HS8 := Lib.hid hs8
        have hj6 := HJ.out
        clear hs8
        have CS := Lib.hid (fun W (h : St w e 1 no tk fo b s m R2 R2 A3 C3 W) => same_st HR2.out.1 (by omega) h)
        have CH := Lib.hid (fun W (h : St w e 1 no tk fo b s m R2 R2 A3 C3 W) => has_st HNO.out h)
        have CRH := Lib.hid (fun W (h : St w e 1 no tk fo b s m R2 R2 A3 C3 W) => rhas_st HR2.out.1 h)
        have bn : ((R2.has no) != (R2.has no)) = false := by simp
        unfold NV at CS CRH
        refine (wpIn_wide (n := 3)).1 ?_
        refine wpIn_class (fun W' => St w e 1 no tk fo b s m R2 R2 A3 C3 W') (HS8.out.below (Below.refl _ _).drew) rfl (by kernel_rfl) (by kernel_rfl) ?_
        (refine wpQuietIn_step (fun _ _ _ _ => trivial) (fun K hK => ?_); go_simp; refine ⟨_, fun _ _ => rfl, hK _ ?_⟩; clear hK K)
        refine wpQ_readw (.agg #[.int .i64 (R2.q.room : Int), .int .i64 (R2.asked : Int), .int .i64 (R2.full : Int), .slice A3 R2.q.l.length C3]) (fun _ _ _ _ => trivial) rfl (fun w' hw => ?_) ?_
        · obtain ⟨⟨o0, o1, o2, o3⟩, q0, q1, q2, q3⟩ := St.loads hw
          unfold Oper.quietAtIn
          go_simp
        simp only [Act.put, List.setIfInBounds_toArray, List.set_cons_zero, List.set_cons_succ]
        (refine wpQuietIn_step (fun _ _ _ _ => trivial) (fun K hK => ?_); go_simp; refine ⟨.bool true, fun w' hw => callsIn_wide.2 (CS.out w' hw), hK _ ?_⟩; clear hK K)
        iterate 4 (refine wpQuietIn_step (fun _ _ _ _ => trivial) (fun K hK => ?_); go_simp; refine ⟨_, fun _ _ => rfl, hK _ ?_⟩; clear hK K)
        refine wpQ_readw (.int .u32 no) (fun _ _ _ _ => trivial) rfl (fun w' hw => ?_) ?_
        · obtain ⟨⟨o0, o1, o2, o3⟩, q0, q1, q2, q3⟩ := St.loads hw
          unfold Oper.quietAtIn
          go_simp
        simp only [Act.put, List.setIfInBounds_toArray, List.set_cons_zero, List.set_cons_succ]
        (refine wpQuietIn_step (fun _ _ _ _ => trivial) (fun K hK => ?_); go_simp; refine ⟨.bool (R2.has no), fun w' hw => callsIn_wide.2 (CH.out w' hw), hK _ ?_⟩; clear hK K)
        refine wpQ_readw (.agg #[.int .i64 (R2.q.room : Int), .int .i64 (R2.asked : Int), .int .i64 (R2.full : Int), .slice A3 R2.q.l.length C3]) (fun _ _ _ _ => trivial) rfl (fun w' hw => ?_) ?_
        · obtain ⟨⟨o0, o1, o2, o3⟩, q0, q1, q2, q3⟩ := St.loads hw
          unfold Oper.quietAtIn
          go_simp
        simp only [Act.put, List.setIfInBounds_toArray, List.set_cons_zero, List.set_cons_succ]
        (refine wpQuietIn_step (fun _ _ _ _ => trivial) (fun K hK => ?_); go_simp; refine ⟨_, fun _ _ => rfl, hK _ ?_⟩; clear hK K)
        refine wpQ_readw (.int .u32 no) (fun _ _ _ _ => trivial) rfl (fun w' hw => ?_) ?_
        · obtain ⟨⟨o0, o1, o2, o3⟩, q0, q1, q2, q3⟩ := St.loads hw
          unfold Oper.quietAtIn
          go_simp
        simp only [Act.put, List.setIfInBounds_toArray, List.set_cons_zero, List.set_cons_succ]
        (refine wpQuietIn_step (fun _ _ _ _ => trivial) (fun K hK => ?_); go_simp; refine ⟨.bool (R2.has no), fun w' hw => callsIn_wide.2 (CRH.out w' hw), hK _ ?_⟩; clear hK K)
        iterate 2 (refine wpQuietIn_step (fun _ _ _ _ => trivial) (fun K hK => ?_); go_simp; refine ⟨_, fun _ _ => rfl, hK _ ?_⟩; clear hK K)
        refine wpQuietIn_nil ?_
        rintro w9 hw9
        have HS9 := Lib.hid hw9
        clear hw9
        gi_wp2
        go_wp2
        have HRM2 := HR2.out.2
        go_roundw
        case rel => exact ⟨j + 1, R2, A3, C3, by go_num, HJ.out.2.1, Lib.hid ⟨HR2.out.1, HRM2⟩, Lib.hid HS9.out.lo⟩
        case measure => simp [intOf] <;> (have := HJ.out; omega)
      by_cases hk2 : kd = 2
      · subst hk2
        have HR2 : Hid ((N.cut no).fit ((j + 1) * 60) ∧ (N.cut no).q.room = room) := Lib.hid ⟨(Nl.strike_fit HFIT.out _).more (by omega), HRM1.out⟩
        have CR := Lib.hid (rbelow_st HNO.out HFIT.out HS.out)
        have CP := Lib.hid (fun A3 C3 f W (h : Sp w e 2 no tk fo b s m N N (N.cut no) A2 C2 A3 C3 f W) => below_sp HNO.out HFIT.out (by have := HJ.out; omega) h)
        generalize N.cut no = R2 at *
        generalize (N.q.l.length : Int) - (R2.q.l.length : Int) = cnt at *
        have bc : (cnt != cnt) = false := by simp
        obtain ⟨⟨o0, o1, o2, o3⟩, q0, q1, q2, q3⟩ := HS.out.loads
        unfold NV at CR
        go_upto_region 31 with (first
          | (go_at_call 56; (with_reducible refine (CR.out).mono ?_); rintro x w3 ⟨A3, C3, rfl, HP3⟩; clear o0 o1 o2 o3 q0 q1 q2 q3; obtain ⟨⟨o0, o1, o2, o3⟩, q0, q1, q2, q3⟩ := HP3.out.st.loads)
          | (go_at_call 57; (with_reducible refine (CP.out _ _ _ _ HP3.out).mono ?_); rintro x w4 ⟨rfl, HP4⟩; clear o0 o1 o2 o3 q0 q1 q2 q3; obtain ⟨m0, m1, m2, m3⟩ := DBx.cells HP4.out.new; have hx4 := HP4.out.st.lo.box; have f0 := DBx.frozen hx4 0; have f1 := DBx.frozen hx4 1; have f2 := DBx.frozen hx4 2; have f3 := DBx.frozen hx4 3; obtain ⟨p0, p1, p2, p3⟩ := DBx.cells hx4; have HS8 := Lib.hid HP4.out.done; clear hx4)
          | fail)
        have hs8 := HS8.out
        unfold wr4 at hs8
        clear m0 m1 m2 m3 p0 p1 p2 p3 f0 f1 f2 f3 HS8 HP3 HP4 CP CR HS
        generalize (((w4.setCell ⟨w.heap.size + 1, 0, none⟩ (.int .i64 (R2.q.room : Int))).setCell ⟨w.heap.size + 1, 1, none⟩ (.int .i64 (R2.asked : Int))).setCell ⟨w.heap.size + 1, 2, none⟩ (.int .i64 (R2.full : Int))).setCell ⟨w.heap.size + 1, 3, none⟩ (.slice A3 R2.q.l.length C3) = w8 at *
        have HS8 := Lib.hid hs8
        have hj6 := HJ.out
        clear hs8
        have CS := Lib.hid (fun W (h : St w e 2 no tk fo b s m R2 R2 A3 C3 W) => same_st HR2.out.1 (by omega) h)
        have CH := Lib.hid (fun W (h : St w e 2 no tk fo b s m R2 R2 A3 C3 W) => has_st HNO.out h)
        have CRH := Lib.hid (fun W (h : St w e 2 no tk fo b s m R2 R2 A3 C3 W) => rhas_st HR2.out.1 h)
        have bn : ((R2.has no) != (R2.has no)) = false := by simp
        unfold NV at CS CRH
        refine (wpIn_wide (n := 3)).1 ?_
        refine wpIn_class (fun W' => St w e 2 no tk fo b s m R2 R2 A3 C3 W') (HS8.out.below (Below.refl _ _).drew) rfl (by kernel_rfl) (by kernel_rfl) ?_
        (refine wpQuietIn_step (fun _ _ _ _ => trivial) (fun K hK => ?_); go_simp; refine ⟨_, fun _ _ => rfl, hK _ ?_⟩; clear hK K)
        refine wpQ_readw (.agg #[.int .i64 (R2.q.room : Int), .int .i64 (R2.asked : Int), .int .i64 (R2.full : Int), .slice A3 R2.q.l.length C3]) (fun _ _ _ _ => trivial) rfl (fun w' hw => ?_) ?_
        · obtain ⟨⟨o0, o1, o2, o3⟩, q0, q1, q2, q3⟩ := St.loads hw
          unfold Oper.quietAtIn
          go_simp
        simp only [Act.put, List.setIfInBounds_toArray, List.set_cons_zero, List.set_cons_succ]
        (refine wpQuietIn_step (fun _ _ _ _ => trivial) (fun K hK => ?_); go_simp; refine ⟨.bool true, fun w' hw => callsIn_wide.2 (CS.out w' hw), hK _ ?_⟩; clear hK K)
        iterate 4 (refine wpQuietIn_step (fun _ _ _ _ => trivial) (fun K hK => ?_); go_simp; refine ⟨_, fun _ _ => rfl, hK _ ?_⟩; clear hK K)
        refine wpQ_readw (.int .u32 no) (fun _ _ _ _ => trivial) rfl (fun w' hw => ?_) ?_
        · obtain ⟨⟨o0, o1, o2, o3⟩, q0, q1, q2, q3⟩ := St.loads hw
          unfold Oper.quietAtIn
          go_simp
        simp only [Act.put, List.setIfInBounds_toArray, List.set_cons_zero, List.set_cons_succ]
        (refine wpQuietIn_step (fun _ _ _ _ => trivial) (fun K hK => ?_); go_simp; refine ⟨.bool (R2.has no), fun w' hw => callsIn_wide.2 (CH.out w' hw), hK _ ?_⟩; clear hK K)
        refine wpQ_readw (.agg #[.int .i64 (R2.q.room : Int), .int .i64 (R2.asked : Int), .int .i64 (R2.full : Int), .slice A3 R2.q.l.length C3]) (fun _ _ _ _ => trivial) rfl (fun w' hw => ?_) ?_
        · obtain ⟨⟨o0, o1, o2, o3⟩, q0, q1, q2, q3⟩ := St.loads hw
          unfold Oper.quietAtIn
          go_simp
        simp only [Act.put, List.setIfInBounds_toArray, List.set_cons_zero, List.set_cons_succ]
        (refine wpQuietIn_step (fun _ _ _ _ => trivial) (fun K hK => ?_); go_simp; refine ⟨_, fun _ _ => rfl, hK _ ?_⟩; clear hK K)
        refine wpQ_readw (.int .u32 no) (fun _ _ _ _ => trivial) rfl (fun w' hw => ?_) ?_
        · obtain ⟨⟨o0, o1, o2, o3⟩, q0, q1, q2, q3⟩ := St.loads hw
          unfold Oper.quietAtIn
          go_simp
        simp only [Act.put, List.setIfInBounds_toArray, List.set_cons_zero, List.set_cons_succ]
        (refine wpQuietIn_step (fun _ _ _ _ => trivial) (fun K hK => ?_); go_simp; refine ⟨.bool (R2.has no), fun w' hw => callsIn_wide.2 (CRH.out w' hw), hK _ ?_⟩; clear hK K)
        iterate 2 (refine wpQuietIn_step (fun _ _ _ _ => trivial) (fun K hK => ?_); go_simp; refine ⟨_, fun _ _ => rfl, hK _ ?_⟩; clear hK K)
        refine wpQuietIn_nil ?_
        rintro w9 hw9
        have HS9 := Lib.hid hw9
        clear hw9
        gi_wp2
        go_wp2
        have HRM2 := HR2.out.2
        go_roundw
        case rel => exact ⟨j + 1, R2, A3, C3, by go_num, HJ.out.2.1, Lib.hid ⟨HR2.out.1, HRM2⟩, Lib.hid HS9.out.lo⟩
        case measure => simp [intOf] <;> (have := HJ.out; omega)
      by_cases hk3 : kd = 3
      · subst hk3
        obtain ⟨km, hkm⟩ : ∃ km : Nat, (∀ k : Nat, k < km ↔ ((k : Int) < fo ∧ k < 60)) ∧ km ≤ 60 := ⟨(min (max fo 0) 60).toNat, fun k => by omega, by omega⟩
        have HKM := Lib.hid hkm
        clear hkm
        obtain ⟨⟨o0, o1, o2, o3⟩, q0, q1, q2, q3⟩ := HS.out.loads
        go_upto_region 24 with fail
        clear o0 o1 o2 o3 q0 q1 q2 q3
        go_wp2
        go_loopw [14] (fun i wr => ∃ (k : Nat) (N : Nl) (A2 : Option Addr) (C2 : Nat), i = .int .i64 (k : Int) ∧ k ≤ km ∧ Hid (N.fit (j * 60 + k) ∧ N.q.room = room) ∧ Hid (St w e 3 no tk fo b s m N N A2 C2 wr)) (fun i _ => km - (intOf i).toNat)
        case atStart => exact ⟨0, N, A2, C2, rfl, Nat.zero_le _, Lib.hid ⟨HFIT.out, HRM1.out⟩, HS⟩
        case round =>
          clear HFIT HRM1 HS
          obtain ⟨k, M, A4, C4, rfl, hk, HF, HS⟩ := hrel
          obtain ⟨wp, hwp⟩ : ∃ wp, wp = wr := ⟨_, rfl⟩
          subst hwp
          obtain ⟨⟨o0, o1, o2, o3⟩, q0, q1, q2, q3⟩ := HS.out.loads
          by_cases hlt2 : k < km
          · have hkf := (HKM.out.1 k).1 hlt2
            have i1 : (k : Int) < fo := hkf.1
            have i2 : (k : Int) < 60 := by omega
            have HLT2 := Lib.hid hlt2
            have HR2 : Hid ((M.tick tk).fit (j * 60 + (k + 1)) ∧ (M.tick tk).q.room = room) := Lib.hid (by
              have hb : j * 60 + k ≤ 1000000 := by have := HJ.out; omega
              exact ⟨Nl.tick_fit HF.out.1 hb, (Nl.tick_asked HF.out.1 hb).2.2.1.trans HF.out.2⟩)
            have hb : j * 60 + k ≤ 1000000 := by have := HJ.out; omega
            have hcm : (M.q.came 1).length ≤ 1000 := by
              have h1 := (Nl.mid HF.out.1 hb).len
              have h2 := HF.out.1.room
              have e0 : (M.q.tick 1).room = M.q.room := rfl
              dsimp only at h1
              omega
            have CR := Lib.hid (rtick_st HF.out.1 hb HS.out)
            have CP := Lib.hid (fun A3 C3 A9 C9 f W (h : Sp w e 3 no tk fo b s m M M (M.tick tk) A4 C4 A3 C3 f W) (ho : OwnW W 0 (.slice A9 (M.q.came 1).length C9) (M.q.came 1).length (M.q.came 1)) => tick_sp HF.out.1 hb h ho)
            have CNB := Lib.hid (fun A C A' C' W h h' => numbers19_any A C A' C' (M.q.came 1).length (M.q.came 1) hcm W h h')
            clear hk hlt2 hkf hb hcm HF
            generalize M.tick tk = R2 at *
            generalize M.q.came 1 = L at *
            unfold NV at CR
            go_wp2_with (first
              | (go_at_call 58; (with_reducible refine (CR.out).mono ?_); rintro x w3 ⟨A3, C3, A9, C9, rfl, HP3⟩; clear o0 o1 o2 o3 q0 q1 q2 q3; obtain ⟨⟨o0, o1, o2, o3⟩, q0, q1, q2, q3⟩ := HP3.out.1.st.loads)
              | (go_at_call 26; (with_reducible refine (CP.out _ _ _ _ _ _ HP3.out.1 HP3.out.2).mono ?_); rintro x w4 ⟨A8, C8, rfl, HP4, HO4⟩; clear o0 o1 o2 o3 q0 q1 q2 q3)
              | (go_at_call 59; (with_reducible refine (CNB.out _ _ _ _ _ HO4.out.1 HO4.out.2).mono ?_); rintro x w5 ⟨rfl, hb5⟩; have HP5 := Lib.hid (HP4.out.below hb5); clear hb5; obtain ⟨m0, m1, m2, m3⟩ := DBx.cells HP5.out.new; have hx5 := HP5.out.st.lo.box; have f0 := DBx.frozen hx5 0; have f1 := DBx.frozen hx5 1; have f2 := DBx.frozen hx5 2; have f3 := DBx.frozen hx5 3; obtain ⟨p0, p1, p2, p3⟩ := DBx.cells hx5; have HS8 := Lib.hid HP5.out.done; clear hx5)
              | fail)
            have hs8 := HS8.out
            unfold wr4 at hs8
            have HS8b := Lib.hid hs8
            clear hs8
            go_roundw
            case rel => exact ⟨k + 1, R2, A3, C3, by go_num, HLT2.out, HR2, HS8b⟩
            case measure => simp [intOf] <;> (have := HLT2.out; omega)
          · obtain rfl : k = km := by omega
            have HFM : Hid (M.fit ((j + 1) * 60) ∧ M.q.room = room) := Lib.hid ⟨HF.out.1.more (by have := HKM.out.2; omega), HF.out.2⟩
            have hkf : ¬ ((k : Int) < fo ∧ k < 60) := fun h => hlt2 ((HKM.out.1 k).2 h)
            have hk60 : (k : Int) ≤ 60 := by have := HKM.out.2; omega
            have hcut : (k : Int) < fo → ¬ (k : Int) < 60 := fun h h2 => hkf ⟨h, by omega⟩
            have HCUT := Lib.hid hcut
            clear hlt2 hkf hk hcut HF
            have hj6 := HJ.out
            by_cases hfo : (k : Int) < fo
            · have hn60' : ¬ (k : Int) < 60 := HCUT.out hfo
              go_upto_region 31 with fail
              clear o0 o1 o2 o3 q0 q1 q2 q3
              have CS := Lib.hid (fun W (h : St w e 3 no tk fo b s m M M A4 C4 W) => same_st HFM.out.1 (by omega) h)
              have CH := Lib.hid (fun W (h : St w e 3 no tk fo b s m M M A4 C4 W) => has_st HNO.out h)
              have CRH := Lib.hid (fun W (h : St w e 3 no tk fo b s m M M A4 C4 W) => rhas_st HFM.out.1 h)
              have bn : ((M.has no) != (M.has no)) = false := by simp
              unfold NV at CS CRH
              refine (wpIn_wide (n := 3)).1 ?_
              refine wpIn_class (fun W' => St w e 3 no tk fo b s m M M A4 C4 W') (HS.out.below (Below.refl _ _).drew) rfl (by kernel_rfl) (by kernel_rfl) ?_
              (refine wpQuietIn_step (fun _ _ _ _ => trivial) (fun K hK => ?_); go_simp; refine ⟨_, fun _ _ => rfl, hK _ ?_⟩; clear hK K)
              refine wpQ_readw (.agg #[.int .i64 (M.q.room : Int), .int .i64 (M.asked : Int), .int .i64 (M.full : Int), .slice A4 M.q.l.length C4]) (fun _ _ _ _ => trivial) rfl (fun w' hw => ?_) ?_
              · obtain ⟨⟨o0, o1, o2, o3⟩, q0, q1, q2, q3⟩ := St.loads hw
                unfold Oper.quietAtIn
                go_simp
              simp only [Act.put, List.setIfInBounds_toArray, List.set_cons_zero, List.set_cons_succ]
              (refine wpQuietIn_step (fun _ _ _ _ => trivial) (fun K hK => ?_); go_simp; refine ⟨.bool true, fun w' hw => callsIn_wide.2 (CS.out w' hw), hK _ ?_⟩; clear hK K)
              iterate 4 (refine wpQuietIn_step (fun _ _ _ _ => trivial) (fun K hK => ?_); go_simp; refine ⟨_, fun _ _ => rfl, hK _ ?_⟩; clear hK K)
              refine wpQ_readw (.int .u32 no) (fun _ _ _ _ => trivial) rfl (fun w' hw => ?_) ?_
              · obtain ⟨⟨o0, o1, o2, o3⟩, q0, q1, q2, q3⟩ := St.loads hw
                unfold Oper.quietAtIn
                go_simp
              simp only [Act.put, List.setIfInBounds_toArray, List.set_cons_zero, List.set_cons_succ]
              (refine wpQuietIn_step (fun _ _ _ _ => trivial) (fun K hK => ?_); go_simp; refine ⟨.bool (M.has no), fun w' hw => callsIn_wide.2 (CH.out w' hw), hK _ ?_⟩; clear hK K)
              refine wpQ_readw (.agg #[.int .i64 (M.q.room : Int), .int .i64 (M.asked : Int), .int .i64 (M.full : Int), .slice A4 M.q.l.length C4]) (fun _ _ _ _ => trivial) rfl (fun w' hw => ?_) ?_
              · obtain ⟨⟨o0, o1, o2, o3⟩, q0, q1, q2, q3⟩ := St.loads hw
                unfold Oper.quietAtIn
                go_simp
              simp only [Act.put, List.setIfInBounds_toArray, List.set_cons_zero, List.set_cons_succ]
              (refine wpQuietIn_step (fun _ _ _ _ => trivial) (fun K hK => ?_); go_simp; refine ⟨_, fun _ _ => rfl, hK _ ?_⟩; clear hK K)
              refine wpQ_readw (.int .u32 no) (fun _ _ _ _ => trivial) rfl (fun w' hw => ?_) ?_
              · obtain ⟨⟨o0, o1, o2, o3⟩, q0, q1, q2, q3⟩ := St.loads hw
                unfold Oper.quietAtIn
                go_simp
              simp only [Act.put, List.setIfInBounds_toArray, List.set_cons_zero, List.set_cons_succ]
              (refine wpQuietIn_step (fun _ _ _ _ => trivial) (fun K hK => ?_); go_simp; refine ⟨.bool (M.has no), fun w' hw => callsIn_wide.2 (CRH.out w' hw), hK _ ?_⟩; clear hK K)
              iterate 2 (refine wpQuietIn_step (fun _ _ _ _ => trivial) (fun K hK => ?_); go_simp; refine ⟨_, fun _ _ => rfl, hK _ ?_⟩; clear hK K)
              refine wpQuietIn_nil ?_
              rintro w9 hw9
              have HS9 := Lib.hid hw9
              clear hw9
              gi_wp2
              go_wp2
              have HRM2 := HFM.out.2
              go_roundw
              case rel => exact ⟨j + 1, M, A4, C4, by go_num, HJ.out.2.1, Lib.hid ⟨HFM.out.1, HRM2⟩, Lib.hid HS9.out.lo⟩
              case measure => simp [intOf] <;> (have := HJ.out; omega)
            · go_upto_region 31 with fail
              clear o0 o1 o2 o3 q0 q1 q2 q3
              have CS := Lib.hid (fun W (h : St w e 3 no tk fo b s m M M A4 C4 W) => same_st HFM.out.1 (by omega) h)
              have CH := Lib.hid (fun W (h : St w e 3 no tk fo b s m M M A4 C4 W) => has_st HNO.out h)
              have CRH := Lib.hid (fun W (h : St w e 3 no tk fo b s m M M A4 C4 W) => rhas_st HFM.out.1 h)
              have bn : ((M.has no) != (M.has no)) = false := by simp
              unfold NV at CS CRH
              refine (wpIn_wide (n := 3)).1 ?_
              refine wpIn_class (fun W' => St w e 3 no tk fo b s m M M A4 C4 W') (HS.out.below (Below.refl _ _).drew) rfl (by kernel_rfl) (by kernel_rfl) ?_
              (refine wpQuietIn_step (fun _ _ _ _ => trivial) (fun K hK => ?_); go_simp; refine ⟨_, fun _ _ => rfl, hK _ ?_⟩; clear hK K)
              refine wpQ_readw (.agg #[.int .i64 (M.q.room : Int), .int .i64 (M.asked : Int), .int .i64 (M.full : Int), .slice A4 M.q.l.length C4]) (fun _ _ _ _ => trivial) rfl (fun w' hw => ?_) ?_
              · obtain ⟨⟨o0, o1, o2, o3⟩, q0, q1, q2, q3⟩ := St.loads hw
                unfold Oper.quietAtIn
                go_simp
              simp only [Act.put, List.setIfInBounds_toArray, List.set_cons_zero, List.set_cons_succ]
              (refine wpQuietIn_step (fun _ _ _ _ => trivial) (fun K hK => ?_); go_simp; refine ⟨.bool true, fun w' hw => callsIn_wide.2 (CS.out w' hw), hK _ ?_⟩; clear hK K)
              iterate 4 (refine wpQuietIn_step (fun _ _ _ _ => trivial) (fun K hK => ?_); go_simp; refine ⟨_, fun _ _ => rfl, hK _ ?_⟩; clear hK K)
              refine wpQ_readw (.int .u32 no) (fun _ _ _ _ => trivial) rfl (fun w' hw => ?_) ?_
              · obtain ⟨⟨o0, o1, o2, o3⟩, q0, q1, q2, q3⟩ := St.loads hw
                unfold Oper.quietAtIn
                go_simp
              simp only [Act.put, List.setIfInBounds_toArray, List.set_cons_zero, List.set_cons_succ]
              (refine wpQuietIn_step (fun _ _ _ _ => trivial) (fun K hK => ?_); go_simp; refine ⟨.bool (M.has no), fun w' hw => callsIn_wide.2 (CH.out w' hw), hK _ ?_⟩; clear hK K)
              refine wpQ_readw (.agg #[.int .i64 (M.q.room : Int), .int .i64 (M.asked : Int), .int .i64 (M.full : Int), .slice A4 M.q.l.length C4]) (fun _ _ _ _ => trivial) rfl (fun w' hw => ?_) ?_
              · obtain ⟨⟨o0, o1, o2, o3⟩, q0, q1, q2, q3⟩ := St.loads hw
                unfold Oper.quietAtIn
                go_simp
              simp only [Act.put, List.setIfInBounds_toArray, List.set_cons_zero, List.set_cons_succ]
              (refine wpQuietIn_step (fun _ _ _ _ => trivial) (fun K hK => ?_); go_simp; refine ⟨_, fun _ _ => rfl, hK _ ?_⟩; clear hK K)
              refine wpQ_readw (.int .u32 no) (fun _ _ _ _ => trivial) rfl (fun w' hw => ?_) ?_
              · obtain ⟨⟨o0, o1, o2, o3⟩, q0, q1, q2, q3⟩ := St.loads hw
                unfold Oper.quietAtIn
                go_simp
              simp only [Act.put, List.setIfInBounds_toArray, List.set_cons_zero, List.set_cons_succ]
              (refine wpQuietIn_step (fun _ _ _ _ => trivial) (fun K hK => ?_); go_simp; refine ⟨.bool (M.has no), fun w' hw => callsIn_wide.2 (CRH.out w' hw), hK _ ?_⟩; clear hK K)
              iterate 2 (refine wpQuietIn_step (fun _ _ _ _ => trivial) (fun K hK => ?_); go_simp; refine ⟨_, fun _ _ => rfl, hK _ ?_⟩; clear hK K)
              refine wpQuietIn_nil ?_
              rintro w9 hw9
              have HS9 := Lib.hid hw9
              clear hw9
              gi_wp2
              go_wp2
              have HRM2 := HFM.out.2
              go_roundw
              case rel => exact ⟨j + 1, M, A4, C4, by go_num, HJ.out.2.1, Lib.hid ⟨HFM.out.1, HRM2⟩, Lib.hid HS9.out.lo⟩
              case measure => simp [intOf] <;> (have := HJ.out; omega)
      obtain ⟨⟨o0, o1, o2, o3⟩, q0, q1, q2, q3⟩ := HS.out.loads
      go_wp2
      go_roundw
      case rel => exact ⟨j + 1, N, A2, C2, by go_num, HJ.out.2.1, Lib.hid ⟨HFIT.out.more (by omega), HRM1.out⟩, Lib.hid HS.out.lo⟩
      case measure => simp [intOf] <;> (have := HJ.out; omega)
    · obtain rfl : j = n60 := by omega
      have HLO := Lib.hid HL.out
      obtain ⟨q0, q1, q2, q3⟩ := DBx.cells HL.out.box
      have hres := HL.out.res
      obtain ⟨z0, z1, z2, z3⟩ := hres.cells
      have zf0 := hres.frozen 0
      have zf1 := hres.frozen 1
      have zf2 := hres.frozen 2
      have zf3 := hres.frozen 3
      have hjn : j ≤ 60 ∧ (j = n ∨ j = 60) := by have := HN60.out; omega
      have HFN : Hid (N.fit 3600 ∧ N.q.room = room) := Lib.hid ⟨HF.out.1.more (by omega), HF.out.2⟩
      have HFIN : Hid (Fin19 w b s m N A2 C2 ((((wo.setCell ⟨w.heap.size, 0, none⟩ (.int .i64 (N.q.room : Int))).setCell ⟨w.heap.size, 1, none⟩ (.int .i64 (N.asked : Int))).setCell ⟨w.heap.size, 2, none⟩ (.int .i64 (N.full : Int))).setCell ⟨w.heap.size, 3, none⟩ (.slice A2 N.q.l.length C2))) := Lib.hid (Lo.fin HL.out)
      clear hres HL HLO HO HF
      by_cases hlt3 : (j : Int) < (n : Int)
      · have h60 : ¬ (j : Int) < 60 := by omega
        clear hlt hj hjn
        go_upto_region 33 with fail
        go_region
        have HFIN2 := Lib.hid HFIN.out.drew
        clear HFIN
        go_wp2
        refine bodyPost_ret (v := .tuple #[.pointer (some ⟨b, 0, none⟩), NV N A2 C2, .bool true]) (by simp [results, Try.results22, go_sem, z0, z1, z2, z3, NV]) rfl ?_
        exact ⟨b, s, m, N, A2, C2, rfl, HFN, HFIN2⟩
      · clear hlt hj hjn
        go_upto_region 33 with fail
        go_region
        have HFIN2 := Lib.hid HFIN.out.drew
        clear HFIN
        go_wp2
        refine bodyPost_ret (v := .tuple #[.pointer (some ⟨b, 0, none⟩), NV N A2 C2, .bool true]) (by simp [results, Try.results22, go_sem, z0, z1, z2, z3, NV]) rfl ?_
        exact ⟨b, s, m, N, A2, C2, rfl, HFN, HFIN2⟩
end Go.Proofs.Ytnffngbkidehfaa.Nk
