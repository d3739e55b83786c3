/-
  Own text: law SeqTells, walked.
-/
import Derived.Test.YtfemiflgnadfkaaSqR
namespace Go.Proofs.Ytfemiflgnadfkaa
open Go.RowKit

theorem wpList_index28W {w : World} {ops : Array Oper} {rest : List Oper} {o : Oper} {a : Act} {Q : Exit → Act → World → Prop} (x y : Operand) (ho : o.op = .indexAddr 28 x y)
    (b off i p : Nat) (hx : a.eval x = .pointer (some ⟨b, off, none⟩)) (hy : a.eval y = .int .i64 (i : Int)) (hi : i < 64) (hp : off + i = p) (hw : Region.wanted o (yielded ops a.tmps) = true)
    (h : wpList Try.prog ops Q rest (a.put o.dst (.pointer (some ⟨b, p, none⟩))) w) : wpList Try.prog ops Q (o :: rest) a w :=
  wpList_step fun K hK => by
    rw [if_pos hw]
    subst hp
    unfold Oper.wp execOp
    have e : (Instr.indexAt 28 (.pointer (some ⟨b, off, none⟩)) (.int .i64 (i : Int))).run Try.prog w = .ok (.pointer (some ⟨b, off + i, none⟩)) w := by
      have h1 : Try.prog.underlying 28 = some (.array (Try.prog.arrayLen 28) (Try.prog.elem 28)) := by kernel_rfl
      rw [run_indexAt_array (h := h1)]
      have hl : Try.prog.arrayLen 28 = 64 := by kernel_rfl
      have hs : (sizeOf (Try.prog.elem 28)).run Try.prog w = .ok 1 w := by kernel_rfl
      rw [hl, if_pos ⟨by omega, by omega⟩, hs]
      simp only [Result.andThen_ok, Int.toNat_natCast, Nat.mul_one, Addr.add_mid]
    simp only [ho, hx, hy, Sem.run_bind, e, Result.andThen_ok, Sem.run_pure]
    exact hK _ _ h
theorem wpList_negW {w : World} {ops : Array Oper} {rest : List Oper} {o : Oper} {a : Act} {Q : Exit → Act → World → Prop} (ty : TypeId) (x : Operand) (ho : o.op = .unOp .neg ty x)
    (n m : Int) (hx : a.eval x = .int .i64 n) (hm : IntKind.i64.wrap (0 - n) = m) (hw : Region.wanted o (yielded ops a.tmps) = true)
    (h : wpList Try.prog ops Q rest (a.put o.dst (.int .i64 m)) w) : wpList Try.prog ops Q (o :: rest) a w :=
  wpList_step fun K hK => by
    rw [if_pos hw]
    unfold Oper.wp execOp
    have e : Op.unary .neg (.int .i64 n) = (pure (.int .i64 m) : Sem Value) := by rw [← hm]; rfl
    simp only [ho, hx, e]
    exact hK _ _ h
set_option maxRecDepth 100000 in
theorem tells8_walk (a : Option Addr) (len cap : Nat) (zs : List Int) (n : Nat) (HN : Hid (n < 4294967296)) (K : Int) (hk0 : -9223372036854775808 ≤ K) (hk1 : K ≤ 9223372036854775807) (w : World) (h : IsRow .u32 w a len cap zs) :
    Calls Try.prog 4 #[.slice a len cap, .int .u32 n, .int .i64 K] w fun e w' => e = .returned (.bool true) ∧ Below w.heap.size w w' := by
  have z := zero30
  have HU := Lib.hid h.u32s
  clear h
  obtain ⟨Z, hz⟩ : ∃ Z, Z = rowOf 69 Sn.zero.dc := ⟨_, rfl⟩
  rw [← hz] at z
  have HZ : Hid (∀ w' : World, SBlk ((w'.alloc (.cells #[Value.bool false, Value.int .u32 0, Value.int .u64 0, Value.int .i64 0, Value.int .i64 0, Value.int .i64 0] 27)).alloc (.cells Z 30)) w'.heap.size Sn.zero ∧ DRow ((w'.alloc (.cells #[Value.bool false, Value.int .u32 0, Value.int .u64 0, Value.int .i64 0, Value.int .i64 0, Value.int .i64 0] 27)).alloc (.cells Z 30)) (w'.heap.size + 1) Sn.zero.dc) := Lib.hid (fun w' => by
    rw [hz]
    exact two_blocks w')
  have HZ2 : Hid (∀ w' w3 : World, (∀ c, c ≠ w'.heap.size → w3.heap[c]? = ((w'.alloc (.cells #[Value.bool false, Value.int .u32 0, Value.int .u64 0, Value.int .i64 0, Value.int .i64 0, Value.int .i64 0] 27)).alloc (.cells Z 30)).heap[c]?) → DRow w3 (w'.heap.size + 1) Sn.zero.dc) := Lib.hid (fun w' w3 h => (HZ.out w').2.of_block (h _ (by omega)))
  clear hz
  have I30 := Lib.hid info30
  go_enter Try.func4, Try.ntmps4
  go_upto_region 6 with (first
    | (go_at_call 6; (refine (awake8_any _).mono ?_); rintro e w1 ⟨rfl, hb1⟩; have HB1 := Lib.hid hb1; have HU1 := Lib.hid (HU.out.below hb1 (Nat.le_refl _)); clear hb1)
    | (go_at_call 7; (refine (played_any _ _ _ _ HU1.out).mono ?_); rintro e w2 ⟨s, rfl, hf, hb2⟩; have HF := Lib.hid hf; have HB2 := Lib.hid (HB1.out.trans (hb2.mono HB1.out.size)); have HFO := Lib.hid s.dc_one; clear hf hb2)
    | (with_reducible refine wpList_store_sblk rfl (.tmp 7) (.tmp 19) rfl w2.heap.size rfl s Sn.zero rfl (HZ.out w2).1 ?_; intro w3 J1 J2 J3 J4)
    | (with_reducible refine wpList_store_rowIs rfl 30 (.tmp 8) (.tmp 20) rfl (w2.heap.size + 1) rfl 69 s.dc rfl 30 Sn.zero.dc (HZ2.out w2 w3 J2.out) I30.out HFO.out ?_; intro w4 N1 N2 N3 N4)
    | fail)
  have HS : Hid (SBlk w4 w2.heap.size s) := Lib.hid (J1.out.keep (N2.out _ (by omega)))
  have HW : Hid (Below w.heap.size w w4) := Lib.hid (laid_below HB2.out #[Value.bool false, Value.int .u32 0, Value.int .u64 0, Value.int .i64 0, Value.int .i64 0, Value.int .i64 0] Z J3.out N3.out)
  have HBS := HB2
  clear J1 J2 J3 J4 N2 N3 N4 HZ HZ2 z HB1 HB2 HU HU1 HFO
  have htop := HF.out.top
  have CB := Lib.hid (rbehind_any n s.top HN.out htop)
  have CHas := Lib.hid (has_any w2.heap.size s n HN.out htop)
  have CHol := Lib.hid (holes_any w2.heap.size s K hk0 hk1)
  have CMis := Lib.hid (missing8_any s htop)
  have HLE : Hid (w.heap.size ≤ w2.heap.size) := Lib.hid HBS.out.size
  clear HBS
  have c0 : w4.cell? ⟨w2.heap.size + 1, 0, none⟩ = some (.bool s.any) := N1.out.cell (i := 0) (by omega)
  have c1 : w4.cell? ⟨w2.heap.size + 1, 1, none⟩ = some (.int .u32 s.top) := N1.out.cell (i := 1) (by omega)
  have HM : Hid (∀ i, i < 64 → w4.cell? ⟨w2.heap.size + 1, 2 + i, none⟩ = some (.bool (s.bts.getLsbD i))) := Lib.hid (fun i hi => by rw [N1.out.cell (i := 2 + i) (by omega), dc_mark s i hi])
  have hbl := beh_lo HN.out htop
  have hold := fun h => dist_old HN.out htop (h : beh n s.top ≤ 0)
  have hnew := fun h => dist_new HN.out htop (h : 0 < beh n s.top)
  have hno := HF.out.no
  obtain ⟨r, hr⟩ : ∃ r, r = s.bts.getLsbD (dist s.top n) := ⟨_, rfl⟩
  rw [← hr] at CHas
  generalize beh n s.top = by_ at *
  generalize hd : dist s.top n = d at *
  clear hd
  go_upto_region 7 with (first
    | (go_at_call 8; (refine (CB.out _).mono ?_); rintro e w5 ⟨rfl, rfl⟩)
    | fail)
  go_cut [11] (fun x wx => x = .bool r ∧ wx = w4)
  case first =>
    cases ha : s.any
    · rw [ha] at c0
      have hrf : r = false := by rw [hr, hno ha]; simp
      clear hno hold hnew hr
      go_wp2_with fail
      go_meet
      exact ⟨by rw [hrf], rfl⟩
    · rw [ha] at c0
      by_cases hy : 0 < by_
      · have hrf : r = false := by rw [hr]; exact BitVec.getLsbD_of_ge _ _ (hnew hy)
        have hy2 : ¬ by_ ≤ 0 := by omega
        clear hno hold hnew hr
        go_wp2_with fail
        go_meet
        exact ⟨by rw [hrf], rfl⟩
      · have hy2 : by_ ≤ 0 := by omega
        have hd := hold hy2
        by_cases ho : by_ ≤ -64
        · have hrf : r = false := by rw [hr]; exact BitVec.getLsbD_of_ge _ _ (by omega)
          have ho2 : ¬ -64 < by_ := by omega
          clear hno hold hnew hr hd
          go_wp2_with fail
          go_meet
          exact ⟨by rw [hrf], rfl⟩
        · have ho2 : -64 < by_ := by omega
          have hd2 : d < 64 := by omega
          have cd := HM.out d hd2
          rw [← hr] at cd
          have hneg : -by_ = (d : Int) := by omega
          have k0 : (0 : Int) ≤ d := by omega
          have k1 : (d : Int) < 64 := by omega
          have ho3 : -63 ≤ by_ := by omega
          have HD := Lib.hid hd2
          have HNG : Hid (IntKind.i64.wrap (0 - by_) = (d : Int)) := Lib.hid (by rw [IntKind.wrap_i64]; omega)
          clear hno hold hnew hr hd
          go_wp2_with (first
            | (refine wpList_negW _ (.tmp 41) rfl by_ (d : Int) rfl HNG.out (by rfl) ?_)
            | (refine wpList_index28W (.tmp 43) (.tmp 42) rfl (w2.heap.size + 1) 2 d (2 + d) rfl rfl HD.out rfl (by rfl) ?_)
            | fail)
          go_meet
          exact ⟨rfl, rfl⟩
  case rest =>
    obtain ⟨rfl, rfl⟩ := hcut
    have hup : upto64 K ≤ 64 ∧ (∀ j : Nat, j < upto64 K → (j : Int) < K) ∧ ((upto64 K : Int) < 64 → K ≤ (upto64 K : Int)) := by
      unfold upto64
      exact ⟨by omega, fun j hj => by omega, fun h => by omega⟩
    obtain ⟨M, hM⟩ : ∃ M, M = upto64 K := ⟨_, rfl⟩
    rw [← hM] at hup CHol
    have HUP := Lib.hid hup.2.1
    have HUQ := Lib.hid hup.2.2
    have hM64 := hup.1
    have HM0 := Lib.hid hM
    clear hM hup hbl hold hnew hr hno
    go_wp2
    go_loop [12, 13] (fun hv iv => ∃ j : Nat, j ≤ M ∧ iv = .int .i64 j ∧ hv = .int .i64 (cnt s.gone.getLsbD j : Nat)) (fun _ iv => 64 - (intOf iv).toNat)
    case atStart => exact ⟨0, by omega, rfl, rfl⟩
    case round =>
      obtain ⟨j, hj, rfl, rfl⟩ := hrel
      have hcl := cnt_le s.gone.getLsbD j
      have HCS : Hid (cnt s.gone.getLsbD (j + 1) = cnt s.gone.getLsbD j + (if s.gone.getLsbD j then 1 else 0)) := Lib.hid rfl
      obtain ⟨c, hc⟩ : ∃ c, c = cnt s.gone.getLsbD j := ⟨_, rfl⟩
      rw [← hc] at hcl HCS ⊢
      have HCC := Lib.hid hc
      clear hc
      by_cases hlt : j < M
      · have g1 : (j : Int) < 64 := by omega
        have g2 : (j : Int) < K := HUP.out j hlt
        have k0 : (0 : Int) ≤ j := by omega
        have hj64 : j < 64 := by omega
        have cm := HM.out j hj64
        cases ha : s.any
        · rw [ha] at c0
          have HG : Hid (cnt s.gone.getLsbD (j + 1) = c) := Lib.hid (by rw [HCS.out, gone_none ha j]; rfl)
          clear ha
          go_wp2
          go_round
          case rel => exact ⟨j + 1, by omega, by go_num, by rw [HG.out]⟩
          case measure => simp [intOf]; omega
        · rw [ha] at c0
          cases hb : s.bts.getLsbD j
          · have HG : Hid (cnt s.gone.getLsbD (j + 1) = c + 1) := Lib.hid (by rw [HCS.out, gone_some ha hj64, hb]; rfl)
            rw [hb] at cm
            clear ha hb
            go_wp2
            go_round
            case rel => exact ⟨j + 1, by omega, by go_num, by rw [HG.out]; simp⟩
            case measure => simp [intOf]; omega
          · have HG : Hid (cnt s.gone.getLsbD (j + 1) = c) := Lib.hid (by rw [HCS.out, gone_some ha hj64, hb]; rfl)
            rw [hb] at cm
            clear ha hb
            go_wp2
            go_round
            case rel => exact ⟨j + 1, by omega, by go_num, by rw [HG.out]⟩
            case measure => simp [intOf]; omega
      · obtain rfl : j = M := by omega
        rw [← HCC.out] at CHol
        obtain ⟨q0, q1, q2, q3, q4, q5⟩ := HS.out.six
        by_cases g1 : (j : Int) < 64
        · have g2 : ¬ (j : Int) < K := by have := HUQ.out g1; omega
          go_wp2_with (first
            | (go_at_call 9; (with_reducible refine (CHas.out _ HS.out).mono ?_); rintro e w6 ⟨rfl, kk, rfl⟩; have HS6 : Hid (SBlk (wc.drewN kk) w2.heap.size s) := Lib.hid HS.out; have HN6 : Hid (DRow (wc.drewN kk) (w2.heap.size + 1) s.dc) := Lib.hid N1.out)
            | (go_at_call 10; (with_reducible refine (CHol.out _ HS6.out).mono ?_); rintro e w7 ⟨rfl, rfl⟩)
            | (refine wpList_load_rowIsW 30 (.tmp 8) rfl (w2.heap.size + 1) rfl 30 69 s.dc HN6.out _ Try.underlying30 rfl I30.out (by rfl) ?_)
            | (go_at_call 11; (with_reducible refine (CMis.out _).mono ?_); rintro e w8 ⟨rfl, hb8⟩)
            | fail)
          go_ret
          exact ⟨rfl, (below_drewN HW.out kk).trans (hb8.mono (below_drewN HW.out kk).size)⟩
        · go_wp2_with (first
            | (go_at_call 9; (with_reducible refine (CHas.out _ HS.out).mono ?_); rintro e w6 ⟨rfl, kk, rfl⟩; have HS6 : Hid (SBlk (wc.drewN kk) w2.heap.size s) := Lib.hid HS.out; have HN6 : Hid (DRow (wc.drewN kk) (w2.heap.size + 1) s.dc) := Lib.hid N1.out)
            | (go_at_call 10; (with_reducible refine (CHol.out _ HS6.out).mono ?_); rintro e w7 ⟨rfl, rfl⟩)
            | (refine wpList_load_rowIsW 30 (.tmp 8) rfl (w2.heap.size + 1) rfl 30 69 s.dc HN6.out _ Try.underlying30 rfl I30.out (by rfl) ?_)
            | (go_at_call 11; (with_reducible refine (CMis.out _).mono ?_); rintro e w8 ⟨rfl, hb8⟩)
            | fail)
          go_ret
          exact ⟨rfl, (below_drewN HW.out kk).trans (hb8.mono (below_drewN HW.out kk).size)⟩
theorem tells8_full (a : Option Addr) (len cap : Nat) (zs : List Int) (x K : Int) (w : World) (h : IsRow .u32 w a len cap zs) (hx : (Lit.int .u32 x).wf = true) (hk : (Lit.int .i64 K).wf = true) :
    Calls Try.prog 4 #[.slice a len cap, .int .u32 x, .int .i64 K] w fun e w' => e = .returned (.bool true) ∧ Below w.heap.size w w' := by
  obtain ⟨h0, h1⟩ := u32_lo hx
  obtain ⟨k0, k1⟩ := i64_lo hk
  have e : x = (x.toNat : Int) := by omega
  rw [e]
  exact tells8_walk a len cap zs x.toNat (Lib.hid (by omega)) K k0 k1 w h
end Go.Proofs.Ytfemiflgnadfkaa
