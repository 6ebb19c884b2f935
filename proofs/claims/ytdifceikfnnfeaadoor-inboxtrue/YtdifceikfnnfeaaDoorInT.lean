/-
  What is fixed stays fixed till cum reaches it. A report's rows, as they are read.
  Conditions: as at each lemma.
-/
import Derived.Test.YtdifceikfnnfeaaDoorInS
namespace Go.Proofs.YtdifceikfnnfeaaDoor.Sp.Inb
open Go.ChangeShapes Go.WideShapes Go.ChangeAt Go.RowKit
open Ba (hidden Has cell_lt heap_lt)
set_option linter.unusedVariables false
set_option maxRecDepth 20000
theorem mem_blk (d : Nat) : ∀ (L : List Nat), d ∈ L ↔ ∃ g ∈ blk L, g.1 ≤ d ∧ d ≤ g.2
  | [] => by simp [blk]
  | x :: xs => by
    have ih := mem_blk d xs
    have hl := blk_le xs
    rw [List.mem_cons, ih, blk]
    cases hb : blk xs with
    | nil =>
      simp only [List.not_mem_nil, false_and, exists_false, or_false, List.mem_singleton, exists_eq_left]
      omega
    | cons a r =>
      obtain ⟨s, e⟩ := a
      rw [hb] at hl
      have hse := hl (s, e) (by simp)
      simp only at hse ⊢
      split
      · simp only [List.mem_cons, exists_eq_or_imp]
        rename_i h
        constructor
        · rintro (h1 | h1 | h1)
          · exact .inl (by omega)
          · exact .inl (by omega)
          · exact .inr h1
        · rintro (h1 | h1)
          · rcases (show d = x ∨ s ≤ d by omega) with h2 | h2
            · exact .inl h2
            · exact .inr (.inl ⟨h2, h1.2⟩)
          · exact .inr (.inr h1)
      · simp only [List.mem_cons, exists_eq_or_imp]
        constructor
        · rintro (h1 | h1)
          · exact .inl (by omega)
          · exact .inr h1
        · rintro (h1 | h1)
          · exact .inl (by omega)
          · exact .inr h1
theorem ds_less {c n t : Nat} (hc : c < 4294967296) (ht : t < 4294967296) (hn : n ≤ 65536) (h : -1000000000 ≤ ds c t) : ds (ts c n) t = ds c t - n := by
  revert h
  unfold ds ts Ser.dist
  split <;> split <;> omega
/-- a number that was fixed -/
def Kp (t : Nat) (N : Int) (s : St) : Prop := -(65536 * N) ≤ ds s.c t ∧ ds s.c t ≤ 65535 ∧ (0 < ds s.c t → (ds s.c t).toNat ∈ s.F)
theorem Kp.of {t : Nat} {N M : Int} {s s' : St} (h : Kp t N s) (hM : N ≤ M) (hc : s'.c = s.c) (hF : ∀ x ∈ s.F, x ∈ s'.F) : Kp t M s' := by
  obtain ⟨h1, h2, h3⟩ := h
  unfold Kp
  rw [hc]
  exact ⟨by omega, h2, fun k => hF _ (h3 k)⟩
theorem run_le {d : Nat} {L : List Nat} (h : Good 2 L) (h1 : 1 ≤ d) (h2 : d ≤ 65535) (hd : d ∉ L) : addN d L ≤ 65535 := by
  have hG := good_ins h hd ⟨h1, h2⟩ (by decide)
  rcases Nat.eq_zero_or_pos (addN d L) with e | e
  · omega
  · exact (hG.2 _ (in_run hG (i := addN d L) e (Nat.le_refl _))).2
theorem Kp.come {t x : Nat} {N : Int} {K : Nat} {s : St} (h : Kp t N s) (hk : Ok K s) (ht : t < 4294967296) (hx : x < 4294967296) (hN : N ≤ 10000) : Kp t (N + 1) (comeS x s) := by
  cases hin : isIn s.c s.L x with
  | true => rw [(come_in hin).2.2]; exact h.of (by omega) rfl fun _ k => k
  | false =>
    by_cases hf : 65535 < ds s.c x
    · rw [(come_far hin hf).2.2]; exact h.of (by omega) rfl fun _ k => k
    · obtain ⟨d, h1, h2, h3, h4⟩ := not_in hk.c hx hin
      have h5 : d ≤ 65535 := by omega
      rw [(come_new hin h3 h5).2.2]
      have hr := run_le hk.L h1 h5 h4
      obtain ⟨k1, k2, k3⟩ := h
      have e := ds_less (n := addN d s.L) hk.c ht (by omega) (by omega)
      unfold Kp
      simp only
      rw [e]
      refine ⟨by omega, by omega, fun k => (mem_sh _ _ _).2 ⟨by omega, ?_⟩⟩
      have := k3 (by omega)
      rwa [show (ds s.c t - (addN d s.L : Int)).toNat + addN d s.L = (ds s.c t).toNat by omega]
theorem fixS_F {t : Nat} {s : St} : ∀ x ∈ s.F, x ∈ (fixS t s).F := fun x hx => by
  unfold fixS
  split
  · exact (mem_ins _ _ _).2 (.inr hx)
  · exact hx
theorem fixS_c (t : Nat) (s : St) : (fixS t s).c = s.c := by unfold fixS; split <;> rfl
theorem fixS_nr (t : Nat) (s : St) : (fixS t s).nr = s.nr := by unfold fixS; split <;> rfl
theorem fixAll_F : ∀ (l : List Nat) (s : St), (∀ x ∈ s.F, x ∈ (fixAll l s).F) ∧ (fixAll l s).c = s.c ∧ (fixAll l s).nr = s.nr
  | [], s => ⟨fun _ h => h, rfl, rfl⟩
  | t :: r, s => by
    have ih := fixAll_F r (fixS t s)
    exact ⟨fun x hx => ih.1 x (fixS_F x hx), ih.2.1.trans (fixS_c t s), ih.2.2.trans (fixS_nr t s)⟩
theorem comeS_nr (t : Nat) (s : St) : (comeS t s).nr = s.nr := by
  unfold comeS
  split
  · rfl
  · split <;> rfl
theorem Kp.act {t : Nat} {N : Int} {K : Nat} {s : St} (h : Kp t N s) (hk : Ok K s) (ht : t < 4294967296) (hN : N ≤ 10000) (z : OA) : Kp t (N + 1) (actS z s) := by
  have ho : actO s z < 4294967296 := by unfold actO; split <;> exact ts_lt _ _
  unfold actS actF
  split
  · exact h.come hk ht ho hN
  split
  · refine h.of (by omega) ?_ ?_ <;> (unfold dropS; split)
    · rfl
    · rfl
    · exact fun _ k => k
    · exact fun _ k => k
  split
  · exact h.of (by omega) (fixAll_F _ _).2.1 (fixAll_F _ _).1
  split
  · split
    · exact h.of (by omega) rfl fun _ k => k
    · exact h.of (by omega) rfl fun _ k => k
  split
  · split
    · exact h.of (by omega) rfl fun _ k => k
    · exact h.of (by omega) rfl fun _ k => k
  · exact h.of (by omega) rfl fun _ k => k
theorem actS_nr (z : OA) (s : St) : (actS z s).nr = s.nr := by
  unfold actS actF
  split
  · exact comeS_nr _ _
  split
  · unfold dropS; split <;> rfl
  split
  · exact (fixAll_F _ _).2.2
  split
  · split <;> rfl
  split
  · split <;> rfl
  · rfl
theorem runS_nr : ∀ (l : List OA) (s : St), (runS l s).nr = s.nr
  | [], s => rfl
  | z :: r, s => (runS_nr r (actS z s)).trans (actS_nr z s)
/-- it came and was fixed -/
theorem Kp.start {K at_ : Nat} {s : St} (hk : Ok K s) (ha : at_ ≤ 65535) : Kp (ts s.c at_) 1 (fixAll [ts s.c at_] (comeS (ts s.c at_) s)) := by
  have hx := ts_lt s.c at_
  have hd := ds_ts s.c at_ hk.c (by omega)
  have main : ∀ s1 : St, Ok (K + 1) s1 → -(65536 : Int) ≤ ds s1.c (ts s.c at_) → isIn s1.c s1.L (ts s.c at_) = true → Kp (ts s.c at_) 1 (fixS (ts s.c at_) s1) := fun s1 h1 h2 h3 => by
    unfold Kp
    rw [fixS_c]
    unfold isIn at h3
    rw [Bool.or_eq_true, decide_eq_true_eq, decide_eq_true_eq] at h3
    have h3 : ds s1.c (ts s.c at_) ≤ 0 ∨ (ds s1.c (ts s.c at_)).toNat ∈ s1.L := h3
    refine ⟨by omega, ?_, fun k => ?_⟩
    · rcases h3 with h3 | h3
      · omega
      · have := (h1.L.2 _ h3).2; omega
    · have hL := h3.resolve_left (by omega)
      cases hfr : free (ts s.c at_) s1 with
      | true => unfold fixS; rw [if_pos hfr]; exact (mem_ins _ _ _).2 (.inl rfl)
      | false =>
        have := (free_not.1 hfr).resolve_left (fun k => k hL)
        exact fixS_F _ this
  show Kp (ts s.c at_) 1 (fixS (ts s.c at_) (comeS (ts s.c at_) s))
  refine main _ (come_ok hk hx) ?_ ?_
  all_goals
    cases hin : isIn s.c s.L (ts s.c at_) with
    | true => rw [(come_in hin).2.2]; first | exact hin | (simp only; rw [hd]; omega)
    | false =>
      obtain ⟨d, h1, h2, h3, h4⟩ := not_in hk.c hx hin
      have h5 : d ≤ 65535 := by omega
      rw [(come_new hin h3 h5).2.2]
      have hr := run_le hk.L h1 h5 h4
      have e := ds_less (n := addN d s.L) hk.c hx (by omega) (by omega)
      simp only
      first
        | (rw [e]; omega)
        | (unfold isIn
           rw [Bool.or_eq_true, decide_eq_true_eq, decide_eq_true_eq]
           show ds (ts s.c (addN d s.L)) (ts s.c at_) ≤ 0 ∨ (ds (ts s.c (addN d s.L)) (ts s.c at_)).toNat ∈ addL d s.L
           rw [e, addL_sh hk.L h1 h5 h4]
           rcases (show ds s.c (ts s.c at_) - (addN d s.L : Int) ≤ 0 ∨ 0 < ds s.c (ts s.c at_) - (addN d s.L : Int) by omega) with k | k
           · exact .inl k
           · refine .inr ((mem_sh _ _ _).2 ⟨by omega, (mem_ins _ _ _).2 (.inl (by omega))⟩))
set_option maxHeartbeats 4000000 in
/-- where the bounds are kept there are boxes -/
theorem made_on {first : Nat} (hc : first < 4294967296) (delay : Int) (nr : Bool) (hd : 0 ≤ delay ∧ delay ≤ 500) (w : World) (hT : Tab w) {a : Option Addr} {n : Nat} (cap : Nat) {zs : List OA} (hz : Ops w a n zs) : Calls Tryd.prog 13 #[.int .u32 (first : Int), .int .i64 delay, .bool nr, .slice a n cap] w fun e w' =>
    ∃ b bc bf r bs, e = .returned (.tuple #[.pointer (some ⟨b, 0, none⟩), .pointer (some ⟨r, 0, none⟩), .bool true]) ∧ After w.heap.size w w' b bc bf r bs (min n 200) (runS (zs.take (min n 200)) (newS first delay nr)) := by
  have NB := hidden (new_box first hc delay nr w hT)
  have hn0 : 0 < w.heap.size := by have := cell_lt (hT 0 (by decide)); exact this
  have NR := hidden (fun (w1 : World) (h : w.heap.size ≤ w1.heap.size) => r_new first hc delay nr w1 (by omega))
  have HZ := hidden hz
  have hnb := hz.2.2.1
  clear hz
  have BT := hidden (fun (w1 w2 : World) (b bc bf r bs : Nat) hd h1 m1 h2 m2 => both (w := w) (w1 := w1) (w2 := w2) (b := b) (bc := bc) (bf := bf) (r := r) (bs := bs) hc delay nr hd h1 m1 h2 m2)
  go_enter Tryd.func13, Tryd.ntmps13
  generalize (first : Int) = fI at *
  go_wp2_with fail
  refine Calls.mono NB.out ?_
  rintro e w1 (⟨hno, _⟩ | ⟨_, b, bc, bf, rfl, hC1, hB1⟩)
  · exact absurd hd hno
  · have HC1 := hidden hC1
    have HB1 := hidden hB1
    clear hC1 hB1
    go_wp2_with fail
    refine Calls.mono (NR.out _ HB1.out.size) ?_
    rintro e w2 (⟨hno, _⟩ | ⟨_, r, bs, rfl, hR2, hB2⟩)
    · exact absurd hd hno
    have AF := hidden (BT.out _ _ _ _ _ _ _ hd HC1.out HB1.out hR2 hB2)
    clear hR2 hB2
    go_wp2_with fail
    go_loopw [15] (fun i wr => ∃ k : Nat, k ≤ min n 200 ∧ i = .int .i64 (k : Int) ∧ Hid (After w.heap.size w wr b bc bf r bs k (runS (zs.take k) (newS fI delay nr)))) (fun i wr => 200 - (intOf i).toNat)
    case atStart => exact ⟨0, by omega, rfl, AF⟩
    case round =>
      obtain ⟨k, hk, rfl, hA⟩ := hrel
      by_cases hlt : k < min n 200
      · have h1 : (k : Int) < (n : Int) := by omega
        have h2 : (k : Int) < 200 := by omega
        have hA0 := hA.out
        obtain ⟨v, fx, dp, P, hX, hB⟩ := hA0
        obtain ⟨bb, off, z, rfl, hzk, c0, c1, c2, hrow⟩ := HZ.out.at hB (j := k) (by omega)
        have AC := hidden (act hX (by omega) z hrow)
        have LD := hidden (ld_op z.a z.m z.cap c0 c1 c2)
        have ST := hidden (fun (x : World) (h : After w.heap.size wr x b bc bf r bs (k + 1) (actS z (runS (zs.take k) (newS fI delay nr)))) => (by
          obtain ⟨v, fx, dp, P, hX, hB2⟩ := h
          rw [runS_take hzk]
          exact ⟨v, fx, dp, P, hX, hB.trans hB2⟩ : After w.heap.size w x b bc bf r bs (k + 1) (runS (zs.take (k + 1)) (newS fI delay nr))))
        clear hX hB c0 c1 c2 hrow hA
        have hlk : k < n := by omega
        go_wp2_with (first | (refine wpList_ldA rfl 35 _ rfl rfl LD.out ?_) | fail)
        refine Calls.mono AC.out ?_
        rintro e x ⟨rfl, hx⟩
        have FN := hidden (ST.out x hx)
        clear hx
        go_wp2
        go_roundw
        case rel => exact ⟨k + 1, by omega, rfl, FN⟩
        case measure => simp only [intOf]; omega
      · have hk2 : k = min n 200 := by omega
        have FN := hidden (show After w.heap.size w wr b bc bf r bs (min n 200) (runS (zs.take (min n 200)) (newS fI delay nr)) by rw [← hk2]; exact hA.out)
        clear hA
        by_cases hn2 : k < n
        · have h1 : (k : Int) < (n : Int) := by omega
          have h2 : ¬ (k : Int) < 200 := by omega
          go_wp2
          go_ret3
          exact ⟨_, _, _, _, rfl, _, FN.out⟩
        · have h1 : ¬ (k : Int) < (n : Int) := by omega
          go_wp2
          go_ret3
          exact ⟨_, _, _, _, rfl, _, FN.out⟩
section
variable {n0 : Nat} {w w1 : World} {b bc bf r bs : Nat} {v fx dp : Value} {P : List Nat} {s : St} {K : Nat}
theorem one_nums {W : World} {g t : Nat} (h : Has W g #[.int .u32 (t : Int)] 22) : Nums W (.slice (some ⟨g, 0, none⟩) [t].length 1) [t].length (nf [t]) := by
  refine ⟨by simp, _, _, rfl, .inr ⟨g, 0, rfl, h.lt, fun j hj => ?_⟩⟩
  obtain rfl : j = 0 := by simpa using hj
  exact h.cell 0 rfl
/-- a number comes to both -/
theorem come_both (h : Bx n0 w b bc bf v r bs fx dp P K s) (t : Nat) (ht : t < 4294967296) :
    Calls Tryd.prog 23 #[.pointer (some ⟨b, 0, none⟩), .int .u32 (t : Int)] w fun e w1 => e = .returned (.tuple #[.bool (comeB t s), .int .i64 (comeE t s)]) ∧
      Calls Tryd.prog 24 #[.pointer (some ⟨r, 0, none⟩), .int .u32 (t : Int)] w1 fun e w2 => e = .returned (.tuple #[.bool (comeB t s), .int .i64 (comeE t s)]) ∧ After n0 w w2 b bc bf r bs (K + 1) (comeS t s) :=
  (Come_ h.cd h.ok t ht).mono (by
    rintro e w1 ⟨v', rfl, hC, hM, hN⟩
    refine ⟨rfl, (r_come (h.mid hM) h.ok t ht).mono ?_⟩
    rintro e w2 ⟨fx', dp', P', rfl, hR, hM2, e2, e3⟩
    have hs := h.step hC hM hN hR hM2 e2 e3 (come_ok h.ok ht)
    exact ⟨rfl, _, _, _, _, hs.1, hs.2⟩)
/-- a number is fixed in both -/
theorem fix_both (h : Bx n0 w b bc bf v r bs fx dp P K s) (t : Nat) (ht : t < 4294967296) :
    Calls Tryd.prog 25 #[.pointer (some ⟨b, 0, none⟩), .slice (some ⟨w.heap.size, 0, none⟩) 1 1] (w.alloc (.cells #[.int .u32 (t : Int)] 22)) fun e w1 => e = .returned (.int .i64 (fixN [t] s)) ∧
      Calls Tryd.prog 26 #[.pointer (some ⟨r, 0, none⟩), .slice (some ⟨w1.heap.size, 0, none⟩) 1 1] (w1.alloc (.cells #[.int .u32 (t : Int)] 22)) fun e w2 => e = .returned (.int .i64 (fixN [t] s)) ∧ After n0 w w2 b bc bf r bs K (fixAll [t] s) := by
  have hB := below_new w (.cells #[.int .u32 (t : Int)] 22)
  have hX := h.later hB
  have hnew : Has (w.alloc (.cells #[.int .u32 (t : Int)] 22)) w.heap.size #[.int .u32 (t : Int)] 22 := Has.new w _ _
  have hlt := h.lt
  refine (Fix_ hX.cd h.ok [t] (by simpa using ht) (by simp) (some ⟨w.heap.size, 0, none⟩) 1 (fun w' hm => one_nums (hm.has hnew (fun hk => by have := hlt.1 _ hk; omega)))).mono ?_
  rintro e w1 ⟨rfl, hC, hM⟩
  refine ⟨rfl, ?_⟩
  have hB1 := below_new w1 (.cells #[.int .u32 (t : Int)] 22)
  have hM1 : Mod (FC b bc bf v) w (w1.alloc (.cells #[.int .u32 (t : Int)] 22)) := ((Mod.of_below hB).trans hM (fun x hx => .inl hx)).trans (Mod.of_below hB1 : Mod (FC b bc bf v) _ _) (fun x hx => .inl hx)
  have hnew1 : Has (w1.alloc (.cells #[.int .u32 (t : Int)] 22)) w1.heap.size #[.int .u32 (t : Int)] 22 := Has.new w1 _ _
  have hsz : w.heap.size ≤ w1.heap.size := Nat.le_trans hB.size hM.size
  refine (r_hold (h.mid hM1) h.ok [t] (by simpa using ht) (by simp) (some ⟨w1.heap.size, 0, none⟩) 1 (fun w' hm => one_nums (hm.has hnew1 (fun hk => by have := hlt.2 _ hk; omega)))).mono ?_
  rintro e w2 ⟨fx', P', rfl, hR, hM2, e2⟩
  have hs := h.step (hC.later hB1) hM1 (Newer.refl _ _) hR hM2 e2 (Newer.refl _ _) (fixAll_ok h.ok)
  exact ⟨rfl, _, _, _, _, hs.1, hs.2⟩
/-- a report is kept and read -/
theorem Rg_.read {base : Nat} {kd cu wn : Int} {Xs Ys : List (Nat × Nat)} {D : List Nat} {V : Value} (h : Rg_ base w kd cu wn Xs Ys D V) : ∃ Y cs, V = .agg cs ∧ (Instr.storeAt 46 (.pointer (some ⟨w.heap.size, 0, none⟩)) (.agg cs)).run Tryd.prog (w.alloc (.cells zch 46)) = .ok () Y ∧ Below w.heap.size w Y ∧ w.heap.size < Y.heap.size ∧
    Y.cell? ⟨w.heap.size, 2, none⟩ = some (.int .u32 cu) ∧ ∃ a k, Y.cell? ⟨w.heap.size, 11, none⟩ = some (.slice a Ys.length k) ∧ Ys.length ≤ 9223372036854775807 ∧ (Ys.length = 0 ∨ ∃ g, a = some ⟨g, 0, none⟩ ∧ ∀ j, j < Ys.length → Y.cell? ⟨g, j * 2, none⟩ = some (.int .u16 ((Ys.getD j (0, 0)).1 : Int)) ∧ Y.cell? ⟨g, j * 2 + 1, none⟩ = some (.int .u16 ((Ys.getD j (0, 0)).2 : Int))) := by
  obtain ⟨a1, n1, k1, a2, n2, k2, a3, n3, k3, rfl, h1, h2, h3⟩ := h
  have hX := (Ow.Own.refl w).alloc zch 46
  have hY := hX.row (chv kd cu wn (.slice a1 n1 k1) (.slice a2 n2 k2) (.slice a3 n3 k3)) (by simp)
  obtain ⟨u0, u1, u2, u7, u10, u11, u12, u13, u14⟩ := ch_cells (hY.has (.head _))
  obtain ⟨g0, a, cap, e, hor⟩ := (gps_own h2).later hY.below
  cases e
  refine ⟨_, _, rfl, store_ch (hX.has (.head _)), hY.below, (hY.has (.head _)).lt, u2, a2, k2, u11, g0, hor.imp id ?_⟩
  rintro ⟨g, rfl, hg, hc⟩
  exact ⟨g, rfl, hc⟩
end
end Go.Proofs.YtdifceikfnnfeaaDoor.Sp.Inb
