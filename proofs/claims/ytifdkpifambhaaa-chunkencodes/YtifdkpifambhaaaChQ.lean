/-
  The reader of package chunk: a value, kind by kind.
  Conditions: the numbers lie within their kinds, the cells hold them; the bytes lie in the memory of an older world, which the reader does not touch.
-/
import Derived.Test.YtifdkpifambhaaaChP
namespace Go.Proofs.Ytifdkpifambhaaa.Chu
open Go.ChangeShapes Go.WideShapes Go.ChangeAt Go.RowKit
open Par (hidden Bytes Row Prm Prms cell_lt Cap cells_new cutA thrown form_of)
set_option linter.unusedVariables false

theorem lst_prms {n : Nat} {w : World} {c : Ck} {pa : Option Addr} {m pc : Nat} {ps : List Prm} (hp : Prms n w pa m ps) (h : Lsts n w c) : Lsts n w { c with pa := pa, pl := m, pc := pc, ps := ps } := ⟨h.1, h.2.1, h.2.2.1, h.2.2.2.1, h.2.2.2.2.1, hp⟩
theorem lst_body {n : Nat} {w : World} {c : Ck} {a : Option Addr} {m k : Nat} {bs : List Int} (hr : Row n w a m bs) (hn : a = none → m = 0 ∧ k = 0) (h : Lsts n w c) : Lsts n w { c with ba := a, bl := m, bc := k, bs := bs } := ⟨h.1, h.2.1, h.2.2.1, hr, hn, h.2.2.2.2.2⟩
theorem Fl.fin {base n : Nat} {w0 w : World} {B C p : Nat} {v : List Int} {c : Ck} (h : Fl base n w0 w B C v p c) : ∃ a len cap, w.cell? ⟨B, 0, none⟩ = some (.slice a len cap) ∧ len = v.length - p ∧ p ≤ v.length := by
  obtain ⟨a, len, cap, h1, h2⟩ := h.rd
  exact ⟨a, len, cap, h1, h2, h.1.2.1⟩
theorem fil_of {k k' : Int} {v : List Int} {x y : Ch} {e : Int} (h : k = k') (hf : Fil k' v x e y) : Fil k v x e y := h ▸ hf
set_option maxHeartbeats 16000000 in
set_option maxRecDepth 20000 in
theorem fill_long (base n : Nat) (w0 w : World) (B C : Nat) (v : List Int) (c : Ck) (h : Fl base n w0 w B C v 0 c) (hlim : v.length ≤ 140737488355328) (hv : nb c.kind ≤ v.length) :
    Calls Try.prog 61 #[.pointer (some ⟨B, 0, none⟩), .pointer (some ⟨C, 0, none⟩)] w fun e w' => Filled base n w0 w B C v c e w' := by
  obtain ⟨a, len, cap, qr, hlen⟩ := h.rd
  have q0 := h.2.1.c0
  have HNB := hidden (numberBytes c.kind)
  have HH := hidden (has a len cap (nb c.kind))
  rw [show decide (nb c.kind ≤ len) = true from decide_eq_true (by omega)] at HH
  have HF0 := hidden h
  clear h hlen
  go_enter Try.func61, Try.ntmps61
  go_wp2_with fail
  go_quiet ((first
    | (go_at_call 53; exact Calls.quiet_of_same ((HNB.out _).mono (fun e w' h => ⟨h.1, h.2.symm⟩)))
    | (go_at_call 57; exact Calls.quiet_of_same ((HH.out _).mono (fun e w' h => ⟨h.1, h.2.symm⟩)))
    | (go_at_call 56; exact Calls.quiet_of_same ((need_ok 61 _).mono (fun e w' h => ⟨h.1, h.2.symm⟩)))))
  have HF := hidden (HF0.out.drewN nq)
  have T0 := hidden (tch_drewN B C w nq)
  have q0 := HF.out.2.1.c0
  clear HF0 HNB HH qr
  generalize w.drewN nq = W at *
  rcases kind_cases c.kind with hk | hk | hk | hk | hk | hk | hk | hk | hk | hk | hk | hk | hk | hk | hk
  · have hnb : nb c.kind = 12 := by rw [hk]; rfl
    rw [hnb] at hv
    have R := hidden (four base w0 _ B 0 v HF.out.1 (by omega))
    simp only [Nat.reduceAdd] at R
    go_wp2_with fail
    refine Calls.mono R.out ?_
    rintro e w1 ⟨rfl, r, g⟩
    clear q0
    have f1 := HF.out.read r g
    have q1 := f1.2.1.c2
    have z1 := f1.2.1.fr 2
    have f2 := f1.store (f1.2.1.s2 (n4 v 0)) (fun h => h)
    have T1 := hidden (T0.out.trans ((Tch.ofB (C := C) g).trans (Tch.ofC (gr_set w1 C 2 (.int .u32 (n4 v 0))))))
    have HF1 := hidden f2
    clear r g f1 f2 R HF T0
    have R := hidden (two base w0 _ B 4 v HF1.out.1 (by omega))
    simp only [Nat.reduceAdd] at R
    go_wp2_with fail
    refine Calls.mono R.out ?_
    rintro e w2 ⟨rfl, r, g⟩
    clear q1 z1
    have f1 := HF1.out.read r g
    have q2 := f1.2.1.c3
    have z2 := f1.2.1.fr 3
    have f2 := f1.store (f1.2.1.s3 (n2 v 4)) (fun h => h)
    have T2 := hidden (T1.out.trans ((Tch.ofB (C := C) g).trans (Tch.ofC (gr_set w2 C 3 (.int .u16 (n2 v 4))))))
    have HF2 := hidden f2
    clear r g f1 f2 R HF1 T1
    have R := hidden (two base w0 _ B 6 v HF2.out.1 (by omega))
    simp only [Nat.reduceAdd] at R
    go_wp2_with fail
    refine Calls.mono R.out ?_
    rintro e w3 ⟨rfl, r, g⟩
    clear q2 z2
    have f1 := HF2.out.read r g
    have q3 := f1.2.1.c4
    have z3 := f1.2.1.fr 4
    have f2 := f1.store (f1.2.1.s4 (n2 v 6)) (fun h => h)
    have T3 := hidden (T2.out.trans ((Tch.ofB (C := C) g).trans (Tch.ofC (gr_set w3 C 4 (.int .u16 (n2 v 6))))))
    have HF3 := hidden f2
    clear r g f1 f2 R HF2 T2
    have R := hidden (four base w0 _ B 8 v HF3.out.1 (by omega))
    simp only [Nat.reduceAdd] at R
    go_wp2_with fail
    refine Calls.mono R.out ?_
    rintro e w4 ⟨rfl, r, g⟩
    clear q3 z3
    have f1 := HF3.out.read r g
    have q4 := f1.2.1.c5
    have z4 := f1.2.1.fr 5
    have f2 := f1.store (f1.2.1.s5 (n4 v 8)) (fun h => h)
    have T4 := hidden (T3.out.trans ((Tch.ofB (C := C) g).trans (Tch.ofC (gr_set w4 C 5 (.int .u32 (n4 v 8))))))
    have HF4 := hidden f2
    clear r g f1 f2 R HF3 T3
    obtain ⟨ra, rl, rc, qz, hz, hp⟩ := HF4.out.fin
    have EM := hidden (empty_ ra rl rc)
    by_cases h0 : rl = 0
    · rw [show decide (rl = 0) = true from decide_eq_true h0] at EM
      have HZ := hidden (show v.length = 12 by omega)
      clear hz hp h0
      go_wp2_with fail
      refine Calls.mono (EM.out _) ?_
      rintro e wz ⟨rfl, rfl⟩
      go_wp2_with fail
      refine Calls.mono (need_bad 62 _) ?_
      rintro e wz ⟨rfl, rfl⟩
      exact ⟨rfl, filled_bad T4.out ⟨_, HF4.out.2.1⟩ (fun y => (fil_of hk (by unfold Fil; rw [if_neg (show ¬ v.length < nb 0 from (show ¬ v.length < 12 by omega)), if_neg (by decide), if_neg (by decide), if_neg (by decide), if_neg (by decide), if_neg (by decide), if_neg (by decide), if_pos (by decide)]; exact .inl ⟨HZ.out, rfl⟩))) (by decide)⟩
    rw [show decide (rl = 0) = false from decide_eq_false h0] at EM
    have HZ2 := hidden (show v.length ≠ 12 by omega)
    clear hz hp h0
    go_wp2_with fail
    refine Calls.mono (EM.out _) ?_
    rintro e wz ⟨rfl, rfl⟩
    go_wp2_with fail
    refine Calls.mono (need_ok 62 _) ?_
    rintro e wz ⟨rfl, rfl⟩
    clear EM qz
    have RS := hidden (rest base w0 _ B 12 v HF4.out.1)
    go_wp2_with fail
    refine Calls.mono RS.out ?_
    rintro e w5 ⟨u, rfl, ho, r, g⟩
    clear q4 z4
    obtain ⟨ua, uc, rfl, hrow, _, _, hun⟩ := Par.row_own ho (fun x hx => HF4.out.1.2.2.1 x (List.mem_of_mem_drop hx)) (by omega)
    have f1 := HF4.out.read r g
    have hrow2 := hrow.mono HF4.out.2.2.2.2.2.2.2
    have q5 := f1.2.1.c13
    have z5 := f1.2.1.fr 13
    have f2 := f1.store (f1.2.1.s13 ua (v.length - 12) uc (v.drop 12)) (lst_body hrow2 hun)
    have T5 := hidden (T4.out.trans ((Tch.ofB (C := C) g).trans (Tch.ofC (gr_set w5 C 13 (.slice ua (v.length - 12) uc)))))
    have HF5 := hidden f2
    clear r g f1 f2 RS ho hrow hrow2 hun HF4 T4
    obtain ⟨ra, rl, rc, qz, hz, hp⟩ := HF5.out.fin
    have EM := hidden (empty_ ra rl rc)
    by_cases h0 : rl = 0
    · rw [show decide (rl = 0) = true from decide_eq_true h0] at EM
      have HZ := hidden (show v.length = v.length by omega)
      clear hz hp h0
      go_wp2_with fail
      refine Calls.mono (EM.out _) ?_
      rintro e wz ⟨rfl, rfl⟩
      go_wp2_with fail
      refine Calls.mono (need_ok 61 _) ?_
      rintro e wz ⟨rfl, rfl⟩
      go_wp2
      go_end0
      exact filled_ok T5.out (fil_of hk (by unfold Fil; rw [if_neg (show ¬ v.length < nb 0 from (show ¬ v.length < 12 by omega)), if_neg (by decide), if_neg (by decide), if_neg (by decide), if_neg (by decide), if_neg (by decide), if_neg (by decide), if_pos (by decide)]; exact .inr ⟨HZ2.out, rfl, rfl⟩)) HF5.out
    · rw [show decide (rl = 0) = false from decide_eq_false h0] at EM
      exact absurd (by omega : rl = 0) h0
  · have hnb : nb c.kind = 16 := by rw [hk]; rfl
    rw [hnb] at hv
    have R := hidden (four base w0 _ B 0 v HF.out.1 (by omega))
    simp only [Nat.reduceAdd] at R
    go_wp2_with fail
    refine Calls.mono R.out ?_
    rintro e w1 ⟨rfl, r, g⟩
    clear q0
    have f1 := HF.out.read r g
    have q1 := f1.2.1.c6
    have z1 := f1.2.1.fr 6
    have f2 := f1.store (f1.2.1.s6 (n4 v 0)) (fun h => h)
    have T1 := hidden (T0.out.trans ((Tch.ofB (C := C) g).trans (Tch.ofC (gr_set w1 C 6 (.int .u32 (n4 v 0))))))
    have HF1 := hidden f2
    clear r g f1 f2 R HF T0
    have R := hidden (four base w0 _ B 4 v HF1.out.1 (by omega))
    simp only [Nat.reduceAdd] at R
    go_wp2_with fail
    refine Calls.mono R.out ?_
    rintro e w2 ⟨rfl, r, g⟩
    clear q1 z1
    have f1 := HF1.out.read r g
    have q2 := f1.2.1.c7
    have z2 := f1.2.1.fr 7
    have f2 := f1.store (f1.2.1.s7 (n4 v 4)) (fun h => h)
    have T2 := hidden (T1.out.trans ((Tch.ofB (C := C) g).trans (Tch.ofC (gr_set w2 C 7 (.int .u32 (n4 v 4))))))
    have HF2 := hidden f2
    clear r g f1 f2 R HF1 T1
    have R := hidden (two base w0 _ B 8 v HF2.out.1 (by omega))
    simp only [Nat.reduceAdd] at R
    go_wp2_with fail
    refine Calls.mono R.out ?_
    rintro e w3 ⟨rfl, r, g⟩
    clear q2 z2
    have f1 := HF2.out.read r g
    have q3 := f1.2.1.c8
    have z3 := f1.2.1.fr 8
    have f2 := f1.store (f1.2.1.s8 (n2 v 8)) (fun h => h)
    have T3 := hidden (T2.out.trans ((Tch.ofB (C := C) g).trans (Tch.ofC (gr_set w3 C 8 (.int .u16 (n2 v 8))))))
    have HF3 := hidden f2
    clear r g f1 f2 R HF2 T2
    have R := hidden (two base w0 _ B 10 v HF3.out.1 (by omega))
    simp only [Nat.reduceAdd] at R
    go_wp2_with fail
    refine Calls.mono R.out ?_
    rintro e w4 ⟨rfl, r, g⟩
    clear q3 z3
    have f1 := HF3.out.read r g
    have q4 := f1.2.1.c9
    have z4 := f1.2.1.fr 9
    have f2 := f1.store (f1.2.1.s9 (n2 v 10)) (fun h => h)
    have T4 := hidden (T3.out.trans ((Tch.ofB (C := C) g).trans (Tch.ofC (gr_set w4 C 9 (.int .u16 (n2 v 10))))))
    have HF4 := hidden f2
    clear r g f1 f2 R HF3 T3
    have R := hidden (four base w0 _ B 12 v HF4.out.1 (by omega))
    simp only [Nat.reduceAdd] at R
    go_wp2_with fail
    refine Calls.mono R.out ?_
    rintro e w5 ⟨rfl, r, g⟩
    clear q4 z4
    have f1 := HF4.out.read r g
    have q5 := f1.2.1.c2
    have z5 := f1.2.1.fr 2
    have f2 := f1.store (f1.2.1.s2 (n4 v 12)) (fun h => h)
    have T5 := hidden (T4.out.trans ((Tch.ofB (C := C) g).trans (Tch.ofC (gr_set w5 C 2 (.int .u32 (n4 v 12))))))
    have HF5 := hidden f2
    clear r g f1 f2 R HF4 T4
    have PM := hidden (params base w0 _ B 16 v HF5.out.1)
    go_wp2_with fail
    refine Calls.mono PM.out ?_
    rintro e w6 (⟨pa, m, pcap, ps, q, rfl, hP, hO, r, g⟩ | ⟨l, q, cd, rfl, hcd, hO, g⟩)
    rotate_left
    · exact ⟨rfl, filled_bad (T5.out.trans (Tch.ofB g)) ⟨_, HF5.out.2.1.grown g (Ne.symm HF5.out.2.2.2.1)⟩ (fun y => (fil_of hk (by unfold Fil; rw [if_neg (show ¬ v.length < nb 1 from (show ¬ v.length < 16 by omega)), if_neg (by decide), if_neg (by decide), if_neg (by decide), if_pos (by decide)]; exact ⟨l, q, cd, hO, .inl ⟨hcd, rfl⟩⟩))) hcd⟩
    clear q5 z5
    have f1 := HF5.out.read r g
    have hP2 := prms_mono hP HF5.out.2.2.2.2.2.2.2
    have q6 := f1.2.1.c14
    have z6 := f1.2.1.fr 14
    have f2 := f1.store (f1.2.1.s14 pa m pcap ps) (lst_prms hP2)
    have T6 := hidden (T5.out.trans ((Tch.ofB (C := C) g).trans (Tch.ofC (gr_set w6 C 14 (.slice pa m pcap)))))
    have k0 := f2.2.1.c0
    have HF6 := hidden f2
    have HOUT := hidden hO
    clear r g f1 f2 PM hP hP2 hO HF5 T5
    have hbt : beat 1 = false := rfl
    go_wp2_with fail
    refine Calls.mono (isBeat 1 _) ?_
    rintro e wb ⟨rfl, rfl⟩
    go_wp2_with fail
    refine Calls.mono (need_ok 61 _) ?_
    rintro e wb ⟨rfl, rfl⟩
    clear k0
    obtain ⟨ra, rl, rc, qz, hz, hp⟩ := HF6.out.fin
    have EM := hidden (empty_ ra rl rc)
    by_cases h0 : rl = 0
    · rw [show decide (rl = 0) = true from decide_eq_true h0] at EM
      have HZ := hidden (show v.length = v.length by omega)
      clear hz hp h0
      go_wp2_with fail
      refine Calls.mono (EM.out _) ?_
      rintro e wz ⟨rfl, rfl⟩
      go_wp2_with fail
      refine Calls.mono (need_ok 61 _) ?_
      rintro e wz ⟨rfl, rfl⟩
      go_wp2
      go_end0
      exact filled_ok T6.out (fil_of hk (by unfold Fil; rw [if_neg (show ¬ v.length < nb 1 from (show ¬ v.length < 16 by omega)), if_neg (by decide), if_neg (by decide), if_neg (by decide), if_pos (by decide)]; exact ⟨_, q, 0, HOUT.out, .inr ⟨rfl, rfl, rfl⟩⟩)) HF6.out
    · rw [show decide (rl = 0) = false from decide_eq_false h0] at EM
      exact absurd (by omega : rl = 0) h0
  · have hnb : nb c.kind = 16 := by rw [hk]; rfl
    rw [hnb] at hv
    have R := hidden (four base w0 _ B 0 v HF.out.1 (by omega))
    simp only [Nat.reduceAdd] at R
    go_wp2_with fail
    refine Calls.mono R.out ?_
    rintro e w1 ⟨rfl, r, g⟩
    clear q0
    have f1 := HF.out.read r g
    have q1 := f1.2.1.c6
    have z1 := f1.2.1.fr 6
    have f2 := f1.store (f1.2.1.s6 (n4 v 0)) (fun h => h)
    have T1 := hidden (T0.out.trans ((Tch.ofB (C := C) g).trans (Tch.ofC (gr_set w1 C 6 (.int .u32 (n4 v 0))))))
    have HF1 := hidden f2
    clear r g f1 f2 R HF T0
    have R := hidden (four base w0 _ B 4 v HF1.out.1 (by omega))
    simp only [Nat.reduceAdd] at R
    go_wp2_with fail
    refine Calls.mono R.out ?_
    rintro e w2 ⟨rfl, r, g⟩
    clear q1 z1
    have f1 := HF1.out.read r g
    have q2 := f1.2.1.c7
    have z2 := f1.2.1.fr 7
    have f2 := f1.store (f1.2.1.s7 (n4 v 4)) (fun h => h)
    have T2 := hidden (T1.out.trans ((Tch.ofB (C := C) g).trans (Tch.ofC (gr_set w2 C 7 (.int .u32 (n4 v 4))))))
    have HF2 := hidden f2
    clear r g f1 f2 R HF1 T1
    have R := hidden (two base w0 _ B 8 v HF2.out.1 (by omega))
    simp only [Nat.reduceAdd] at R
    go_wp2_with fail
    refine Calls.mono R.out ?_
    rintro e w3 ⟨rfl, r, g⟩
    clear q2 z2
    have f1 := HF2.out.read r g
    have q3 := f1.2.1.c8
    have z3 := f1.2.1.fr 8
    have f2 := f1.store (f1.2.1.s8 (n2 v 8)) (fun h => h)
    have T3 := hidden (T2.out.trans ((Tch.ofB (C := C) g).trans (Tch.ofC (gr_set w3 C 8 (.int .u16 (n2 v 8))))))
    have HF3 := hidden f2
    clear r g f1 f2 R HF2 T2
    have R := hidden (two base w0 _ B 10 v HF3.out.1 (by omega))
    simp only [Nat.reduceAdd] at R
    go_wp2_with fail
    refine Calls.mono R.out ?_
    rintro e w4 ⟨rfl, r, g⟩
    clear q3 z3
    have f1 := HF3.out.read r g
    have q4 := f1.2.1.c9
    have z4 := f1.2.1.fr 9
    have f2 := f1.store (f1.2.1.s9 (n2 v 10)) (fun h => h)
    have T4 := hidden (T3.out.trans ((Tch.ofB (C := C) g).trans (Tch.ofC (gr_set w4 C 9 (.int .u16 (n2 v 10))))))
    have HF4 := hidden f2
    clear r g f1 f2 R HF3 T3
    have R := hidden (four base w0 _ B 12 v HF4.out.1 (by omega))
    simp only [Nat.reduceAdd] at R
    go_wp2_with fail
    refine Calls.mono R.out ?_
    rintro e w5 ⟨rfl, r, g⟩
    clear q4 z4
    have f1 := HF4.out.read r g
    have q5 := f1.2.1.c2
    have z5 := f1.2.1.fr 2
    have f2 := f1.store (f1.2.1.s2 (n4 v 12)) (fun h => h)
    have T5 := hidden (T4.out.trans ((Tch.ofB (C := C) g).trans (Tch.ofC (gr_set w5 C 2 (.int .u32 (n4 v 12))))))
    have HF5 := hidden f2
    clear r g f1 f2 R HF4 T4
    have PM := hidden (params base w0 _ B 16 v HF5.out.1)
    go_wp2_with fail
    refine Calls.mono PM.out ?_
    rintro e w6 (⟨pa, m, pcap, ps, q, rfl, hP, hO, r, g⟩ | ⟨l, q, cd, rfl, hcd, hO, g⟩)
    rotate_left
    · exact ⟨rfl, filled_bad (T5.out.trans (Tch.ofB g)) ⟨_, HF5.out.2.1.grown g (Ne.symm HF5.out.2.2.2.1)⟩ (fun y => (fil_of hk (by unfold Fil; rw [if_neg (show ¬ v.length < nb 2 from (show ¬ v.length < 16 by omega)), if_neg (by decide), if_neg (by decide), if_neg (by decide), if_pos (by decide)]; exact ⟨l, q, cd, hO, .inl ⟨hcd, rfl⟩⟩))) hcd⟩
    clear q5 z5
    have f1 := HF5.out.read r g
    have hP2 := prms_mono hP HF5.out.2.2.2.2.2.2.2
    have q6 := f1.2.1.c14
    have z6 := f1.2.1.fr 14
    have f2 := f1.store (f1.2.1.s14 pa m pcap ps) (lst_prms hP2)
    have T6 := hidden (T5.out.trans ((Tch.ofB (C := C) g).trans (Tch.ofC (gr_set w6 C 14 (.slice pa m pcap)))))
    have k0 := f2.2.1.c0
    have HF6 := hidden f2
    have HOUT := hidden hO
    clear r g f1 f2 PM hP hP2 hO HF5 T5
    have hbt : beat 2 = false := rfl
    go_wp2_with fail
    refine Calls.mono (isBeat 2 _) ?_
    rintro e wb ⟨rfl, rfl⟩
    go_wp2_with fail
    refine Calls.mono (need_ok 61 _) ?_
    rintro e wb ⟨rfl, rfl⟩
    clear k0
    obtain ⟨ra, rl, rc, qz, hz, hp⟩ := HF6.out.fin
    have EM := hidden (empty_ ra rl rc)
    by_cases h0 : rl = 0
    · rw [show decide (rl = 0) = true from decide_eq_true h0] at EM
      have HZ := hidden (show v.length = v.length by omega)
      clear hz hp h0
      go_wp2_with fail
      refine Calls.mono (EM.out _) ?_
      rintro e wz ⟨rfl, rfl⟩
      go_wp2_with fail
      refine Calls.mono (need_ok 61 _) ?_
      rintro e wz ⟨rfl, rfl⟩
      go_wp2
      go_end0
      exact filled_ok T6.out (fil_of hk (by unfold Fil; rw [if_neg (show ¬ v.length < nb 2 from (show ¬ v.length < 16 by omega)), if_neg (by decide), if_neg (by decide), if_neg (by decide), if_pos (by decide)]; exact ⟨_, q, 0, HOUT.out, .inr ⟨rfl, rfl, rfl⟩⟩)) HF6.out
    · rw [show decide (rl = 0) = false from decide_eq_false h0] at EM
      exact absurd (by omega : rl = 0) h0
  · have hnb : nb c.kind = 12 := by rw [hk]; rfl
    rw [hnb] at hv
    have RP := hidden (report3 base n w0 W B C v c HF.out hk hv hlim)
    go_wp2_with fail
    refine Calls.mono RP.out ?_
    rintro e w1 ⟨hT, hr⟩
    clear q0 RP
    rcases hr with ⟨rfl, hx, h1⟩ | ⟨rfl, hx, h1, h2⟩ | ⟨rfl, h1, c', hF', hval⟩
    · exact ⟨rfl, filled_bad (T0.out.trans hT) hx (fun y => (fil_of hk (by unfold Fil; rw [if_neg (show ¬ v.length < nb 3 from (show ¬ v.length < 12 by omega)), if_pos (by decide)]; exact .inl ⟨h1, rfl⟩))) (by decide)⟩
    · exact ⟨rfl, filled_bad (T0.out.trans hT) hx (fun y => (fil_of hk (by unfold Fil; rw [if_neg (show ¬ v.length < nb 3 from (show ¬ v.length < 12 by omega)), if_pos (by decide)]; exact .inr (.inl ⟨h1, (by show v.length ≠ 12 + 4 * (cG v + cN 3 v + cD 3 v); omega), rfl⟩)))) (by decide)⟩
    have HF1 := hidden hF'
    have T1 := hidden (T0.out.trans hT)
    have HC1 := hidden h1
    have HVL := hidden hval
    clear hF' hT h1 hval HF T0
    obtain ⟨ra, rl, rc, qz, hz, hp⟩ := HF1.out.fin
    have EM := hidden (empty_ ra rl rc)
    by_cases h0 : rl = 0
    · rw [show decide (rl = 0) = true from decide_eq_true h0] at EM
      have HZ := hidden (show v.length = 12 + 4 * (cG v + cN 3 v + cD 3 v) by omega)
      clear hz hp h0
      go_wp2_with fail
      refine Calls.mono (EM.out _) ?_
      rintro e wz ⟨rfl, rfl⟩
      go_wp2_with fail
      refine Calls.mono (need_ok 61 _) ?_
      rintro e wz ⟨rfl, rfl⟩
      go_wp2
      go_end0
      exact filled_ok T1.out (fil_of hk (by unfold Fil; rw [if_neg (show ¬ v.length < nb 3 from (show ¬ v.length < 12 by omega)), if_pos (by decide)]; exact .inr (.inr ⟨HC1.out, HZ.out, rfl, HVL.out⟩))) HF1.out
    · rw [show decide (rl = 0) = false from decide_eq_false h0] at EM
      have HZ := hidden (show ¬ v.length = 12 + 4 * (cG v + cN 3 v + cD 3 v) by omega)
      clear hz hp h0
      go_wp2_with fail
      refine Calls.mono (EM.out _) ?_
      rintro e wz ⟨rfl, rfl⟩
      go_wp2_with fail
      refine Calls.mono (need_bad 61 _) ?_
      rintro e wz ⟨rfl, rfl⟩
      exact ⟨rfl, filled_bad T1.out ⟨_, HF1.out.2.1⟩ (fun y => (fil_of hk (by unfold Fil; rw [if_neg (show ¬ v.length < nb 3 from (show ¬ v.length < 12 by omega)), if_pos (by decide)]; exact .inr (.inl ⟨HC1.out, HZ.out, rfl⟩)))) (by decide)⟩
  · have hnb : nb c.kind = 0 := by rw [hk]; rfl
    rw [hnb] at hv
    have PM := hidden (params base w0 _ B 0 v HF.out.1)
    go_wp2_with fail
    refine Calls.mono PM.out ?_
    rintro e w1 (⟨pa, m, pcap, ps, q, rfl, hP, hO, r, g⟩ | ⟨l, q, cd, rfl, hcd, hO, g⟩)
    rotate_left
    · exact ⟨rfl, filled_bad (T0.out.trans (Tch.ofB g)) ⟨_, HF.out.2.1.grown g (Ne.symm HF.out.2.2.2.1)⟩ (fun y => (fil_of hk (by unfold Fil; rw [if_neg (show ¬ v.length < nb 4 from (show ¬ v.length < 0 by omega)), if_neg (by decide), if_neg (by decide), if_neg (by decide), if_neg (by decide), if_pos (by decide)]; exact ⟨l, q, cd, (by simpa using hO), .inl ⟨hcd, rfl⟩⟩))) hcd⟩
    clear q0
    have f1 := HF.out.read r g
    have hP2 := prms_mono hP HF.out.2.2.2.2.2.2.2
    have q1 := f1.2.1.c14
    have z1 := f1.2.1.fr 14
    have f2 := f1.store (f1.2.1.s14 pa m pcap ps) (lst_prms hP2)
    have T1 := hidden (T0.out.trans ((Tch.ofB (C := C) g).trans (Tch.ofC (gr_set w1 C 14 (.slice pa m pcap)))))
    have k0 := f2.2.1.c0
    have HF1 := hidden f2
    have HOUT := hidden hO
    have k14 := f2.2.1.c14
    have OB := hidden (isOneBeat n _ pa m pcap ps f2.2.2.1.2.2.2.2.2)
    clear r g f1 f2 PM hP hP2 hO HF T0
    have hbt : beat 4 = true := rfl
    go_wp2_with fail
    refine Calls.mono (isBeat 4 _) ?_
    rintro e wb ⟨rfl, rfl⟩
    go_wp2_with fail
    refine Calls.mono OB.out ?_
    rintro e wb ⟨t, rfl, ht, rfl⟩
    have HT := hidden ht
    clear ht OB
    rcases t with _ | _
    · go_wp2_with fail
      refine Calls.mono (need_bad 61 _) ?_
      rintro e wb ⟨rfl, rfl⟩
      exact ⟨rfl, filled_bad T1.out ⟨_, HF1.out.2.1⟩ (fun y => (fil_of hk (by unfold Fil; rw [if_neg (show ¬ v.length < nb 4 from (show ¬ v.length < 0 by omega)), if_neg (by decide), if_neg (by decide), if_neg (by decide), if_neg (by decide), if_pos (by decide)]; exact ⟨_, q, 0, (by simpa using HOUT.out), .inr (.inl ⟨rfl, (fun h => by simpa using HT.out.2 h), rfl⟩)⟩))) (by decide)⟩
    go_wp2_with fail
    refine Calls.mono (need_ok 61 _) ?_
    rintro e wb ⟨rfl, rfl⟩
    clear k0 k14
    obtain ⟨ra, rl, rc, qz, hz, hp⟩ := HF1.out.fin
    have EM := hidden (empty_ ra rl rc)
    by_cases h0 : rl = 0
    · rw [show decide (rl = 0) = true from decide_eq_true h0] at EM
      have HZ := hidden (show v.length = v.length by omega)
      clear hz hp h0
      go_wp2_with fail
      refine Calls.mono (EM.out _) ?_
      rintro e wz ⟨rfl, rfl⟩
      go_wp2_with fail
      refine Calls.mono (need_ok 61 _) ?_
      rintro e wz ⟨rfl, rfl⟩
      go_wp2
      go_end0
      exact filled_ok T1.out (fil_of hk (by unfold Fil; rw [if_neg (show ¬ v.length < nb 4 from (show ¬ v.length < 0 by omega)), if_neg (by decide), if_neg (by decide), if_neg (by decide), if_neg (by decide), if_pos (by decide)]; exact ⟨_, q, 0, (by simpa using HOUT.out), .inr (.inr ⟨rfl, HT.out.1 (by simp), rfl, rfl⟩)⟩)) HF1.out
    · rw [show decide (rl = 0) = false from decide_eq_false h0] at EM
      exact absurd (by omega : rl = 0) h0
  · have hnb : nb c.kind = 0 := by rw [hk]; rfl
    rw [hnb] at hv
    have PM := hidden (params base w0 _ B 0 v HF.out.1)
    go_wp2_with fail
    refine Calls.mono PM.out ?_
    rintro e w1 (⟨pa, m, pcap, ps, q, rfl, hP, hO, r, g⟩ | ⟨l, q, cd, rfl, hcd, hO, g⟩)
    rotate_left
    · exact ⟨rfl, filled_bad (T0.out.trans (Tch.ofB g)) ⟨_, HF.out.2.1.grown g (Ne.symm HF.out.2.2.2.1)⟩ (fun y => (fil_of hk (by unfold Fil; rw [if_neg (show ¬ v.length < nb 5 from (show ¬ v.length < 0 by omega)), if_neg (by decide), if_neg (by decide), if_neg (by decide), if_neg (by decide), if_pos (by decide)]; exact ⟨l, q, cd, (by simpa using hO), .inl ⟨hcd, rfl⟩⟩))) hcd⟩
    clear q0
    have f1 := HF.out.read r g
    have hP2 := prms_mono hP HF.out.2.2.2.2.2.2.2
    have q1 := f1.2.1.c14
    have z1 := f1.2.1.fr 14
    have f2 := f1.store (f1.2.1.s14 pa m pcap ps) (lst_prms hP2)
    have T1 := hidden (T0.out.trans ((Tch.ofB (C := C) g).trans (Tch.ofC (gr_set w1 C 14 (.slice pa m pcap)))))
    have k0 := f2.2.1.c0
    have HF1 := hidden f2
    have HOUT := hidden hO
    have k14 := f2.2.1.c14
    have OB := hidden (isOneBeat n _ pa m pcap ps f2.2.2.1.2.2.2.2.2)
    clear r g f1 f2 PM hP hP2 hO HF T0
    have hbt : beat 5 = true := rfl
    go_wp2_with fail
    refine Calls.mono (isBeat 5 _) ?_
    rintro e wb ⟨rfl, rfl⟩
    go_wp2_with fail
    refine Calls.mono OB.out ?_
    rintro e wb ⟨t, rfl, ht, rfl⟩
    have HT := hidden ht
    clear ht OB
    rcases t with _ | _
    · go_wp2_with fail
      refine Calls.mono (need_bad 61 _) ?_
      rintro e wb ⟨rfl, rfl⟩
      exact ⟨rfl, filled_bad T1.out ⟨_, HF1.out.2.1⟩ (fun y => (fil_of hk (by unfold Fil; rw [if_neg (show ¬ v.length < nb 5 from (show ¬ v.length < 0 by omega)), if_neg (by decide), if_neg (by decide), if_neg (by decide), if_neg (by decide), if_pos (by decide)]; exact ⟨_, q, 0, (by simpa using HOUT.out), .inr (.inl ⟨rfl, (fun h => by simpa using HT.out.2 h), rfl⟩)⟩))) (by decide)⟩
    go_wp2_with fail
    refine Calls.mono (need_ok 61 _) ?_
    rintro e wb ⟨rfl, rfl⟩
    clear k0 k14
    obtain ⟨ra, rl, rc, qz, hz, hp⟩ := HF1.out.fin
    have EM := hidden (empty_ ra rl rc)
    by_cases h0 : rl = 0
    · rw [show decide (rl = 0) = true from decide_eq_true h0] at EM
      have HZ := hidden (show v.length = v.length by omega)
      clear hz hp h0
      go_wp2_with fail
      refine Calls.mono (EM.out _) ?_
      rintro e wz ⟨rfl, rfl⟩
      go_wp2_with fail
      refine Calls.mono (need_ok 61 _) ?_
      rintro e wz ⟨rfl, rfl⟩
      go_wp2
      go_end0
      exact filled_ok T1.out (fil_of hk (by unfold Fil; rw [if_neg (show ¬ v.length < nb 5 from (show ¬ v.length < 0 by omega)), if_neg (by decide), if_neg (by decide), if_neg (by decide), if_neg (by decide), if_pos (by decide)]; exact ⟨_, q, 0, (by simpa using HOUT.out), .inr (.inr ⟨rfl, HT.out.1 (by simp), rfl, rfl⟩)⟩)) HF1.out
    · rw [show decide (rl = 0) = false from decide_eq_false h0] at EM
      exact absurd (by omega : rl = 0) h0
  · have hnb : nb c.kind = 0 := by rw [hk]; rfl
    rw [hnb] at hv
    have PM := hidden (params base w0 _ B 0 v HF.out.1)
    go_wp2_with fail
    refine Calls.mono PM.out ?_
    rintro e w1 (⟨pa, m, pcap, ps, q, rfl, hP, hO, r, g⟩ | ⟨l, q, cd, rfl, hcd, hO, g⟩)
    rotate_left
    · exact ⟨rfl, filled_bad (T0.out.trans (Tch.ofB g)) ⟨_, HF.out.2.1.grown g (Ne.symm HF.out.2.2.2.1)⟩ (fun y => (fil_of hk (by unfold Fil; rw [if_neg (show ¬ v.length < nb 6 from (show ¬ v.length < 0 by omega)), if_neg (by decide), if_neg (by decide), if_neg (by decide), if_neg (by decide), if_neg (by decide), if_pos (by decide)]; exact ⟨l, q, cd, (by simpa using hO), .inl ⟨hcd, rfl⟩⟩))) hcd⟩
    clear q0
    have f1 := HF.out.read r g
    have hP2 := prms_mono hP HF.out.2.2.2.2.2.2.2
    have q1 := f1.2.1.c14
    have z1 := f1.2.1.fr 14
    have f2 := f1.store (f1.2.1.s14 pa m pcap ps) (lst_prms hP2)
    have T1 := hidden (T0.out.trans ((Tch.ofB (C := C) g).trans (Tch.ofC (gr_set w1 C 14 (.slice pa m pcap)))))
    have k0 := f2.2.1.c0
    have HF1 := hidden f2
    have HOUT := hidden hO
    clear r g f1 f2 PM hP hP2 hO HF T0
    have hbt : beat 6 = false := rfl
    go_wp2_with fail
    refine Calls.mono (isBeat 6 _) ?_
    rintro e wb ⟨rfl, rfl⟩
    go_wp2_with fail
    refine Calls.mono (need_ok 61 _) ?_
    rintro e wb ⟨rfl, rfl⟩
    clear k0
    obtain ⟨ra, rl, rc, qz, hz, hp⟩ := HF1.out.fin
    have EM := hidden (empty_ ra rl rc)
    by_cases h0 : rl = 0
    · rw [show decide (rl = 0) = true from decide_eq_true h0] at EM
      have HZ := hidden (show v.length = v.length by omega)
      clear hz hp h0
      go_wp2_with fail
      refine Calls.mono (EM.out _) ?_
      rintro e wz ⟨rfl, rfl⟩
      go_wp2_with fail
      refine Calls.mono (need_ok 61 _) ?_
      rintro e wz ⟨rfl, rfl⟩
      go_wp2
      go_end0
      exact filled_ok T1.out (fil_of hk (by unfold Fil; rw [if_neg (show ¬ v.length < nb 6 from (show ¬ v.length < 0 by omega)), if_neg (by decide), if_neg (by decide), if_neg (by decide), if_neg (by decide), if_neg (by decide), if_pos (by decide)]; exact ⟨_, q, 0, (by simpa using HOUT.out), .inr ⟨rfl, rfl, rfl⟩⟩)) HF1.out
    · rw [show decide (rl = 0) = false from decide_eq_false h0] at EM
      exact absurd (by omega : rl = 0) h0
  · have hnb : nb c.kind = 4 := by rw [hk]; rfl
    rw [hnb] at hv
    have R := hidden (four base w0 _ B 0 v HF.out.1 (by omega))
    simp only [Nat.reduceAdd] at R
    go_wp2_with fail
    refine Calls.mono R.out ?_
    rintro e w1 ⟨rfl, r, g⟩
    clear q0
    have f1 := HF.out.read r g
    have q1 := f1.2.1.c2
    have z1 := f1.2.1.fr 2
    have f2 := f1.store (f1.2.1.s2 (n4 v 0)) (fun h => h)
    have T1 := hidden (T0.out.trans ((Tch.ofB (C := C) g).trans (Tch.ofC (gr_set w1 C 2 (.int .u32 (n4 v 0))))))
    have HF1 := hidden f2
    clear r g f1 f2 R HF T0
    obtain ⟨ra, rl, rc, qz, hz, hp⟩ := HF1.out.fin
    have EM := hidden (empty_ ra rl rc)
    by_cases h0 : rl = 0
    · rw [show decide (rl = 0) = true from decide_eq_true h0] at EM
      have HZ := hidden (show v.length = 4 by omega)
      clear hz hp h0
      go_wp2_with fail
      refine Calls.mono (EM.out _) ?_
      rintro e wz ⟨rfl, rfl⟩
      go_wp2_with fail
      refine Calls.mono (need_ok 61 _) ?_
      rintro e wz ⟨rfl, rfl⟩
      go_wp2
      go_end0
      exact filled_ok T1.out (fil_of hk (by unfold Fil; rw [if_neg (show ¬ v.length < nb 7 from (show ¬ v.length < 4 by omega)), if_neg (by decide), if_pos (by decide)]; exact .inr ⟨HZ.out, rfl, rfl⟩)) HF1.out
    · rw [show decide (rl = 0) = false from decide_eq_false h0] at EM
      have HZ := hidden (show ¬ v.length = 4 by omega)
      clear hz hp h0
      go_wp2_with fail
      refine Calls.mono (EM.out _) ?_
      rintro e wz ⟨rfl, rfl⟩
      go_wp2_with fail
      refine Calls.mono (need_bad 61 _) ?_
      rintro e wz ⟨rfl, rfl⟩
      exact ⟨rfl, filled_bad T1.out ⟨_, HF1.out.2.1⟩ (fun y => (fil_of hk (by unfold Fil; rw [if_neg (show ¬ v.length < nb 7 from (show ¬ v.length < 4 by omega)), if_neg (by decide), if_pos (by decide)]; exact .inl ⟨HZ.out, rfl⟩))) (by decide)⟩
  · have hnb : nb c.kind = 0 := by rw [hk]; rfl
    rw [hnb] at hv
    obtain ⟨ra, rl, rc, qz, hz, hp⟩ := HF.out.fin
    have EM := hidden (empty_ ra rl rc)
    by_cases h0 : rl = 0
    · rw [show decide (rl = 0) = true from decide_eq_true h0] at EM
      have HZ := hidden (show v.length = 0 by omega)
      clear hz hp h0
      go_wp2_with fail
      refine Calls.mono (EM.out _) ?_
      rintro e wz ⟨rfl, rfl⟩
      go_wp2_with fail
      refine Calls.mono (need_ok 61 _) ?_
      rintro e wz ⟨rfl, rfl⟩
      go_wp2
      go_end0
      exact filled_ok T0.out (fil_of hk (by unfold Fil; rw [if_neg (show ¬ v.length < nb 8 from (show ¬ v.length < 0 by omega)), if_neg (by decide), if_neg (by decide), if_pos (by decide)]; exact .inr ⟨HZ.out, rfl, rfl⟩)) HF.out
    · rw [show decide (rl = 0) = false from decide_eq_false h0] at EM
      have HZ := hidden (show ¬ v.length = 0 by omega)
      clear hz hp h0
      go_wp2_with fail
      refine Calls.mono (EM.out _) ?_
      rintro e wz ⟨rfl, rfl⟩
      go_wp2_with fail
      refine Calls.mono (need_bad 61 _) ?_
      rintro e wz ⟨rfl, rfl⟩
      exact ⟨rfl, filled_bad T0.out ⟨_, HF.out.2.1⟩ (fun y => (fil_of hk (by unfold Fil; rw [if_neg (show ¬ v.length < nb 8 from (show ¬ v.length < 0 by omega)), if_neg (by decide), if_neg (by decide), if_pos (by decide)]; exact .inl ⟨HZ.out, rfl⟩))) (by decide)⟩
  · have hnb : nb c.kind = 0 := by rw [hk]; rfl
    rw [hnb] at hv
    have PM := hidden (params base w0 _ B 0 v HF.out.1)
    go_wp2_with fail
    refine Calls.mono PM.out ?_
    rintro e w1 (⟨pa, m, pcap, ps, q, rfl, hP, hO, r, g⟩ | ⟨l, q, cd, rfl, hcd, hO, g⟩)
    rotate_left
    · exact ⟨rfl, filled_bad (T0.out.trans (Tch.ofB g)) ⟨_, HF.out.2.1.grown g (Ne.symm HF.out.2.2.2.1)⟩ (fun y => (fil_of hk (by unfold Fil; rw [if_neg (show ¬ v.length < nb 9 from (show ¬ v.length < 0 by omega)), if_neg (by decide), if_neg (by decide), if_neg (by decide), if_neg (by decide), if_neg (by decide), if_pos (by decide)]; exact ⟨l, q, cd, (by simpa using hO), .inl ⟨hcd, rfl⟩⟩))) hcd⟩
    clear q0
    have f1 := HF.out.read r g
    have hP2 := prms_mono hP HF.out.2.2.2.2.2.2.2
    have q1 := f1.2.1.c14
    have z1 := f1.2.1.fr 14
    have f2 := f1.store (f1.2.1.s14 pa m pcap ps) (lst_prms hP2)
    have T1 := hidden (T0.out.trans ((Tch.ofB (C := C) g).trans (Tch.ofC (gr_set w1 C 14 (.slice pa m pcap)))))
    have k0 := f2.2.1.c0
    have HF1 := hidden f2
    have HOUT := hidden hO
    clear r g f1 f2 PM hP hP2 hO HF T0
    have hbt : beat 9 = false := rfl
    go_wp2_with fail
    refine Calls.mono (isBeat 9 _) ?_
    rintro e wb ⟨rfl, rfl⟩
    go_wp2_with fail
    refine Calls.mono (need_ok 61 _) ?_
    rintro e wb ⟨rfl, rfl⟩
    clear k0
    obtain ⟨ra, rl, rc, qz, hz, hp⟩ := HF1.out.fin
    have EM := hidden (empty_ ra rl rc)
    by_cases h0 : rl = 0
    · rw [show decide (rl = 0) = true from decide_eq_true h0] at EM
      have HZ := hidden (show v.length = v.length by omega)
      clear hz hp h0
      go_wp2_with fail
      refine Calls.mono (EM.out _) ?_
      rintro e wz ⟨rfl, rfl⟩
      go_wp2_with fail
      refine Calls.mono (need_ok 61 _) ?_
      rintro e wz ⟨rfl, rfl⟩
      go_wp2
      go_end0
      exact filled_ok T1.out (fil_of hk (by unfold Fil; rw [if_neg (show ¬ v.length < nb 9 from (show ¬ v.length < 0 by omega)), if_neg (by decide), if_neg (by decide), if_neg (by decide), if_neg (by decide), if_neg (by decide), if_pos (by decide)]; exact ⟨_, q, 0, (by simpa using HOUT.out), .inr ⟨rfl, rfl, rfl⟩⟩)) HF1.out
    · rw [show decide (rl = 0) = false from decide_eq_false h0] at EM
      exact absurd (by omega : rl = 0) h0
  · have hnb : nb c.kind = 0 := by rw [hk]; rfl
    rw [hnb] at hv
    have RS := hidden (rest base w0 _ B 0 v HF.out.1)
    simp only [Nat.sub_zero, List.drop_zero] at RS
    go_wp2_with fail
    refine Calls.mono RS.out ?_
    rintro e w1 ⟨u, rfl, ho, r, g⟩
    clear q0
    obtain ⟨ua, uc, rfl, hrow, _, _, hun⟩ := Par.row_own ho HF.out.1.2.2.1 (by omega)
    have f1 := HF.out.read r g
    have hrow2 := hrow.mono HF.out.2.2.2.2.2.2.2
    have q1 := f1.2.1.c13
    have z1 := f1.2.1.fr 13
    have f2 := f1.store (f1.2.1.s13 ua v.length uc v) (lst_body hrow2 hun)
    have T1 := hidden (T0.out.trans ((Tch.ofB (C := C) g).trans (Tch.ofC (gr_set w1 C 13 (.slice ua v.length uc)))))
    have HF1 := hidden f2
    clear r g f1 f2 RS ho hrow hrow2 hun HF T0
    obtain ⟨ra, rl, rc, qz, hz, hp⟩ := HF1.out.fin
    have EM := hidden (empty_ ra rl rc)
    by_cases h0 : rl = 0
    · rw [show decide (rl = 0) = true from decide_eq_true h0] at EM
      have HZ := hidden (show v.length = v.length by omega)
      clear hz hp h0
      go_wp2_with fail
      refine Calls.mono (EM.out _) ?_
      rintro e wz ⟨rfl, rfl⟩
      go_wp2_with fail
      refine Calls.mono (need_ok 61 _) ?_
      rintro e wz ⟨rfl, rfl⟩
      go_wp2
      go_end0
      exact filled_ok T1.out (fil_of hk (by unfold Fil; rw [if_neg (show ¬ v.length < nb 10 from (show ¬ v.length < 0 by omega)), if_neg (by decide), if_neg (by decide), if_neg (by decide), if_neg (by decide), if_neg (by decide), if_neg (by decide), if_neg (by decide)]; exact ⟨rfl, rfl⟩)) HF1.out
    · rw [show decide (rl = 0) = false from decide_eq_false h0] at EM
      exact absurd (by omega : rl = 0) h0
  · have hnb : nb c.kind = 0 := by rw [hk]; rfl
    rw [hnb] at hv
    obtain ⟨ra, rl, rc, qz, hz, hp⟩ := HF.out.fin
    have EM := hidden (empty_ ra rl rc)
    by_cases h0 : rl = 0
    · rw [show decide (rl = 0) = true from decide_eq_true h0] at EM
      have HZ := hidden (show v.length = 0 by omega)
      clear hz hp h0
      go_wp2_with fail
      refine Calls.mono (EM.out _) ?_
      rintro e wz ⟨rfl, rfl⟩
      go_wp2_with fail
      refine Calls.mono (need_ok 61 _) ?_
      rintro e wz ⟨rfl, rfl⟩
      go_wp2
      go_end0
      exact filled_ok T0.out (fil_of hk (by unfold Fil; rw [if_neg (show ¬ v.length < nb 11 from (show ¬ v.length < 0 by omega)), if_neg (by decide), if_neg (by decide), if_pos (by decide)]; exact .inr ⟨HZ.out, rfl, rfl⟩)) HF.out
    · rw [show decide (rl = 0) = false from decide_eq_false h0] at EM
      have HZ := hidden (show ¬ v.length = 0 by omega)
      clear hz hp h0
      go_wp2_with fail
      refine Calls.mono (EM.out _) ?_
      rintro e wz ⟨rfl, rfl⟩
      go_wp2_with fail
      refine Calls.mono (need_bad 61 _) ?_
      rintro e wz ⟨rfl, rfl⟩
      exact ⟨rfl, filled_bad T0.out ⟨_, HF.out.2.1⟩ (fun y => (fil_of hk (by unfold Fil; rw [if_neg (show ¬ v.length < nb 11 from (show ¬ v.length < 0 by omega)), if_neg (by decide), if_neg (by decide), if_pos (by decide)]; exact .inl ⟨HZ.out, rfl⟩))) (by decide)⟩
  · have hnb : nb c.kind = 0 := by rw [hk]; rfl
    rw [hnb] at hv
    obtain ⟨ra, rl, rc, qz, hz, hp⟩ := HF.out.fin
    have EM := hidden (empty_ ra rl rc)
    by_cases h0 : rl = 0
    · rw [show decide (rl = 0) = true from decide_eq_true h0] at EM
      have HZ := hidden (show v.length = 0 by omega)
      clear hz hp h0
      go_wp2_with fail
      refine Calls.mono (EM.out _) ?_
      rintro e wz ⟨rfl, rfl⟩
      go_wp2_with fail
      refine Calls.mono (need_ok 61 _) ?_
      rintro e wz ⟨rfl, rfl⟩
      go_wp2
      go_end0
      exact filled_ok T0.out (fil_of hk (by unfold Fil; rw [if_neg (show ¬ v.length < nb 14 from (show ¬ v.length < 0 by omega)), if_neg (by decide), if_neg (by decide), if_pos (by decide)]; exact .inr ⟨HZ.out, rfl, rfl⟩)) HF.out
    · rw [show decide (rl = 0) = false from decide_eq_false h0] at EM
      have HZ := hidden (show ¬ v.length = 0 by omega)
      clear hz hp h0
      go_wp2_with fail
      refine Calls.mono (EM.out _) ?_
      rintro e wz ⟨rfl, rfl⟩
      go_wp2_with fail
      refine Calls.mono (need_bad 61 _) ?_
      rintro e wz ⟨rfl, rfl⟩
      exact ⟨rfl, filled_bad T0.out ⟨_, HF.out.2.1⟩ (fun y => (fil_of hk (by unfold Fil; rw [if_neg (show ¬ v.length < nb 14 from (show ¬ v.length < 0 by omega)), if_neg (by decide), if_neg (by decide), if_pos (by decide)]; exact .inl ⟨HZ.out, rfl⟩))) (by decide)⟩
  · have hnb : nb c.kind = 16 := by rw [hk]; rfl
    rw [hnb] at hv
    have RP := hidden (report16 base n w0 W B C v c HF.out hk hv hlim)
    go_wp2_with fail
    refine Calls.mono RP.out ?_
    rintro e w1 ⟨hT, hr⟩
    clear q0 RP
    rcases hr with ⟨rfl, hx, h1⟩ | ⟨rfl, hx, h1, h2⟩ | ⟨rfl, h1, c', hF', hval⟩
    · exact ⟨rfl, filled_bad (T0.out.trans hT) hx (fun y => (fil_of hk (by unfold Fil; rw [if_neg (show ¬ v.length < nb 16 from (show ¬ v.length < 16 by omega)), if_pos (by decide)]; exact .inl ⟨h1, rfl⟩))) (by decide)⟩
    · exact ⟨rfl, filled_bad (T0.out.trans hT) hx (fun y => (fil_of hk (by unfold Fil; rw [if_neg (show ¬ v.length < nb 16 from (show ¬ v.length < 16 by omega)), if_pos (by decide)]; exact .inr (.inl ⟨h1, (by show v.length ≠ 16 + 4 * (cG v + cN 16 v + cD 16 v); omega), rfl⟩)))) (by decide)⟩
    have HF1 := hidden hF'
    have T1 := hidden (T0.out.trans hT)
    have HC1 := hidden h1
    have HVL := hidden hval
    clear hF' hT h1 hval HF T0
    obtain ⟨ra, rl, rc, qz, hz, hp⟩ := HF1.out.fin
    have EM := hidden (empty_ ra rl rc)
    by_cases h0 : rl = 0
    · rw [show decide (rl = 0) = true from decide_eq_true h0] at EM
      have HZ := hidden (show v.length = 16 + 4 * (cG v + cN 16 v + cD 16 v) by omega)
      clear hz hp h0
      go_wp2_with fail
      refine Calls.mono (EM.out _) ?_
      rintro e wz ⟨rfl, rfl⟩
      go_wp2_with fail
      refine Calls.mono (need_ok 61 _) ?_
      rintro e wz ⟨rfl, rfl⟩
      go_wp2
      go_end0
      exact filled_ok T1.out (fil_of hk (by unfold Fil; rw [if_neg (show ¬ v.length < nb 16 from (show ¬ v.length < 16 by omega)), if_pos (by decide)]; exact .inr (.inr ⟨HC1.out, HZ.out, rfl, HVL.out⟩))) HF1.out
    · rw [show decide (rl = 0) = false from decide_eq_false h0] at EM
      have HZ := hidden (show ¬ v.length = 16 + 4 * (cG v + cN 16 v + cD 16 v) by omega)
      clear hz hp h0
      go_wp2_with fail
      refine Calls.mono (EM.out _) ?_
      rintro e wz ⟨rfl, rfl⟩
      go_wp2_with fail
      refine Calls.mono (need_bad 61 _) ?_
      rintro e wz ⟨rfl, rfl⟩
      exact ⟨rfl, filled_bad T1.out ⟨_, HF1.out.2.1⟩ (fun y => (fil_of hk (by unfold Fil; rw [if_neg (show ¬ v.length < nb 16 from (show ¬ v.length < 16 by omega)), if_pos (by decide)]; exact .inr (.inl ⟨HC1.out, HZ.out, rfl⟩)))) (by decide)⟩
  · have HO := hidden hk
    have hnb : nb c.kind = 0 := by simp [nb, hk.1, hk.2.1, hk.2.2.1, hk.2.2.2.1, hk.2.2.2.2.2.2.2.1, hk.2.2.2.2.2.2.2.2.2.2.2.2.2]
    obtain ⟨h0, h1, h2, h3, h4, h5, h6, h7, h8, h9, h10, h11, h14, h16⟩ := hk
    have e0 := beq_f h0
    have e1 := beq_f h1
    have e2 := beq_f h2
    have e3 := beq_f h3
    have e4 := beq_f h4
    have e5 := beq_f h5
    have e6 := beq_f h6
    have e7 := beq_f h7
    have e8 := beq_f h8
    have e9 := beq_f h9
    have e10 := beq_f h10
    have e11 := beq_f h11
    have e14 := beq_f h14
    have e16 := beq_f h16
    clear h0 h1 h2 h3 h4 h5 h6 h7 h8 h9 h10 h11 h14 h16
    have RS := hidden (rest base w0 _ B 0 v HF.out.1)
    simp only [Nat.sub_zero, List.drop_zero] at RS
    go_wp2_with fail
    refine Calls.mono RS.out ?_
    rintro e w1 ⟨u, rfl, ho, r, g⟩
    clear q0
    obtain ⟨ua, uc, rfl, hrow, _, _, hun⟩ := Par.row_own ho HF.out.1.2.2.1 (by omega)
    have f1 := HF.out.read r g
    have hrow2 := hrow.mono HF.out.2.2.2.2.2.2.2
    have q1 := f1.2.1.c13
    have z1 := f1.2.1.fr 13
    have f2 := f1.store (f1.2.1.s13 ua v.length uc v) (lst_body hrow2 hun)
    have T1 := hidden (T0.out.trans ((Tch.ofB (C := C) g).trans (Tch.ofC (gr_set w1 C 13 (.slice ua v.length uc)))))
    have HF1 := hidden f2
    clear r g f1 f2 RS ho hrow hrow2 hun HF T0
    obtain ⟨ra, rl, rc, qz, hz, hp⟩ := HF1.out.fin
    have EM := hidden (empty_ ra rl rc)
    by_cases h0 : rl = 0
    · rw [show decide (rl = 0) = true from decide_eq_true h0] at EM
      have HZ := hidden (show v.length = v.length by omega)
      clear hz hp h0
      go_wp2_with fail
      refine Calls.mono (EM.out _) ?_
      rintro e wz ⟨rfl, rfl⟩
      go_wp2_with fail
      refine Calls.mono (need_ok 61 _) ?_
      rintro e wz ⟨rfl, rfl⟩
      go_wp2
      go_end0
      exact filled_ok T1.out (by unfold Fil; rw [if_neg (by omega), if_neg (by simp [HO.out.2.2.2.1, HO.out.2.2.2.2.2.2.2.2.2.2.2.2.2]), if_neg HO.out.2.2.2.2.2.2.2.1, if_neg (by simp [HO.out.2.2.2.2.2.2.2.2.1, HO.out.2.2.2.2.2.2.2.2.2.2.2.1, HO.out.2.2.2.2.2.2.2.2.2.2.2.2.1]), if_neg (by simp [HO.out.2.1, HO.out.2.2.1]), if_neg (by simp [HO.out.2.2.2.2.1, HO.out.2.2.2.2.2.1]), if_neg (by simp [HO.out.2.2.2.2.2.2.1, HO.out.2.2.2.2.2.2.2.2.2.1]), if_neg HO.out.1]; exact ⟨rfl, rfl⟩) HF1.out
    · rw [show decide (rl = 0) = false from decide_eq_false h0] at EM
      exact absurd (by omega : rl = 0) h0
theorem fill (base n : Nat) (w0 w : World) (B C : Nat) (v : List Int) (c : Ck) (h : Fl base n w0 w B C v 0 c) (hlim : v.length ≤ 140737488355328) :
    Calls Try.prog 61 #[.pointer (some ⟨B, 0, none⟩), .pointer (some ⟨C, 0, none⟩)] w fun e w' => Filled base n w0 w B C v c e w' := by
  rcases Nat.lt_or_ge v.length (nb c.kind) with hv | hv
  · exact fill_short base n w0 w B C v c h hv
  · exact fill_long base n w0 w B C v c h hlim hv
end Go.Proofs.Ytifdkpifambhaaa.Chu
