/-
  The reader of package chunk: a value, kind by kind. The reader of package chunk: a chunk, or the first fault, which is caught; what Decode of package chunk tells. The reader of package chunk: a chunk, or the first fault, which is caught. What Decode of package chunk tells.
  Conditions: as at each lemma.
-/
import Derived.Test.YtmnndkhdekpecaaGreatDoorCc
import Derived.Test.YtmnndkhdekpecaaGreatDoorCd
import Derived.Defers
import Derived.Recover
namespace Go.Proofs.YtmnndkhdekpecaaGreatDoor.Chu
open Go.ChangeShapes Go.WideShapes Go.ChangeAt Go.RowKit
open Par (hidden Bytes Row Prm Prms cell_lt Cap cells_new cutA thrown form_of)
set_option linter.unusedVariables false

theorem lst_prms {n : Nat} {w : World} {c : Ck} {pa : Option Addr} {m pc : Nat} {ps : List Prm} (hp : Prms n w pa m ps) (h : Lsts n w c) : Lsts n w { c with pa := pa, pl := m, pc := pc, ps := ps } := ⟨h.1, h.2.1, h.2.2.1, h.2.2.2.1, h.2.2.2.2.1, hp⟩
theorem lst_body {n : Nat} {w : World} {c : Ck} {a : Option Addr} {m k : Nat} {bs : List Int} (hr : Row n w a m bs) (hn : a = none → m = 0 ∧ k = 0) (h : Lsts n w c) : Lsts n w { c with ba := a, bl := m, bc := k, bs := bs } := ⟨h.1, h.2.1, h.2.2.1, hr, hn, h.2.2.2.2.2⟩
theorem Fl.fin {base n : Nat} {w0 w : World} {B C p : Nat} {v : List Int} {c : Ck} (h : Fl base n w0 w B C v p c) : ∃ a len cap, w.cell? ⟨B, 0, none⟩ = some (.slice a len cap) ∧ len = v.length - p ∧ p ≤ v.length := by
  obtain ⟨a, len, cap, h1, h2⟩ := h.rd
  exact ⟨a, len, cap, h1, h2, h.1.2.1⟩
theorem fil_of {k k' : Int} {v : List Int} {x y : Ch} {e : Int} (h : k = k') (hf : Fil k' v x e y) : Fil k v x e y := h ▸ hf
set_option maxHeartbeats 16000000 in
set_option maxRecDepth 20000 in
theorem fill_long (base n : Nat) (w0 w : World) (B C : Nat) (v : List Int) (c : Ck) (h : Fl base n w0 w B C v 0 c) (hlim : v.length ≤ 140737488355328) (hv : nb c.kind ≤ v.length) :
    Calls Tryz.prog 125 #[.pointer (some ⟨B, 0, none⟩), .pointer (some ⟨C, 0, none⟩)] w fun e w' => Filled base n w0 w B C v c e w' := by
  obtain ⟨a, len, cap, qr, hlen⟩ := h.rd
  have q0 := h.2.1.c0
  have HNB := hidden (numberBytes c.kind)
  have HH := hidden (has a len cap (nb c.kind))
  rw [show decide (nb c.kind ≤ len) = true from decide_eq_true (by omega)] at HH
  have HF0 := hidden h
  clear h hlen
  go_enter Tryz.func125, Tryz.ntmps125
  go_wp2_with fail
  go_quiet ((first
    | (go_at_call 97; exact Calls.quiet_of_same ((HNB.out _).mono (fun e w' h => ⟨h.1, h.2.symm⟩)))
    | (go_at_call 121; exact Calls.quiet_of_same ((HH.out _).mono (fun e w' h => ⟨h.1, h.2.symm⟩)))
    | (go_at_call 120; exact Calls.quiet_of_same ((need_ok 61 _).mono (fun e w' h => ⟨h.1, h.2.symm⟩)))))
  have HF := hidden (HF0.out.drewN nq)
  have T0 := hidden (tch_drewN B C w nq)
  have q0 := HF.out.2.1.c0
  clear HF0 HNB HH qr
  generalize w.drewN nq = W at *
  rcases kind_cases c.kind with hk | hk | hk | hk | hk | hk | hk | hk | hk | hk | hk | hk | hk | hk | hk
  · have hnb : nb c.kind = 12 := by rw [hk]; rfl
    rw [hnb] at hv
    have R := hidden (four base w0 _ B 0 v HF.out.1 (by omega))
    simp only [Nat.reduceAdd] at R
    go_wp2_with fail
    refine Calls.mono R.out ?_
    rintro e w1 ⟨rfl, r, g⟩
    clear q0
    have f1 := HF.out.read r g
    have q1 := f1.2.1.c2
    have z1 := f1.2.1.fr 2
    have f2 := f1.store (f1.2.1.s2 (n4 v 0)) (fun h => h)
    have T1 := hidden (T0.out.trans ((Tch.ofB (C := C) g).trans (Tch.ofC (gr_set w1 C 2 (.int .u32 (n4 v 0))))))
    have HF1 := hidden f2
    clear r g f1 f2 R HF T0
    have R := hidden (two base w0 _ B 4 v HF1.out.1 (by omega))
    simp only [Nat.reduceAdd] at R
    go_wp2_with fail
    refine Calls.mono R.out ?_
    rintro e w2 ⟨rfl, r, g⟩
    clear q1 z1
    have f1 := HF1.out.read r g
    have q2 := f1.2.1.c3
    have z2 := f1.2.1.fr 3
    have f2 := f1.store (f1.2.1.s3 (n2 v 4)) (fun h => h)
    have T2 := hidden (T1.out.trans ((Tch.ofB (C := C) g).trans (Tch.ofC (gr_set w2 C 3 (.int .u16 (n2 v 4))))))
    have HF2 := hidden f2
    clear r g f1 f2 R HF1 T1
    have R := hidden (two base w0 _ B 6 v HF2.out.1 (by omega))
    simp only [Nat.reduceAdd] at R
    go_wp2_with fail
    refine Calls.mono R.out ?_
    rintro e w3 ⟨rfl, r, g⟩
    clear q2 z2
    have f1 := HF2.out.read r g
    have q3 := f1.2.1.c4
    have z3 := f1.2.1.fr 4
    have f2 := f1.store (f1.2.1.s4 (n2 v 6)) (fun h => h)
    have T3 := hidden (T2.out.trans ((Tch.ofB (C := C) g).trans (Tch.ofC (gr_set w3 C 4 (.int .u16 (n2 v 6))))))
    have HF3 := hidden f2
    clear r g f1 f2 R HF2 T2
    have R := hidden (four base w0 _ B 8 v HF3.out.1 (by omega))
    simp only [Nat.reduceAdd] at R
    go_wp2_with fail
    refine Calls.mono R.out ?_
    rintro e w4 ⟨rfl, r, g⟩
    clear q3 z3
    have f1 := HF3.out.read r g
    have q4 := f1.2.1.c5
    have z4 := f1.2.1.fr 5
    have f2 := f1.store (f1.2.1.s5 (n4 v 8)) (fun h => h)
    have T4 := hidden (T3.out.trans ((Tch.ofB (C := C) g).trans (Tch.ofC (gr_set w4 C 5 (.int .u32 (n4 v 8))))))
    have HF4 := hidden f2
    clear r g f1 f2 R HF3 T3
    obtain ⟨ra, rl, rc, qz, hz, hp⟩ := HF4.out.fin
    have EM := hidden (empty_ ra rl rc)
    by_cases h0 : rl = 0
    · rw [show decide (rl = 0) = true from decide_eq_true h0] at EM
      have HZ := hidden (show v.length = 12 by omega)
      clear hz hp h0
      go_wp2_with fail
      refine Calls.mono (EM.out _) ?_
      rintro e wz ⟨rfl, rfl⟩
      go_wp2_with fail
      refine Calls.mono (need_bad 62 _) ?_
      rintro e wz ⟨rfl, rfl⟩
      exact ⟨rfl, filled_bad T4.out ⟨_, HF4.out.2.1⟩ (fun y => (fil_of hk (by unfold Fil; rw [if_neg (show ¬ v.length < nb 0 from (show ¬ v.length < 12 by omega)), if_neg (by decide), if_neg (by decide), if_neg (by decide), if_neg (by decide), if_neg (by decide), if_neg (by decide), if_pos (by decide)]; exact .inl ⟨HZ.out, rfl⟩))) (by decide)⟩
    rw [show decide (rl = 0) = false from decide_eq_false h0] at EM
    have HZ2 := hidden (show v.length ≠ 12 by omega)
    clear hz hp h0
    go_wp2_with fail
    refine Calls.mono (EM.out _) ?_
    rintro e wz ⟨rfl, rfl⟩
    go_wp2_with fail
    refine Calls.mono (need_ok 62 _) ?_
    rintro e wz ⟨rfl, rfl⟩
    clear EM qz
    have RS := hidden (rest base w0 _ B 12 v HF4.out.1)
    go_wp2_with fail
    refine Calls.mono RS.out ?_
    rintro e w5 ⟨u, rfl, ho, r, g⟩
    clear q4 z4
    obtain ⟨ua, uc, rfl, hrow, _, _, hun⟩ := Par.row_own ho (fun x hx => HF4.out.1.2.2.1 x (List.mem_of_mem_drop hx)) (by omega)
    have f1 := HF4.out.read r g
    have hrow2 := hrow.mono HF4.out.2.2.2.2.2.2.2
    have q5 := f1.2.1.c13
    have z5 := f1.2.1.fr 13
    have f2 := f1.store (f1.2.1.s13 ua (v.length - 12) uc (v.drop 12)) (lst_body hrow2 hun)
    have T5 := hidden (T4.out.trans ((Tch.ofB (C := C) g).trans (Tch.ofC (gr_set w5 C 13 (.slice ua (v.length - 12) uc)))))
    have HF5 := hidden f2
    clear r g f1 f2 RS ho hrow hrow2 hun HF4 T4
    obtain ⟨ra, rl, rc, qz, hz, hp⟩ := HF5.out.fin
    have EM := hidden (empty_ ra rl rc)
    by_cases h0 : rl = 0
    · rw [show decide (rl = 0) = true from decide_eq_true h0] at EM
      have HZ := hidden (show v.length = v.length by omega)
      clear hz hp h0
      go_wp2_with fail
      refine Calls.mono (EM.out _) ?_
      rintro e wz ⟨rfl, rfl⟩
      go_wp2_with fail
      refine Calls.mono (need_ok 61 _) ?_
      rintro e wz ⟨rfl, rfl⟩
      go_wp2
      go_end0
      exact filled_ok T5.out (fil_of hk (by unfold Fil; rw [if_neg (show ¬ v.length < nb 0 from (show ¬ v.length < 12 by omega)), if_neg (by decide), if_neg (by decide), if_neg (by decide), if_neg (by decide), if_neg (by decide), if_neg (by decide), if_pos (by decide)]; exact .inr ⟨HZ2.out, rfl, rfl⟩)) HF5.out
    · rw [show decide (rl = 0) = false from decide_eq_false h0] at EM
      exact absurd (by omega : rl = 0) h0
  · have hnb : nb c.kind = 16 := by rw [hk]; rfl
    rw [hnb] at hv
    have R := hidden (four base w0 _ B 0 v HF.out.1 (by omega))
    simp only [Nat.reduceAdd] at R
    go_wp2_with fail
    refine Calls.mono R.out ?_
    rintro e w1 ⟨rfl, r, g⟩
    clear q0
    have f1 := HF.out.read r g
    have q1 := f1.2.1.c6
    have z1 := f1.2.1.fr 6
    have f2 := f1.store (f1.2.1.s6 (n4 v 0)) (fun h => h)
    have T1 := hidden (T0.out.trans ((Tch.ofB (C := C) g).trans (Tch.ofC (gr_set w1 C 6 (.int .u32 (n4 v 0))))))
    have HF1 := hidden f2
    clear r g f1 f2 R HF T0
    have R := hidden (four base w0 _ B 4 v HF1.out.1 (by omega))
    simp only [Nat.reduceAdd] at R
    go_wp2_with fail
    refine Calls.mono R.out ?_
    rintro e w2 ⟨rfl, r, g⟩
    clear q1 z1
    have f1 := HF1.out.read r g
    have q2 := f1.2.1.c7
    have z2 := f1.2.1.fr 7
    have f2 := f1.store (f1.2.1.s7 (n4 v 4)) (fun h => h)
    have T2 := hidden (T1.out.trans ((Tch.ofB (C := C) g).trans (Tch.ofC (gr_set w2 C 7 (.int .u32 (n4 v 4))))))
    have HF2 := hidden f2
    clear r g f1 f2 R HF1 T1
    have R := hidden (two base w0 _ B 8 v HF2.out.1 (by omega))
    simp only [Nat.reduceAdd] at R
    go_wp2_with fail
    refine Calls.mono R.out ?_
    rintro e w3 ⟨rfl, r, g⟩
    clear q2 z2
    have f1 := HF2.out.read r g
    have q3 := f1.2.1.c8
    have z3 := f1.2.1.fr 8
    have f2 := f1.store (f1.2.1.s8 (n2 v 8)) (fun h => h)
    have T3 := hidden (T2.out.trans ((Tch.ofB (C := C) g).trans (Tch.ofC (gr_set w3 C 8 (.int .u16 (n2 v 8))))))
    have HF3 := hidden f2
    clear r g f1 f2 R HF2 T2
    have R := hidden (two base w0 _ B 10 v HF3.out.1 (by omega))
    simp only [Nat.reduceAdd] at R
    go_wp2_with fail
    refine Calls.mono R.out ?_
    rintro e w4 ⟨rfl, r, g⟩
    clear q3 z3
    have f1 := HF3.out.read r g
    have q4 := f1.2.1.c9
    have z4 := f1.2.1.fr 9
    have f2 := f1.store (f1.2.1.s9 (n2 v 10)) (fun h => h)
    have T4 := hidden (T3.out.trans ((Tch.ofB (C := C) g).trans (Tch.ofC (gr_set w4 C 9 (.int .u16 (n2 v 10))))))
    have HF4 := hidden f2
    clear r g f1 f2 R HF3 T3
    have R := hidden (four base w0 _ B 12 v HF4.out.1 (by omega))
    simp only [Nat.reduceAdd] at R
    go_wp2_with fail
    refine Calls.mono R.out ?_
    rintro e w5 ⟨rfl, r, g⟩
    clear q4 z4
    have f1 := HF4.out.read r g
    have q5 := f1.2.1.c2
    have z5 := f1.2.1.fr 2
    have f2 := f1.store (f1.2.1.s2 (n4 v 12)) (fun h => h)
    have T5 := hidden (T4.out.trans ((Tch.ofB (C := C) g).trans (Tch.ofC (gr_set w5 C 2 (.int .u32 (n4 v 12))))))
    have HF5 := hidden f2
    clear r g f1 f2 R HF4 T4
    have PM := hidden (params base w0 _ B 16 v HF5.out.1)
    go_wp2_with fail
    refine Calls.mono PM.out ?_
    rintro e w6 (⟨pa, m, pcap, ps, q, rfl, hP, hO, r, g⟩ | ⟨l, q, cd, rfl, hcd, hO, g⟩)
    rotate_left
    · exact ⟨rfl, filled_bad (T5.out.trans (Tch.ofB g)) ⟨_, HF5.out.2.1.grown g (Ne.symm HF5.out.2.2.2.1)⟩ (fun y => (fil_of hk (by unfold Fil; rw [if_neg (show ¬ v.length < nb 1 from (show ¬ v.length < 16 by omega)), if_neg (by decide), if_neg (by decide), if_neg (by decide), if_pos (by decide)]; exact ⟨l, q, cd, hO, .inl ⟨hcd, rfl⟩⟩))) hcd⟩
    clear q5 z5
    have f1 := HF5.out.read r g
    have hP2 := prms_mono hP HF5.out.2.2.2.2.2.2.2
    have q6 := f1.2.1.c14
    have z6 := f1.2.1.fr 14
    have f2 := f1.store (f1.2.1.s14 pa m pcap ps) (lst_prms hP2)
    have T6 := hidden (T5.out.trans ((Tch.ofB (C := C) g).trans (Tch.ofC (gr_set w6 C 14 (.slice pa m pcap)))))
    have k0 := f2.2.1.c0
    have HF6 := hidden f2
    have HOUT := hidden hO
    clear r g f1 f2 PM hP hP2 hO HF5 T5
    have hbt : beat 1 = false := rfl
    go_wp2_with fail
    refine Calls.mono (isBeat 1 _) ?_
    rintro e wb ⟨rfl, rfl⟩
    go_wp2_with fail
    refine Calls.mono (need_ok 61 _) ?_
    rintro e wb ⟨rfl, rfl⟩
    clear k0
    obtain ⟨ra, rl, rc, qz, hz, hp⟩ := HF6.out.fin
    have EM := hidden (empty_ ra rl rc)
    by_cases h0 : rl = 0
    · rw [show decide (rl = 0) = true from decide_eq_true h0] at EM
      have HZ := hidden (show v.length = v.length by omega)
      clear hz hp h0
      go_wp2_with fail
      refine Calls.mono (EM.out _) ?_
      rintro e wz ⟨rfl, rfl⟩
      go_wp2_with fail
      refine Calls.mono (need_ok 61 _) ?_
      rintro e wz ⟨rfl, rfl⟩
      go_wp2
      go_end0
      exact filled_ok T6.out (fil_of hk (by unfold Fil; rw [if_neg (show ¬ v.length < nb 1 from (show ¬ v.length < 16 by omega)), if_neg (by decide), if_neg (by decide), if_neg (by decide), if_pos (by decide)]; exact ⟨_, q, 0, HOUT.out, .inr ⟨rfl, rfl, rfl⟩⟩)) HF6.out
    · rw [show decide (rl = 0) = false from decide_eq_false h0] at EM
      exact absurd (by omega : rl = 0) h0
  · have hnb : nb c.kind = 16 := by rw [hk]; rfl
    rw [hnb] at hv
    have R := hidden (four base w0 _ B 0 v HF.out.1 (by omega))
    simp only [Nat.reduceAdd] at R
    go_wp2_with fail
    refine Calls.mono R.out ?_
    rintro e w1 ⟨rfl, r, g⟩
    clear q0
    have f1 := HF.out.read r g
    have q1 := f1.2.1.c6
    have z1 := f1.2.1.fr 6
    have f2 := f1.store (f1.2.1.s6 (n4 v 0)) (fun h => h)
    have T1 := hidden (T0.out.trans ((Tch.ofB (C := C) g).trans (Tch.ofC (gr_set w1 C 6 (.int .u32 (n4 v 0))))))
    have HF1 := hidden f2
    clear r g f1 f2 R HF T0
    have R := hidden (four base w0 _ B 4 v HF1.out.1 (by omega))
    simp only [Nat.reduceAdd] at R
    go_wp2_with fail
    refine Calls.mono R.out ?_
    rintro e w2 ⟨rfl, r, g⟩
    clear q1 z1
    have f1 := HF1.out.read r g
    have q2 := f1.2.1.c7
    have z2 := f1.2.1.fr 7
    have f2 := f1.store (f1.2.1.s7 (n4 v 4)) (fun h => h)
    have T2 := hidden (T1.out.trans ((Tch.ofB (C := C) g).trans (Tch.ofC (gr_set w2 C 7 (.int .u32 (n4 v 4))))))
    have HF2 := hidden f2
    clear r g f1 f2 R HF1 T1
    have R := hidden (two base w0 _ B 8 v HF2.out.1 (by omega))
    simp only [Nat.reduceAdd] at R
    go_wp2_with fail
    refine Calls.mono R.out ?_
    rintro e w3 ⟨rfl, r, g⟩
    clear q2 z2
    have f1 := HF2.out.read r g
    have q3 := f1.2.1.c8
    have z3 := f1.2.1.fr 8
    have f2 := f1.store (f1.2.1.s8 (n2 v 8)) (fun h => h)
    have T3 := hidden (T2.out.trans ((Tch.ofB (C := C) g).trans (Tch.ofC (gr_set w3 C 8 (.int .u16 (n2 v 8))))))
    have HF3 := hidden f2
    clear r g f1 f2 R HF2 T2
    have R := hidden (two base w0 _ B 10 v HF3.out.1 (by omega))
    simp only [Nat.reduceAdd] at R
    go_wp2_with fail
    refine Calls.mono R.out ?_
    rintro e w4 ⟨rfl, r, g⟩
    clear q3 z3
    have f1 := HF3.out.read r g
    have q4 := f1.2.1.c9
    have z4 := f1.2.1.fr 9
    have f2 := f1.store (f1.2.1.s9 (n2 v 10)) (fun h => h)
    have T4 := hidden (T3.out.trans ((Tch.ofB (C := C) g).trans (Tch.ofC (gr_set w4 C 9 (.int .u16 (n2 v 10))))))
    have HF4 := hidden f2
    clear r g f1 f2 R HF3 T3
    have R := hidden (four base w0 _ B 12 v HF4.out.1 (by omega))
    simp only [Nat.reduceAdd] at R
    go_wp2_with fail
    refine Calls.mono R.out ?_
    rintro e w5 ⟨rfl, r, g⟩
    clear q4 z4
    have f1 := HF4.out.read r g
    have q5 := f1.2.1.c2
    have z5 := f1.2.1.fr 2
    have f2 := f1.store (f1.2.1.s2 (n4 v 12)) (fun h => h)
    have T5 := hidden (T4.out.trans ((Tch.ofB (C := C) g).trans (Tch.ofC (gr_set w5 C 2 (.int .u32 (n4 v 12))))))
    have HF5 := hidden f2
    clear r g f1 f2 R HF4 T4
    have PM := hidden (params base w0 _ B 16 v HF5.out.1)
    go_wp2_with fail
    refine Calls.mono PM.out ?_
    rintro e w6 (⟨pa, m, pcap, ps, q, rfl, hP, hO, r, g⟩ | ⟨l, q, cd, rfl, hcd, hO, g⟩)
    rotate_left
    · exact ⟨rfl, filled_bad (T5.out.trans (Tch.ofB g)) ⟨_, HF5.out.2.1.grown g (Ne.symm HF5.out.2.2.2.1)⟩ (fun y => (fil_of hk (by unfold Fil; rw [if_neg (show ¬ v.length < nb 2 from (show ¬ v.length < 16 by omega)), if_neg (by decide), if_neg (by decide), if_neg (by decide), if_pos (by decide)]; exact ⟨l, q, cd, hO, .inl ⟨hcd, rfl⟩⟩))) hcd⟩
    clear q5 z5
    have f1 := HF5.out.read r g
    have hP2 := prms_mono hP HF5.out.2.2.2.2.2.2.2
    have q6 := f1.2.1.c14
    have z6 := f1.2.1.fr 14
    have f2 := f1.store (f1.2.1.s14 pa m pcap ps) (lst_prms hP2)
    have T6 := hidden (T5.out.trans ((Tch.ofB (C := C) g).trans (Tch.ofC (gr_set w6 C 14 (.slice pa m pcap)))))
    have k0 := f2.2.1.c0
    have HF6 := hidden f2
    have HOUT := hidden hO
    clear r g f1 f2 PM hP hP2 hO HF5 T5
    have hbt : beat 2 = false := rfl
    go_wp2_with fail
    refine Calls.mono (isBeat 2 _) ?_
    rintro e wb ⟨rfl, rfl⟩
    go_wp2_with fail
    refine Calls.mono (need_ok 61 _) ?_
    rintro e wb ⟨rfl, rfl⟩
    clear k0
    obtain ⟨ra, rl, rc, qz, hz, hp⟩ := HF6.out.fin
    have EM := hidden (empty_ ra rl rc)
    by_cases h0 : rl = 0
    · rw [show decide (rl = 0) = true from decide_eq_true h0] at EM
      have HZ := hidden (show v.length = v.length by omega)
      clear hz hp h0
      go_wp2_with fail
      refine Calls.mono (EM.out _) ?_
      rintro e wz ⟨rfl, rfl⟩
      go_wp2_with fail
      refine Calls.mono (need_ok 61 _) ?_
      rintro e wz ⟨rfl, rfl⟩
      go_wp2
      go_end0
      exact filled_ok T6.out (fil_of hk (by unfold Fil; rw [if_neg (show ¬ v.length < nb 2 from (show ¬ v.length < 16 by omega)), if_neg (by decide), if_neg (by decide), if_neg (by decide), if_pos (by decide)]; exact ⟨_, q, 0, HOUT.out, .inr ⟨rfl, rfl, rfl⟩⟩)) HF6.out
    · rw [show decide (rl = 0) = false from decide_eq_false h0] at EM
      exact absurd (by omega : rl = 0) h0
  · have hnb : nb c.kind = 12 := by rw [hk]; rfl
    rw [hnb] at hv
    have RP := hidden (report3 base n w0 W B C v c HF.out hk hv hlim)
    go_wp2_with fail
    refine Calls.mono RP.out ?_
    rintro e w1 ⟨hT, hr⟩
    clear q0 RP
    rcases hr with ⟨rfl, hx, h1⟩ | ⟨rfl, hx, h1, h2⟩ | ⟨rfl, h1, c', hF', hval⟩
    · exact ⟨rfl, filled_bad (T0.out.trans hT) hx (fun y => (fil_of hk (by unfold Fil; rw [if_neg (show ¬ v.length < nb 3 from (show ¬ v.length < 12 by omega)), if_pos (by decide)]; exact .inl ⟨h1, rfl⟩))) (by decide)⟩
    · exact ⟨rfl, filled_bad (T0.out.trans hT) hx (fun y => (fil_of hk (by unfold Fil; rw [if_neg (show ¬ v.length < nb 3 from (show ¬ v.length < 12 by omega)), if_pos (by decide)]; exact .inr (.inl ⟨h1, (by show v.length ≠ 12 + 4 * (cG v + cN 3 v + cD 3 v); omega), rfl⟩)))) (by decide)⟩
    have HF1 := hidden hF'
    have T1 := hidden (T0.out.trans hT)
    have HC1 := hidden h1
    have HVL := hidden hval
    clear hF' hT h1 hval HF T0
    obtain ⟨ra, rl, rc, qz, hz, hp⟩ := HF1.out.fin
    have EM := hidden (empty_ ra rl rc)
    by_cases h0 : rl = 0
    · rw [show decide (rl = 0) = true from decide_eq_true h0] at EM
      have HZ := hidden (show v.length = 12 + 4 * (cG v + cN 3 v + cD 3 v) by omega)
      clear hz hp h0
      go_wp2_with fail
      refine Calls.mono (EM.out _) ?_
      rintro e wz ⟨rfl, rfl⟩
      go_wp2_with fail
      refine Calls.mono (need_ok 61 _) ?_
      rintro e wz ⟨rfl, rfl⟩
      go_wp2
      go_end0
      exact filled_ok T1.out (fil_of hk (by unfold Fil; rw [if_neg (show ¬ v.length < nb 3 from (show ¬ v.length < 12 by omega)), if_pos (by decide)]; exact .inr (.inr ⟨HC1.out, HZ.out, rfl, HVL.out⟩))) HF1.out
    · rw [show decide (rl = 0) = false from decide_eq_false h0] at EM
      have HZ := hidden (show ¬ v.length = 12 + 4 * (cG v + cN 3 v + cD 3 v) by omega)
      clear hz hp h0
      go_wp2_with fail
      refine Calls.mono (EM.out _) ?_
      rintro e wz ⟨rfl, rfl⟩
      go_wp2_with fail
      refine Calls.mono (need_bad 61 _) ?_
      rintro e wz ⟨rfl, rfl⟩
      exact ⟨rfl, filled_bad T1.out ⟨_, HF1.out.2.1⟩ (fun y => (fil_of hk (by unfold Fil; rw [if_neg (show ¬ v.length < nb 3 from (show ¬ v.length < 12 by omega)), if_pos (by decide)]; exact .inr (.inl ⟨HC1.out, HZ.out, rfl⟩)))) (by decide)⟩
  · have hnb : nb c.kind = 0 := by rw [hk]; rfl
    rw [hnb] at hv
    have PM := hidden (params base w0 _ B 0 v HF.out.1)
    go_wp2_with fail
    refine Calls.mono PM.out ?_
    rintro e w1 (⟨pa, m, pcap, ps, q, rfl, hP, hO, r, g⟩ | ⟨l, q, cd, rfl, hcd, hO, g⟩)
    rotate_left
    · exact ⟨rfl, filled_bad (T0.out.trans (Tch.ofB g)) ⟨_, HF.out.2.1.grown g (Ne.symm HF.out.2.2.2.1)⟩ (fun y => (fil_of hk (by unfold Fil; rw [if_neg (show ¬ v.length < nb 4 from (show ¬ v.length < 0 by omega)), if_neg (by decide), if_neg (by decide), if_neg (by decide), if_neg (by decide), if_pos (by decide)]; exact ⟨l, q, cd, (by simpa using hO), .inl ⟨hcd, rfl⟩⟩))) hcd⟩
    clear q0
    have f1 := HF.out.read r g
    have hP2 := prms_mono hP HF.out.2.2.2.2.2.2.2
    have q1 := f1.2.1.c14
    have z1 := f1.2.1.fr 14
    have f2 := f1.store (f1.2.1.s14 pa m pcap ps) (lst_prms hP2)
    have T1 := hidden (T0.out.trans ((Tch.ofB (C := C) g).trans (Tch.ofC (gr_set w1 C 14 (.slice pa m pcap)))))
    have k0 := f2.2.1.c0
    have HF1 := hidden f2
    have HOUT := hidden hO
    have k14 := f2.2.1.c14
    have OB := hidden (isOneBeat n _ pa m pcap ps f2.2.2.1.2.2.2.2.2)
    clear r g f1 f2 PM hP hP2 hO HF T0
    have hbt : beat 4 = true := rfl
    go_wp2_with fail
    refine Calls.mono (isBeat 4 _) ?_
    rintro e wb ⟨rfl, rfl⟩
    go_wp2_with fail
    refine Calls.mono OB.out ?_
    rintro e wb ⟨t, rfl, ht, rfl⟩
    have HT := hidden ht
    clear ht OB
    rcases t with _ | _
    · go_wp2_with fail
      refine Calls.mono (need_bad 61 _) ?_
      rintro e wb ⟨rfl, rfl⟩
      exact ⟨rfl, filled_bad T1.out ⟨_, HF1.out.2.1⟩ (fun y => (fil_of hk (by unfold Fil; rw [if_neg (show ¬ v.length < nb 4 from (show ¬ v.length < 0 by omega)), if_neg (by decide), if_neg (by decide), if_neg (by decide), if_neg (by decide), if_pos (by decide)]; exact ⟨_, q, 0, (by simpa using HOUT.out), .inr (.inl ⟨rfl, (fun h => by simpa using HT.out.2 h), rfl⟩)⟩))) (by decide)⟩
    go_wp2_with fail
    refine Calls.mono (need_ok 61 _) ?_
    rintro e wb ⟨rfl, rfl⟩
    clear k0 k14
    obtain ⟨ra, rl, rc, qz, hz, hp⟩ := HF1.out.fin
    have EM := hidden (empty_ ra rl rc)
    by_cases h0 : rl = 0
    · rw [show decide (rl = 0) = true from decide_eq_true h0] at EM
      have HZ := hidden (show v.length = v.length by omega)
      clear hz hp h0
      go_wp2_with fail
      refine Calls.mono (EM.out _) ?_
      rintro e wz ⟨rfl, rfl⟩
      go_wp2_with fail
      refine Calls.mono (need_ok 61 _) ?_
      rintro e wz ⟨rfl, rfl⟩
      go_wp2
      go_end0
      exact filled_ok T1.out (fil_of hk (by unfold Fil; rw [if_neg (show ¬ v.length < nb 4 from (show ¬ v.length < 0 by omega)), if_neg (by decide), if_neg (by decide), if_neg (by decide), if_neg (by decide), if_pos (by decide)]; exact ⟨_, q, 0, (by simpa using HOUT.out), .inr (.inr ⟨rfl, HT.out.1 (by simp), rfl, rfl⟩)⟩)) HF1.out
    · rw [show decide (rl = 0) = false from decide_eq_false h0] at EM
      exact absurd (by omega : rl = 0) h0
  · have hnb : nb c.kind = 0 := by rw [hk]; rfl
    rw [hnb] at hv
    have PM := hidden (params base w0 _ B 0 v HF.out.1)
    go_wp2_with fail
    refine Calls.mono PM.out ?_
    rintro e w1 (⟨pa, m, pcap, ps, q, rfl, hP, hO, r, g⟩ | ⟨l, q, cd, rfl, hcd, hO, g⟩)
    rotate_left
    · exact ⟨rfl, filled_bad (T0.out.trans (Tch.ofB g)) ⟨_, HF.out.2.1.grown g (Ne.symm HF.out.2.2.2.1)⟩ (fun y => (fil_of hk (by unfold Fil; rw [if_neg (show ¬ v.length < nb 5 from (show ¬ v.length < 0 by omega)), if_neg (by decide), if_neg (by decide), if_neg (by decide), if_neg (by decide), if_pos (by decide)]; exact ⟨l, q, cd, (by simpa using hO), .inl ⟨hcd, rfl⟩⟩))) hcd⟩
    clear q0
    have f1 := HF.out.read r g
    have hP2 := prms_mono hP HF.out.2.2.2.2.2.2.2
    have q1 := f1.2.1.c14
    have z1 := f1.2.1.fr 14
    have f2 := f1.store (f1.2.1.s14 pa m pcap ps) (lst_prms hP2)
    have T1 := hidden (T0.out.trans ((Tch.ofB (C := C) g).trans (Tch.ofC (gr_set w1 C 14 (.slice pa m pcap)))))
    have k0 := f2.2.1.c0
    have HF1 := hidden f2
    have HOUT := hidden hO
    have k14 := f2.2.1.c14
    have OB := hidden (isOneBeat n _ pa m pcap ps f2.2.2.1.2.2.2.2.2)
    clear r g f1 f2 PM hP hP2 hO HF T0
    have hbt : beat 5 = true := rfl
    go_wp2_with fail
    refine Calls.mono (isBeat 5 _) ?_
    rintro e wb ⟨rfl, rfl⟩
    go_wp2_with fail
    refine Calls.mono OB.out ?_
    rintro e wb ⟨t, rfl, ht, rfl⟩
    have HT := hidden ht
    clear ht OB
    rcases t with _ | _
    · go_wp2_with fail
      refine Calls.mono (need_bad 61 _) ?_
      rintro e wb ⟨rfl, rfl⟩
      exact ⟨rfl, filled_bad T1.out ⟨_, HF1.out.2.1⟩ (fun y => (fil_of hk (by unfold Fil; rw [if_neg (show ¬ v.length < nb 5 from (show ¬ v.length < 0 by omega)), if_neg (by decide), if_neg (by decide), if_neg (by decide), if_neg (by decide), if_pos (by decide)]; exact ⟨_, q, 0, (by simpa using HOUT.out), .inr (.inl ⟨rfl, (fun h => by simpa using HT.out.2 h), rfl⟩)⟩))) (by decide)⟩
    go_wp2_with fail
    refine Calls.mono (need_ok 61 _) ?_
    rintro e wb ⟨rfl, rfl⟩
    clear k0 k14
    obtain ⟨ra, rl, rc, qz, hz, hp⟩ := HF1.out.fin
    have EM := hidden (empty_ ra rl rc)
    by_cases h0 : rl = 0
    · rw [show decide (rl = 0) = true from decide_eq_true h0] at EM
      have HZ := hidden (show v.length = v.length by omega)
      clear hz hp h0
      go_wp2_with fail
      refine Calls.mono (EM.out _) ?_
      rintro e wz ⟨rfl, rfl⟩
      go_wp2_with fail
      refine Calls.mono (need_ok 61 _) ?_
      rintro e wz ⟨rfl, rfl⟩
      go_wp2
      go_end0
      exact filled_ok T1.out (fil_of hk (by unfold Fil; rw [if_neg (show ¬ v.length < nb 5 from (show ¬ v.length < 0 by omega)), if_neg (by decide), if_neg (by decide), if_neg (by decide), if_neg (by decide), if_pos (by decide)]; exact ⟨_, q, 0, (by simpa using HOUT.out), .inr (.inr ⟨rfl, HT.out.1 (by simp), rfl, rfl⟩)⟩)) HF1.out
    · rw [show decide (rl = 0) = false from decide_eq_false h0] at EM
      exact absurd (by omega : rl = 0) h0
  · have hnb : nb c.kind = 0 := by rw [hk]; rfl
    rw [hnb] at hv
    have PM := hidden (params base w0 _ B 0 v HF.out.1)
    go_wp2_with fail
    refine Calls.mono PM.out ?_
    rintro e w1 (⟨pa, m, pcap, ps, q, rfl, hP, hO, r, g⟩ | ⟨l, q, cd, rfl, hcd, hO, g⟩)
    rotate_left
    · exact ⟨rfl, filled_bad (T0.out.trans (Tch.ofB g)) ⟨_, HF.out.2.1.grown g (Ne.symm HF.out.2.2.2.1)⟩ (fun y => (fil_of hk (by unfold Fil; rw [if_neg (show ¬ v.length < nb 6 from (show ¬ v.length < 0 by omega)), if_neg (by decide), if_neg (by decide), if_neg (by decide), if_neg (by decide), if_neg (by decide), if_pos (by decide)]; exact ⟨l, q, cd, (by simpa using hO), .inl ⟨hcd, rfl⟩⟩))) hcd⟩
    clear q0
    have f1 := HF.out.read r g
    have hP2 := prms_mono hP HF.out.2.2.2.2.2.2.2
    have q1 := f1.2.1.c14
    have z1 := f1.2.1.fr 14
    have f2 := f1.store (f1.2.1.s14 pa m pcap ps) (lst_prms hP2)
    have T1 := hidden (T0.out.trans ((Tch.ofB (C := C) g).trans (Tch.ofC (gr_set w1 C 14 (.slice pa m pcap)))))
    have k0 := f2.2.1.c0
    have HF1 := hidden f2
    have HOUT := hidden hO
    clear r g f1 f2 PM hP hP2 hO HF T0
    have hbt : beat 6 = false := rfl
    go_wp2_with fail
    refine Calls.mono (isBeat 6 _) ?_
    rintro e wb ⟨rfl, rfl⟩
    go_wp2_with fail
    refine Calls.mono (need_ok 61 _) ?_
    rintro e wb ⟨rfl, rfl⟩
    clear k0
    obtain ⟨ra, rl, rc, qz, hz, hp⟩ := HF1.out.fin
    have EM := hidden (empty_ ra rl rc)
    by_cases h0 : rl = 0
    · rw [show decide (rl = 0) = true from decide_eq_true h0] at EM
      have HZ := hidden (show v.length = v.length by omega)
      clear hz hp h0
      go_wp2_with fail
      refine Calls.mono (EM.out _) ?_
      rintro e wz ⟨rfl, rfl⟩
      go_wp2_with fail
      refine Calls.mono (need_ok 61 _) ?_
      rintro e wz ⟨rfl, rfl⟩
      go_wp2
      go_end0
      exact filled_ok T1.out (fil_of hk (by unfold Fil; rw [if_neg (show ¬ v.length < nb 6 from (show ¬ v.length < 0 by omega)), if_neg (by decide), if_neg (by decide), if_neg (by decide), if_neg (by decide), if_neg (by decide), if_pos (by decide)]; exact ⟨_, q, 0, (by simpa using HOUT.out), .inr ⟨rfl, rfl, rfl⟩⟩)) HF1.out
    · rw [show decide (rl = 0) = false from decide_eq_false h0] at EM
      exact absurd (by omega : rl = 0) h0
  · have hnb : nb c.kind = 4 := by rw [hk]; rfl
    rw [hnb] at hv
    have R := hidden (four base w0 _ B 0 v HF.out.1 (by omega))
    simp only [Nat.reduceAdd] at R
    go_wp2_with fail
    refine Calls.mono R.out ?_
    rintro e w1 ⟨rfl, r, g⟩
    clear q0
    have f1 := HF.out.read r g
    have q1 := f1.2.1.c2
    have z1 := f1.2.1.fr 2
    have f2 := f1.store (f1.2.1.s2 (n4 v 0)) (fun h => h)
    have T1 := hidden (T0.out.trans ((Tch.ofB (C := C) g).trans (Tch.ofC (gr_set w1 C 2 (.int .u32 (n4 v 0))))))
    have HF1 := hidden f2
    clear r g f1 f2 R HF T0
    obtain ⟨ra, rl, rc, qz, hz, hp⟩ := HF1.out.fin
    have EM := hidden (empty_ ra rl rc)
    by_cases h0 : rl = 0
    · rw [show decide (rl = 0) = true from decide_eq_true h0] at EM
      have HZ := hidden (show v.length = 4 by omega)
      clear hz hp h0
      go_wp2_with fail
      refine Calls.mono (EM.out _) ?_
      rintro e wz ⟨rfl, rfl⟩
      go_wp2_with fail
      refine Calls.mono (need_ok 61 _) ?_
      rintro e wz ⟨rfl, rfl⟩
      go_wp2
      go_end0
      exact filled_ok T1.out (fil_of hk (by unfold Fil; rw [if_neg (show ¬ v.length < nb 7 from (show ¬ v.length < 4 by omega)), if_neg (by decide), if_pos (by decide)]; exact .inr ⟨HZ.out, rfl, rfl⟩)) HF1.out
    · rw [show decide (rl = 0) = false from decide_eq_false h0] at EM
      have HZ := hidden (show ¬ v.length = 4 by omega)
      clear hz hp h0
      go_wp2_with fail
      refine Calls.mono (EM.out _) ?_
      rintro e wz ⟨rfl, rfl⟩
      go_wp2_with fail
      refine Calls.mono (need_bad 61 _) ?_
      rintro e wz ⟨rfl, rfl⟩
      exact ⟨rfl, filled_bad T1.out ⟨_, HF1.out.2.1⟩ (fun y => (fil_of hk (by unfold Fil; rw [if_neg (show ¬ v.length < nb 7 from (show ¬ v.length < 4 by omega)), if_neg (by decide), if_pos (by decide)]; exact .inl ⟨HZ.out, rfl⟩))) (by decide)⟩
  · have hnb : nb c.kind = 0 := by rw [hk]; rfl
    rw [hnb] at hv
    obtain ⟨ra, rl, rc, qz, hz, hp⟩ := HF.out.fin
    have EM := hidden (empty_ ra rl rc)
    by_cases h0 : rl = 0
    · rw [show decide (rl = 0) = true from decide_eq_true h0] at EM
      have HZ := hidden (show v.length = 0 by omega)
      clear hz hp h0
      go_wp2_with fail
      refine Calls.mono (EM.out _) ?_
      rintro e wz ⟨rfl, rfl⟩
      go_wp2_with fail
      refine Calls.mono (need_ok 61 _) ?_
      rintro e wz ⟨rfl, rfl⟩
      go_wp2
      go_end0
      exact filled_ok T0.out (fil_of hk (by unfold Fil; rw [if_neg (show ¬ v.length < nb 8 from (show ¬ v.length < 0 by omega)), if_neg (by decide), if_neg (by decide), if_pos (by decide)]; exact .inr ⟨HZ.out, rfl, rfl⟩)) HF.out
    · rw [show decide (rl = 0) = false from decide_eq_false h0] at EM
      have HZ := hidden (show ¬ v.length = 0 by omega)
      clear hz hp h0
      go_wp2_with fail
      refine Calls.mono (EM.out _) ?_
      rintro e wz ⟨rfl, rfl⟩
      go_wp2_with fail
      refine Calls.mono (need_bad 61 _) ?_
      rintro e wz ⟨rfl, rfl⟩
      exact ⟨rfl, filled_bad T0.out ⟨_, HF.out.2.1⟩ (fun y => (fil_of hk (by unfold Fil; rw [if_neg (show ¬ v.length < nb 8 from (show ¬ v.length < 0 by omega)), if_neg (by decide), if_neg (by decide), if_pos (by decide)]; exact .inl ⟨HZ.out, rfl⟩))) (by decide)⟩
  · have hnb : nb c.kind = 0 := by rw [hk]; rfl
    rw [hnb] at hv
    have PM := hidden (params base w0 _ B 0 v HF.out.1)
    go_wp2_with fail
    refine Calls.mono PM.out ?_
    rintro e w1 (⟨pa, m, pcap, ps, q, rfl, hP, hO, r, g⟩ | ⟨l, q, cd, rfl, hcd, hO, g⟩)
    rotate_left
    · exact ⟨rfl, filled_bad (T0.out.trans (Tch.ofB g)) ⟨_, HF.out.2.1.grown g (Ne.symm HF.out.2.2.2.1)⟩ (fun y => (fil_of hk (by unfold Fil; rw [if_neg (show ¬ v.length < nb 9 from (show ¬ v.length < 0 by omega)), if_neg (by decide), if_neg (by decide), if_neg (by decide), if_neg (by decide), if_neg (by decide), if_pos (by decide)]; exact ⟨l, q, cd, (by simpa using hO), .inl ⟨hcd, rfl⟩⟩))) hcd⟩
    clear q0
    have f1 := HF.out.read r g
    have hP2 := prms_mono hP HF.out.2.2.2.2.2.2.2
    have q1 := f1.2.1.c14
    have z1 := f1.2.1.fr 14
    have f2 := f1.store (f1.2.1.s14 pa m pcap ps) (lst_prms hP2)
    have T1 := hidden (T0.out.trans ((Tch.ofB (C := C) g).trans (Tch.ofC (gr_set w1 C 14 (.slice pa m pcap)))))
    have k0 := f2.2.1.c0
    have HF1 := hidden f2
    have HOUT := hidden hO
    clear r g f1 f2 PM hP hP2 hO HF T0
    have hbt : beat 9 = false := rfl
    go_wp2_with fail
    refine Calls.mono (isBeat 9 _) ?_
    rintro e wb ⟨rfl, rfl⟩
    go_wp2_with fail
    refine Calls.mono (need_ok 61 _) ?_
    rintro e wb ⟨rfl, rfl⟩
    clear k0
    obtain ⟨ra, rl, rc, qz, hz, hp⟩ := HF1.out.fin
    have EM := hidden (empty_ ra rl rc)
    by_cases h0 : rl = 0
    · rw [show decide (rl = 0) = true from decide_eq_true h0] at EM
      have HZ := hidden (show v.length = v.length by omega)
      clear hz hp h0
      go_wp2_with fail
      refine Calls.mono (EM.out _) ?_
      rintro e wz ⟨rfl, rfl⟩
      go_wp2_with fail
      refine Calls.mono (need_ok 61 _) ?_
      rintro e wz ⟨rfl, rfl⟩
      go_wp2
      go_end0
      exact filled_ok T1.out (fil_of hk (by unfold Fil; rw [if_neg (show ¬ v.length < nb 9 from (show ¬ v.length < 0 by omega)), if_neg (by decide), if_neg (by decide), if_neg (by decide), if_neg (by decide), if_neg (by decide), if_pos (by decide)]; exact ⟨_, q, 0, (by simpa using HOUT.out), .inr ⟨rfl, rfl, rfl⟩⟩)) HF1.out
    · rw [show decide (rl = 0) = false from decide_eq_false h0] at EM
      exact absurd (by omega : rl = 0) h0
  · have hnb : nb c.kind = 0 := by rw [hk]; rfl
    rw [hnb] at hv
    have RS := hidden (rest base w0 _ B 0 v HF.out.1)
    simp only [Nat.sub_zero, List.drop_zero] at RS
    go_wp2_with fail
    refine Calls.mono RS.out ?_
    rintro e w1 ⟨u, rfl, ho, r, g⟩
    clear q0
    obtain ⟨ua, uc, rfl, hrow, _, _, hun⟩ := Par.row_own ho HF.out.1.2.2.1 (by omega)
    have f1 := HF.out.read r g
    have hrow2 := hrow.mono HF.out.2.2.2.2.2.2.2
    have q1 := f1.2.1.c13
    have z1 := f1.2.1.fr 13
    have f2 := f1.store (f1.2.1.s13 ua v.length uc v) (lst_body hrow2 hun)
    have T1 := hidden (T0.out.trans ((Tch.ofB (C := C) g).trans (Tch.ofC (gr_set w1 C 13 (.slice ua v.length uc)))))
    have HF1 := hidden f2
    clear r g f1 f2 RS ho hrow hrow2 hun HF T0
    obtain ⟨ra, rl, rc, qz, hz, hp⟩ := HF1.out.fin
    have EM := hidden (empty_ ra rl rc)
    by_cases h0 : rl = 0
    · rw [show decide (rl = 0) = true from decide_eq_true h0] at EM
      have HZ := hidden (show v.length = v.length by omega)
      clear hz hp h0
      go_wp2_with fail
      refine Calls.mono (EM.out _) ?_
      rintro e wz ⟨rfl, rfl⟩
      go_wp2_with fail
      refine Calls.mono (need_ok 61 _) ?_
      rintro e wz ⟨rfl, rfl⟩
      go_wp2
      go_end0
      exact filled_ok T1.out (fil_of hk (by unfold Fil; rw [if_neg (show ¬ v.length < nb 10 from (show ¬ v.length < 0 by omega)), if_neg (by decide), if_neg (by decide), if_neg (by decide), if_neg (by decide), if_neg (by decide), if_neg (by decide), if_neg (by decide)]; exact ⟨rfl, rfl⟩)) HF1.out
    · rw [show decide (rl = 0) = false from decide_eq_false h0] at EM
      exact absurd (by omega : rl = 0) h0
  · have hnb : nb c.kind = 0 := by rw [hk]; rfl
    rw [hnb] at hv
    obtain ⟨ra, rl, rc, qz, hz, hp⟩ := HF.out.fin
    have EM := hidden (empty_ ra rl rc)
    by_cases h0 : rl = 0
    · rw [show decide (rl = 0) = true from decide_eq_true h0] at EM
      have HZ := hidden (show v.length = 0 by omega)
      clear hz hp h0
      go_wp2_with fail
      refine Calls.mono (EM.out _) ?_
      rintro e wz ⟨rfl, rfl⟩
      go_wp2_with fail
      refine Calls.mono (need_ok 61 _) ?_
      rintro e wz ⟨rfl, rfl⟩
      go_wp2
      go_end0
      exact filled_ok T0.out (fil_of hk (by unfold Fil; rw [if_neg (show ¬ v.length < nb 11 from (show ¬ v.length < 0 by omega)), if_neg (by decide), if_neg (by decide), if_pos (by decide)]; exact .inr ⟨HZ.out, rfl, rfl⟩)) HF.out
    · rw [show decide (rl = 0) = false from decide_eq_false h0] at EM
      have HZ := hidden (show ¬ v.length = 0 by omega)
      clear hz hp h0
      go_wp2_with fail
      refine Calls.mono (EM.out _) ?_
      rintro e wz ⟨rfl, rfl⟩
      go_wp2_with fail
      refine Calls.mono (need_bad 61 _) ?_
      rintro e wz ⟨rfl, rfl⟩
      exact ⟨rfl, filled_bad T0.out ⟨_, HF.out.2.1⟩ (fun y => (fil_of hk (by unfold Fil; rw [if_neg (show ¬ v.length < nb 11 from (show ¬ v.length < 0 by omega)), if_neg (by decide), if_neg (by decide), if_pos (by decide)]; exact .inl ⟨HZ.out, rfl⟩))) (by decide)⟩
  · have hnb : nb c.kind = 0 := by rw [hk]; rfl
    rw [hnb] at hv
    obtain ⟨ra, rl, rc, qz, hz, hp⟩ := HF.out.fin
    have EM := hidden (empty_ ra rl rc)
    by_cases h0 : rl = 0
    · rw [show decide (rl = 0) = true from decide_eq_true h0] at EM
      have HZ := hidden (show v.length = 0 by omega)
      clear hz hp h0
      go_wp2_with fail
      refine Calls.mono (EM.out _) ?_
      rintro e wz ⟨rfl, rfl⟩
      go_wp2_with fail
      refine Calls.mono (need_ok 61 _) ?_
      rintro e wz ⟨rfl, rfl⟩
      go_wp2
      go_end0
      exact filled_ok T0.out (fil_of hk (by unfold Fil; rw [if_neg (show ¬ v.length < nb 14 from (show ¬ v.length < 0 by omega)), if_neg (by decide), if_neg (by decide), if_pos (by decide)]; exact .inr ⟨HZ.out, rfl, rfl⟩)) HF.out
    · rw [show decide (rl = 0) = false from decide_eq_false h0] at EM
      have HZ := hidden (show ¬ v.length = 0 by omega)
      clear hz hp h0
      go_wp2_with fail
      refine Calls.mono (EM.out _) ?_
      rintro e wz ⟨rfl, rfl⟩
      go_wp2_with fail
      refine Calls.mono (need_bad 61 _) ?_
      rintro e wz ⟨rfl, rfl⟩
      exact ⟨rfl, filled_bad T0.out ⟨_, HF.out.2.1⟩ (fun y => (fil_of hk (by unfold Fil; rw [if_neg (show ¬ v.length < nb 14 from (show ¬ v.length < 0 by omega)), if_neg (by decide), if_neg (by decide), if_pos (by decide)]; exact .inl ⟨HZ.out, rfl⟩))) (by decide)⟩
  · have hnb : nb c.kind = 16 := by rw [hk]; rfl
    rw [hnb] at hv
    have RP := hidden (report16 base n w0 W B C v c HF.out hk hv hlim)
    go_wp2_with fail
    refine Calls.mono RP.out ?_
    rintro e w1 ⟨hT, hr⟩
    clear q0 RP
    rcases hr with ⟨rfl, hx, h1⟩ | ⟨rfl, hx, h1, h2⟩ | ⟨rfl, h1, c', hF', hval⟩
    · exact ⟨rfl, filled_bad (T0.out.trans hT) hx (fun y => (fil_of hk (by unfold Fil; rw [if_neg (show ¬ v.length < nb 16 from (show ¬ v.length < 16 by omega)), if_pos (by decide)]; exact .inl ⟨h1, rfl⟩))) (by decide)⟩
    · exact ⟨rfl, filled_bad (T0.out.trans hT) hx (fun y => (fil_of hk (by unfold Fil; rw [if_neg (show ¬ v.length < nb 16 from (show ¬ v.length < 16 by omega)), if_pos (by decide)]; exact .inr (.inl ⟨h1, (by show v.length ≠ 16 + 4 * (cG v + cN 16 v + cD 16 v); omega), rfl⟩)))) (by decide)⟩
    have HF1 := hidden hF'
    have T1 := hidden (T0.out.trans hT)
    have HC1 := hidden h1
    have HVL := hidden hval
    clear hF' hT h1 hval HF T0
    obtain ⟨ra, rl, rc, qz, hz, hp⟩ := HF1.out.fin
    have EM := hidden (empty_ ra rl rc)
    by_cases h0 : rl = 0
    · rw [show decide (rl = 0) = true from decide_eq_true h0] at EM
      have HZ := hidden (show v.length = 16 + 4 * (cG v + cN 16 v + cD 16 v) by omega)
      clear hz hp h0
      go_wp2_with fail
      refine Calls.mono (EM.out _) ?_
      rintro e wz ⟨rfl, rfl⟩
      go_wp2_with fail
      refine Calls.mono (need_ok 61 _) ?_
      rintro e wz ⟨rfl, rfl⟩
      go_wp2
      go_end0
      exact filled_ok T1.out (fil_of hk (by unfold Fil; rw [if_neg (show ¬ v.length < nb 16 from (show ¬ v.length < 16 by omega)), if_pos (by decide)]; exact .inr (.inr ⟨HC1.out, HZ.out, rfl, HVL.out⟩))) HF1.out
    · rw [show decide (rl = 0) = false from decide_eq_false h0] at EM
      have HZ := hidden (show ¬ v.length = 16 + 4 * (cG v + cN 16 v + cD 16 v) by omega)
      clear hz hp h0
      go_wp2_with fail
      refine Calls.mono (EM.out _) ?_
      rintro e wz ⟨rfl, rfl⟩
      go_wp2_with fail
      refine Calls.mono (need_bad 61 _) ?_
      rintro e wz ⟨rfl, rfl⟩
      exact ⟨rfl, filled_bad T1.out ⟨_, HF1.out.2.1⟩ (fun y => (fil_of hk (by unfold Fil; rw [if_neg (show ¬ v.length < nb 16 from (show ¬ v.length < 16 by omega)), if_pos (by decide)]; exact .inr (.inl ⟨HC1.out, HZ.out, rfl⟩)))) (by decide)⟩
  · have HO := hidden hk
    have hnb : nb c.kind = 0 := by simp [nb, hk.1, hk.2.1, hk.2.2.1, hk.2.2.2.1, hk.2.2.2.2.2.2.2.1, hk.2.2.2.2.2.2.2.2.2.2.2.2.2]
    obtain ⟨h0, h1, h2, h3, h4, h5, h6, h7, h8, h9, h10, h11, h14, h16⟩ := hk
    have e0 := beq_f h0
    have e1 := beq_f h1
    have e2 := beq_f h2
    have e3 := beq_f h3
    have e4 := beq_f h4
    have e5 := beq_f h5
    have e6 := beq_f h6
    have e7 := beq_f h7
    have e8 := beq_f h8
    have e9 := beq_f h9
    have e10 := beq_f h10
    have e11 := beq_f h11
    have e14 := beq_f h14
    have e16 := beq_f h16
    clear h0 h1 h2 h3 h4 h5 h6 h7 h8 h9 h10 h11 h14 h16
    have RS := hidden (rest base w0 _ B 0 v HF.out.1)
    simp only [Nat.sub_zero, List.drop_zero] at RS
    go_wp2_with fail
    refine Calls.mono RS.out ?_
    rintro e w1 ⟨u, rfl, ho, r, g⟩
    clear q0
    obtain ⟨ua, uc, rfl, hrow, _, _, hun⟩ := Par.row_own ho HF.out.1.2.2.1 (by omega)
    have f1 := HF.out.read r g
    have hrow2 := hrow.mono HF.out.2.2.2.2.2.2.2
    have q1 := f1.2.1.c13
    have z1 := f1.2.1.fr 13
    have f2 := f1.store (f1.2.1.s13 ua v.length uc v) (lst_body hrow2 hun)
    have T1 := hidden (T0.out.trans ((Tch.ofB (C := C) g).trans (Tch.ofC (gr_set w1 C 13 (.slice ua v.length uc)))))
    have HF1 := hidden f2
    clear r g f1 f2 RS ho hrow hrow2 hun HF T0
    obtain ⟨ra, rl, rc, qz, hz, hp⟩ := HF1.out.fin
    have EM := hidden (empty_ ra rl rc)
    by_cases h0 : rl = 0
    · rw [show decide (rl = 0) = true from decide_eq_true h0] at EM
      have HZ := hidden (show v.length = v.length by omega)
      clear hz hp h0
      go_wp2_with fail
      refine Calls.mono (EM.out _) ?_
      rintro e wz ⟨rfl, rfl⟩
      go_wp2_with fail
      refine Calls.mono (need_ok 61 _) ?_
      rintro e wz ⟨rfl, rfl⟩
      go_wp2
      go_end0
      exact filled_ok T1.out (by unfold Fil; rw [if_neg (by omega), if_neg (by simp [HO.out.2.2.2.1, HO.out.2.2.2.2.2.2.2.2.2.2.2.2.2]), if_neg HO.out.2.2.2.2.2.2.2.1, if_neg (by simp [HO.out.2.2.2.2.2.2.2.2.1, HO.out.2.2.2.2.2.2.2.2.2.2.2.1, HO.out.2.2.2.2.2.2.2.2.2.2.2.2.1]), if_neg (by simp [HO.out.2.1, HO.out.2.2.1]), if_neg (by simp [HO.out.2.2.2.2.1, HO.out.2.2.2.2.2.1]), if_neg (by simp [HO.out.2.2.2.2.2.2.1, HO.out.2.2.2.2.2.2.2.2.2.1]), if_neg HO.out.1]; exact ⟨rfl, rfl⟩) HF1.out
    · rw [show decide (rl = 0) = false from decide_eq_false h0] at EM
      exact absurd (by omega : rl = 0) h0
theorem fill (base n : Nat) (w0 w : World) (B C : Nat) (v : List Int) (c : Ck) (h : Fl base n w0 w B C v 0 c) (hlim : v.length ≤ 140737488355328) :
    Calls Tryz.prog 125 #[.pointer (some ⟨B, 0, none⟩), .pointer (some ⟨C, 0, none⟩)] w fun e w' => Filled base n w0 w B C v c e w' := by
  rcases Nat.lt_or_ge v.length (nb c.kind) with hv | hv
  · exact fill_short base n w0 w B C v c h hv
  · exact fill_long base n w0 w B C v c h hlim hv
end Go.Proofs.YtmnndkhdekpecaaGreatDoor.Chu
namespace Go.Proofs.YtmnndkhdekpecaaGreatDoor.Chu
open Go.ChangeShapes Go.WideShapes Go.ChangeAt Go.RowKit
open Par (hidden Bytes Row Prm Prms cell_lt Cap cells_new cutA thrown form_of)
set_option linter.unusedVariables false
attribute [local go_sem ↓] execOp_ld execOp_bx execOp_st

set_option maxRecDepth 20000 in
theorem catch_panicking (p : Addr) (x : Int) (f : Int) (older : List PanicEntry) (w : World) (hc : w.cell? p = some (.int .i64 x)) (hz : w.frozen? p = false) :
    CallsD Tryz.prog 119 #[.pointer (some p)] (.panicking ({ v := .iface 28 (.int .i64 f), recovered := false } :: older)) w fun e u' w' =>
      e = .returned (.tuple #[]) ∧ u' = .panicking ({ v := .iface 28 (.int .i64 f), recovered := true } :: older) ∧ w' = w.setCell p (.int .i64 f) := by
  have hta : ∀ w : World, (Instr.typeAssert (.iface 28 (.int .i64 f)) 20 28 false).run Tryz.prog w = .ok (.int .i64 f) w := fun w => by rfl
  refine callsD_of_wpS Tryz.func119 rfl fun c₀ cs hu => ?_
  apply wpS_seq
  apply wpS_region
  simp [wpOpsS, go_sem, recoverD, hu, Tryz.ntmps119, Exit.thenS]
  refine wpS_of_wp ?_
  go_wp2
  simp [bodyPostS, results, Tryz.results119]
theorem catch_idle (p : Addr) (w : World) :
    CallsD Tryz.prog 119 #[.pointer (some p)] .returning w fun e u' w' => e = .returned (.tuple #[]) ∧ u' = .returning ∧ w' = w := by
  refine callsD_of_wpS Tryz.func119 rfl fun c₀ cs hu => ?_
  apply wpS_seq
  apply wpS_region
  simp [wpOpsS, go_sem, recoverD, hu, Tryz.ntmps119, Exit.thenS]
  refine wpS_of_wp ?_
  go_wp2
  cases c₀
  simp_all [bodyPostS, results, Tryz.results119]

/-- what chunk has while it reads: the reader stands at p, the chunk so far lies behind the call's memory, the error is 0 -/
def Rs (base : Nat) (w0 w wx : World) (B : Nat) (zs : List Int) (p : Nat) (c : Ck) : Prop :=
  Rp base w0 wx B zs p ∧ Bx wx w.heap.size c ∧ wx.heap[w.heap.size + 1]? = some (.cells #[.int .i64 0] 28 (0, 0)) ∧ w.grownBy wx (some B) ∧ B < w.heap.size ∧ w.heap.size + 2 ≤ wx.heap.size
theorem Rs.read {base : Nat} {w0 w wx wy : World} {B p q : Nat} {zs : List Int} {c : Ck} (h : Rs base w0 w wx B zs p c) (hR : Rp base w0 wy B zs q) (hg : wx.grownBy wy (some B)) : Rs base w0 w wy B zs q c := by
  obtain ⟨h1, h2, h3, h4, h5, h6⟩ := h
  have hs : wx.heap.size ≤ wy.heap.size := by obtain ⟨_, _, _, h, _⟩ := hg; exact h
  refine ⟨hR, h2.grown hg (by omega), ?_, gr_trans h4 hg, h5, by omega⟩
  obtain ⟨_, _, _, _, h⟩ := hg
  exact (h _ (by omega) (by simp; omega)).trans h3
theorem Rs.store {base : Nat} {w0 w wx : World} {B p i : Nat} {zs : List Int} {c c' : Ck} {u : Value} (h : Rs base w0 w wx B zs p c) (hx : Bx (wx.setCell ⟨w.heap.size, i, none⟩ u) w.heap.size c') : Rs base w0 w (wx.setCell ⟨w.heap.size, i, none⟩ u) B zs p c' := by
  obtain ⟨h1, h2, h3, h4, h5, h6⟩ := h
  have hg := gr_set wx w.heap.size i u
  have hb : ∀ k, k ≠ w.heap.size → k < wx.heap.size → (wx.setCell ⟨w.heap.size, i, none⟩ u).heap[k]? = wx.heap[k]? := by
    obtain ⟨_, _, _, _, h⟩ := hg
    exact fun k hk hl => h k hl (by simp; exact hk)
  have hw := h1.2.2.2.1.size
  have hwB := h1.2.2.2.2
  refine ⟨⟨h1.1.same (hb B (by omega) (by omega)), h1.2.1, h1.2.2.1, ?_, h1.2.2.2.2⟩, hx, (hb _ (by omega) (by omega)).trans h3, gr_own h4 hg (fun k hk => by cases hk; exact Nat.le_refl _), h5, by simpa [World.setCell] using h6⟩
  exact h1.2.2.2.1.grown hg h1.2.2.2.1.size (fun k hk => by cases hk; omega)
theorem Rs.drew {base : Nat} {w0 w wx : World} {B p : Nat} {zs : List Int} {c : Ck} (h : Rs base w0 w wx B zs p c) : Rs base w0 w wx.drew B zs p c :=
  ⟨⟨h.1.1, h.1.2.1, h.1.2.2.1, Par.below_drewN h.1.2.2.2.1 1, h.1.2.2.2.2⟩, h.2.1, h.2.2.1, gr_drew h.2.2.2.1, h.2.2.2.2⟩
theorem Rs.c3 {base : Nat} {w0 w wx : World} {B p : Nat} {zs : List Int} {c : Ck} (h : Rs base w0 w wx B zs p c) : wx.cell? ⟨w.heap.size + 1, 0, none⟩ = some (.int .i64 0) ∧ wx.frozen? ⟨w.heap.size + 1, 0, none⟩ = false := by
  simp [World.cell?, World.frozen?, h.2.2.1]
theorem Rs.rd {base : Nat} {w0 w wx : World} {B p : Nat} {zs : List Int} {c : Ck} (h : Rs base w0 w wx B zs p c) : ∃ a len cap, wx.cell? ⟨B, 0, none⟩ = some (.slice a len cap) ∧ len = zs.length - p := by
  obtain ⟨⟨⟨a, len, cap, h1, hrow, _, _⟩, _⟩, _⟩ := h
  exact ⟨a, len, cap, (rd_c h1).1, by rw [← hrow.1, List.length_drop]⟩
/-- behind a fault: the chunk so far, the error stored -/
theorem bad_end {w w2 : World} {B : Nat} {c' : Ck} (f : Int) (hx : Bx w2 w.heap.size c') (he : w2.heap[w.heap.size + 1]? = some (.cells #[.int .i64 0] 28 (0, 0))) (hg : w.grownBy w2 (some B)) :
    Bx (w2.setCell ⟨w.heap.size + 1, 0, none⟩ (.int .i64 f)) w.heap.size c' ∧ w.grownBy (w2.setCell ⟨w.heap.size + 1, 0, none⟩ (.int .i64 f)) (some B) ∧ (w2.setCell ⟨w.heap.size + 1, 0, none⟩ (.int .i64 f)).cell? ⟨w.heap.size + 1, 0, none⟩ = some (.int .i64 f) := by
  have hs := gr_set w2 (w.heap.size + 1) 0 (.int .i64 f)
  refine ⟨hx.grown hs (by omega), gr_own hg hs (fun k hk => by cases hk; omega), ?_⟩
  exact World.cell?_setCell_same w2 ⟨w.heap.size + 1, 0, none⟩ (.int .i64 f) (by simp [World.cell?, he]; rfl)
/-- what chunk tells -/
def Got (base : Nat) (w0 w : World) (B : Nat) (zs : List Int) (v : Value) (w' : World) : Prop :=
  ∃ c er y m, v = .tuple #[cv c, .int .i64 er] ∧ Dec zs er y m ∧ w.grownBy w' (some B) ∧ (er = 0 → val c = y ∧ Lsts w.heap.size w' c ∧ Rp base w0 w' B zs m)
end Go.Proofs.YtmnndkhdekpecaaGreatDoor.Chu
namespace Go.Proofs.YtmnndkhdekpecaaGreatDoor.Chu
open Go.ChangeShapes Go.WideShapes Go.ChangeAt Go.RowKit
open Par (hidden Bytes Row Prm Prms cell_lt Cap cells_new cutA thrown form_of)
set_option linter.unusedVariables false
attribute [local go_sem ↓] execOp_ld execOp_bx execOp_st

/-- a statement that does not end otherwise -/
theorem wp_quiet {s : Code} {K : Act → World → Prop} {Q : Exit → Act → World → Prop} {a : Act} {w : World} (h : s.wp Tryz.prog (Exit.then K (fun _ _ _ => False)) a w) : s.wp Tryz.prog (Exit.then K Q) a w := by
  refine wp_mono h ?_
  intro e a' w' hq
  cases e with
  | normal => exact hq
  | exit id => exact hq.elim
  | goto l => exact hq.elim
  | ret => exact hq.elim
  | panic ch => exact hq.elim
  | outgrown => exact hq.elim
theorem Rs.start {base : Nat} {w0 w : World} {B : Nat} {zs : List Int} (h : Rp base w0 w B zs 0) : Rs base w0 w ((w.alloc (.cells (cc (zck 0)) 59)).alloc (.cells #[.int .i64 0] 28)) B zs 0 (zck 0) := by
  refine ⟨(h.alloc _).alloc _, (Bx.new w (zck 0)).alloc _, ?_, gr_trans (World.grownBy_alloc w _ _) (World.grownBy_alloc _ _ _), h.1.lt, by simp⟩
  have := heap_alloc_new (w.alloc (.cells (cc (zck 0)) 59)) (.cells #[.int .i64 0] 28)
  rw [World.size_alloc] at this
  exact this
theorem Lsts.mono {base base' : Nat} {w : World} {c : Ck} (h : Lsts base w c) (hb : base' ≤ base) : Lsts base' w c := ⟨h.1.mono hb, h.2.1.mono hb, h.2.2.1.mono hb, h.2.2.2.1.mono hb, h.2.2.2.2.1, prms_mono h.2.2.2.2.2 hb⟩
/-- the value's own reader is made -/
theorem val_start {base : Nat} {w0 w w6 : World} {B p n cap : Nat} {zs v : List Int} {c : Ck} {a : Option Addr} (h : Rs base w0 w w6 B zs p c) (hr : Row base w0 a n v) (hn : n ≤ cap) (hnn : a = none → n = 0 ∧ cap = 0) (hl : ∀ nn w, Lsts nn w c) :
    Fl base (w6.heap.size + 1) w0 (w6.alloc (.cells #[.slice a n cap] 144)) w6.heap.size w.heap.size v 0 c ∧ Rs base w0 w (w6.alloc (.cells #[.slice a n cap] 144)) B zs p c := by
  obtain ⟨h1, h2, h3, h4, h5, h6⟩ := h
  have hset := heap_alloc_new w6 (.cells #[.slice a n cap] 144)
  have hw := h1.2.2.2.1.size
  have hbl : Below w6.heap.size w6 (w6.alloc (.cells #[.slice a n cap] 144)) := (Below.refl _ w6).alloc (Nat.le_refl _) _
  have hwB := h1.2.2.2.2
  have hs4 : w.heap.size ≤ w6.heap.size := by omega
  refine ⟨⟨⟨⟨a, n, cap, hset, by rw [List.drop_zero]; exact hr, hn, hnn⟩, Nat.zero_le _, hr.2.1, h1.2.2.2.1.trans (hbl.mono hw), by omega⟩, h2.later hbl, hl _ _, by omega, by omega, by omega, by omega, by simp⟩, h1.later hbl, h2.later hbl, (hbl.block _ (by omega)).trans h3, gr_trans h4 (gr_below hbl _), h5, ?_⟩
  have := hbl.size
  omega
/-- the value is read: what is left alone -/
theorem val_left {base : Nat} {w0 w w8 w9 : World} {B V p : Nat} {zs : List Int} {c : Ck} (h : Rs base w0 w w8 B zs p c) (hV : w.heap.size + 2 ≤ V) (hT : Tch V w.heap.size w8 w9) :
    w9.heap[w.heap.size + 1]? = some (.cells #[.int .i64 0] 28 (0, 0)) ∧ w.grownBy w9 (some B) ∧ Rp base w0 w9 B zs p ∧ w.heap.size + 2 ≤ w9.heap.size := by
  obtain ⟨h1, h2, h3, h4, h5, h6⟩ := h
  have hw := h1.2.2.2.1.size
  have hwB := h1.2.2.2.2
  have hsz := hT.2.2.2.1
  have blk : ∀ k, k < w8.heap.size → k ≠ V → k ≠ w.heap.size → w9.heap[k]? = w8.heap[k]? := hT.2.2.2.2
  refine ⟨(blk _ (by omega) (by omega) (by omega)).trans h3, ?_, ⟨h1.1.same (blk B (by omega) (by omega) (by omega)), h1.2.1, h1.2.2.1, hT.below h1.2.2.2.1 hw (by omega) (by omega), hwB⟩, by omega⟩
  obtain ⟨a1, a2, a3, a4, a5⟩ := h4
  exact ⟨hT.1.trans a1, hT.2.1.trans a2, hT.2.2.1.trans a3, by omega, fun k hk hne => (blk k (by omega) (by omega) (by omega)).trans (a5 k hk hne)⟩
/-- the end: the chunk is stored where it lies, the error 0 -/
theorem fin_ok {base nn : Nat} {w0 w w9 : World} {B p : Nat} {zs : List Int} {c : Ck} (h : Rs base w0 w w9 B zs p c) (hL : Lsts nn w9 c) (hnn : w.heap.size + 2 ≤ nn) :
    Bx ((stoW w9 w.heap.size c).setCell ⟨w.heap.size + 1, 0, none⟩ (.int .i64 0)) w.heap.size c ∧ ((stoW w9 w.heap.size c).setCell ⟨w.heap.size + 1, 0, none⟩ (.int .i64 0)).cell? ⟨w.heap.size + 1, 0, none⟩ = some (.int .i64 0) ∧
      w.grownBy ((stoW w9 w.heap.size c).setCell ⟨w.heap.size + 1, 0, none⟩ (.int .i64 0)) (some B) ∧ Lsts w.heap.size ((stoW w9 w.heap.size c).setCell ⟨w.heap.size + 1, 0, none⟩ (.int .i64 0)) c ∧ Rp base w0 ((stoW w9 w.heap.size c).setCell ⟨w.heap.size + 1, 0, none⟩ (.int .i64 0)) B zs p := by
  obtain ⟨h1, h2, h3, h4, h5, h6⟩ := h
  have hw := h1.2.2.2.1.size
  have hwB := h1.2.2.2.2
  have hs : (stoW w9 w.heap.size c).heap.size = w9.heap.size := by
    have : ∀ (vs : List Value) (o : Nat) (u : World), (u.setCells w.heap.size o vs).heap.size = u.heap.size := by
      intro vs
      induction vs with
      | nil => intro o u; rfl
      | cons v r ih => intro o u; exact (ih (o + 1) _).trans (by simp [World.setCell])
    exact this _ _ _
  have hT1 : Tch (w.heap.size + 1) w.heap.size w9 (stoW w9 w.heap.size c) := by
    have hb := stoW_below c (Below.refl w.heap.size w9) (Nat.le_refl _)
    exact ⟨hb.os, hb.tape, hb.output, by omega, fun k hk _ hC => other_setCells w.heap.size k hC _ _ _⟩
  have hT : Tch (w.heap.size + 1) w.heap.size w9 ((stoW w9 w.heap.size c).setCell ⟨w.heap.size + 1, 0, none⟩ (.int .i64 0)) := hT1.trans (Tch.ofB (gr_set _ _ _ _))
  have hE : (stoW w9 w.heap.size c).heap[w.heap.size + 1]? = some (.cells #[.int .i64 0] 28 (0, 0)) := (other_setCells w.heap.size _ (by omega) _ _ _).trans h3
  have blk : ∀ k, k < w9.heap.size → k ≠ w.heap.size + 1 → k ≠ w.heap.size → ((stoW w9 w.heap.size c).setCell ⟨w.heap.size + 1, 0, none⟩ (.int .i64 0)).heap[k]? = w9.heap[k]? := hT.2.2.2.2
  refine ⟨(stoW_bx h2 c).grown (gr_set _ _ _ _) (by omega), World.cell?_setCell_same _ _ _ (by simp [World.cell?, hE]; rfl), ?_, (hL.tch (by omega) (by omega) hT).mono (by omega), ⟨h1.1.same (blk B (by omega) (by omega) (by omega)), h1.2.1, h1.2.2.1, hT.below h1.2.2.2.1 hw (by omega) (by omega), hwB⟩⟩
  obtain ⟨a1, a2, a3, a4, a5⟩ := h4
  exact ⟨hT.1.trans a1, hT.2.1.trans a2, hT.2.2.1.trans a3, by have := hT.2.2.2.1; omega, fun k hk hne => (blk k (by omega) (by omega) (by omega)).trans (a5 k hk hne)⟩
theorem body_eq (zs : List Int) (n : Nat) (h : n2 zs 2 = (n : Int) + 4) : body zs = (zs.drop 4).take n := by
  unfold body
  rw [h, show ((n : Int) + 4).toNat = n + 4 by omega, List.drop_take]
  rfl
theorem end_at (n L : Nat) (h : n + 4 ≤ L) : 4 + n + min (Par.fill4 n - n) (L - (4 + n)) = min (Par.fill4 (n + 4)) L := by
  unfold Par.fill4
  omega
set_option maxHeartbeats 8000000 in
set_option maxRecDepth 20000 in
theorem chunk_ (base : Nat) (w0 w : World) (B : Nat) (zs : List Int) (h : Rp base w0 w B zs 0) (hlim : zs.length ≤ 140737488355328) :
    Calls Tryz.prog 113 #[.pointer (some ⟨B, 0, none⟩)] w fun e w' => ∃ v, e = .returned v ∧ Got base w0 w B zs v w' := by
  have hmf : ∀ (fn : Fn) (first cap : Array Value) (w : World), (Instr.makeFunc fn first cap).run Tryz.prog w = .ok (.func fn first cap) w := fun _ _ _ _ => rfl
  have S0 := Rs.start h
  have HBY := hidden h.2.2.1
  obtain ⟨a, len, cap, q0, hlen⟩ := S0.rd
  rw [Nat.sub_zero] at hlen
  have HH := hidden (has a len cap 4)
  clear h
  have hcc : (cc (zck 0)) = #[.int .u8 0, .int .u8 0, .int .u32 0, .int .u16 0, .int .u16 0, .int .u32 0, .int .u32 0, .int .u32 0, .int .u16 0, .int .u16 0, .slice none 0 0, .slice none 0 0, .slice none 0 0, .slice none 0 0, .slice none 0 0] := rfl
  rw [hcc] at S0 q0
  have HS := hidden S0
  clear S0 hcc
  rcases Nat.lt_or_ge zs.length 4 with h4 | h4
  · rw [show decide (4 ≤ len) = false from decide_eq_false (by omega)] at HH
    have HD := hidden (show Dec zs 60 (zch 0 0) 0 from .inl ⟨.inl h4, rfl⟩)
    clear h4 hlen
    go_enter_defers Tryz.func113, Tryz.ntmps113
    go_wp2_with fail
    refine Calls.mono (HH.out _) ?_
    rintro e wz ⟨rfl, rfl⟩
    go_wp2_with fail
    refine Calls.mono (need_bad 60 _) ?_
    rintro e wz ⟨rfl, rfl⟩
    refine leaves_cons (f := 119) (args := #[.pointer (some ⟨w.heap.size + 1, 0, none⟩)]) (by simp) (by simp [go_sem]) ?_
    obtain ⟨e0, z0⟩ := HS.out.c3
    refine (catch_panicking ⟨w.heap.size + 1, 0, none⟩ 0 60 [] _ e0 z0).mono ?_
    rintro e u' w3 ⟨rfl, rfl, rfl⟩
    obtain ⟨y1, y2, y3⟩ := bad_end 60 HS.out.2.1 HS.out.2.2.1 HS.out.2.2.2.1
    have y4 := y1.load
    exact ⟨.tuple #[cv (zck 0), .int .i64 60], by simp [results, Tryz.results113, go_sem] <;> rfl, _, rfl, (zck 0), 60, zch 0 0, 0, rfl, HD.out, y2, fun h => by cases h⟩
  · rw [show decide (4 ≤ len) = true from decide_eq_true (by omega)] at HH
    have O1 := hidden (one base w0 _ B 0 zs HS.out.1 (by omega))
    have H4 := hidden h4
    have HLN := hidden hlen
    clear h4 hlen
    go_enter_defers Tryz.func113, Tryz.ntmps113
    go_wp2_with fail
    refine Calls.mono (HH.out _) ?_
    rintro e wz ⟨rfl, rfl⟩
    go_wp2_with fail
    refine Calls.mono (need_ok 60 _) ?_
    rintro e wz ⟨rfl, rfl⟩
    go_wp2_with fail
    refine Calls.mono O1.out ?_
    rintro e w1 ⟨rfl, r1, g1⟩
    have s1 := HS.out.read r1 g1
    have x0 := s1.2.1.c0
    have x1 := s1.2.1.fr 0
    have s2 : Rs base w0 w (w1.setCell ⟨w.heap.size, 0, none⟩ (.int .u8 (zs.getD 0 0))) B zs 1 (zck (zs.getD 0 0)) := s1.store (s1.2.1.s0 (zs.getD 0 0))
    have HS2 := hidden s2
    clear O1 HS q0 HH s1 r1 g1 s2
    generalize hk : zs.getD 0 0 = k at *
    generalize hf : zs.getD 1 0 = f at *
    have kb : 0 ≤ k ∧ k < 256 := by rw [← hk]; exact Par.at_bound zs HBY.out 0
    have fb : 0 ≤ f ∧ f < 256 := by rw [← hf]; exact Par.at_bound zs HBY.out 1
    have HK := hidden hk
    have HF := hidden hf
    clear hk hf
    go_upto_region 4 with fail
    clear x0 x1
    generalize w1.setCell ⟨w.heap.size, 0, none⟩ (.int .u8 k) = W2 at *
    have HFL := flg_and k f fb.1 fb.2
    have x0 := HS2.out.2.1.c0
    have HS2d := hidden HS2.out.drew
    have ONE := hidden (show ∀ x, Rs base w0 w x B zs 1 (zck k) → Calls Tryz.prog 122 #[.pointer (some ⟨B, 0, none⟩)] x fun e w' => e = .returned (.int .u8 f) ∧ Rs base w0 w w' B zs 2 (zck k) from fun x hx => (one base w0 x B 1 zs hx.1 (by have := H4.out; omega)).mono (by
      rintro e w' ⟨rfl, r, g⟩
      exact ⟨by rw [HF.out], hx.read r g⟩))
    go_cut [0, 2, 3] from 4 (fun s0 s2 s3 wx => s0 = .pointer (some ⟨B, 0, none⟩) ∧ s2 = .pointer (some ⟨w.heap.size, 0, none⟩) ∧ s3 = .pointer (some ⟨w.heap.size + 1, 0, none⟩) ∧ Rs base w0 w wx B zs 2 { zck k with flags := flg k f })
    case first =>
      refine wp_quiet ?_
      go_region_with (first
        | (go_at_call 122; refine Calls.mono (ONE.out _ HS2d.out) ?_; rintro e w3 ⟨rfl, s3⟩; have y0 := s3.2.1.c0; have y1 := s3.2.1.fr 1; have y2 := s3.2.1.c1; have S3 := hidden s3; clear s3)
        | (go_at_call 94; refine Calls.mono (counting k _) ?_; rintro e w4 ⟨rfl, rfl⟩))
      all_goals go_wp2_with fail
      all_goals go_meet
      all_goals exact ⟨rfl, rfl, rfl, S3.out.store (S3.out.2.1.s1 _)⟩
    case rest =>
    obtain ⟨rfl, rfl, rfl, hs⟩ := hcut
    have HVC := hidden (show val { zck k with flags := flg k f } = zch k (flg k f) from rfl)
    have HLC := hidden (show ∀ nn w, Lsts nn w { zck k with flags := flg k f } from fun nn w => zck_lsts nn k w)
    have HKC := hidden (show ({ zck k with flags := flg k f } : Ck).kind = k from rfl)
    generalize { zck k with flags := flg k f } = c2 at hs HVC HLC HKC
    have TW := hidden (two base w0 wc B 2 zs hs.1 (by have := H4.out; omega))
    have HS := hidden hs
    have nbd := n2_bound HBY.out 2
    have HN2 := hidden (show n2 zs 2 = n2 zs 2 from rfl)
    clear hs ONE HS2d x0 HFL
    generalize hN : n2 zs 2 = N at TW nbd
    have HN := hidden hN
    clear hN HN2
    go_wp2_with fail
    refine Calls.mono TW.out ?_
    rintro e w5 ⟨rfl, r5, g5⟩
    have HS5 := hidden (HS.out.read r5 g5)
    clear HS TW r5 g5
    rcases Int.lt_or_le N 4 with hlt | hge
    · have HD := hidden (show Dec zs 60 (zch 0 0) 0 from .inl ⟨.inr (.inl (by rw [HN.out]; exact hlt)), rfl⟩)
      go_wp2_with fail
      refine Calls.mono (need_bad 60 _) ?_
      rintro e wz ⟨rfl, rfl⟩
      refine leaves_cons (f := 119) (args := #[.pointer (some ⟨w.heap.size + 1, 0, none⟩)]) (by simp) (by simp [go_sem]) ?_
      obtain ⟨e0, z0⟩ := HS5.out.c3
      refine (catch_panicking ⟨w.heap.size + 1, 0, none⟩ 0 60 [] _ e0 z0).mono ?_
      rintro e u' w3 ⟨rfl, rfl, rfl⟩
      obtain ⟨y1, y2, y3⟩ := bad_end 60 HS5.out.2.1 HS5.out.2.2.1 HS5.out.2.2.2.1
      exact ⟨.tuple #[cv c2, .int .i64 60], by simp [results, Tryz.results113, go_sem, y3, HS5.out.2.1.c0, HS5.out.2.1.c1, HS5.out.2.1.c2, HS5.out.2.1.c3, HS5.out.2.1.c4, HS5.out.2.1.c5, HS5.out.2.1.c6, HS5.out.2.1.c7, HS5.out.2.1.c8, HS5.out.2.1.c9, HS5.out.2.1.c10, HS5.out.2.1.c11, HS5.out.2.1.c12, HS5.out.2.1.c13, HS5.out.2.1.c14] <;> rfl, _, rfl, c2, 60, zch 0 0, 0, rfl, HD.out, y2, fun h => by cases h⟩
    obtain ⟨n, rfl⟩ : ∃ n : Nat, N = (n : Int) + 4 := ⟨(N - 4).toNat, by omega⟩
    obtain ⟨a5, len5, cap5, q5, hlen5⟩ := HS5.out.rd
    have HL5 := hidden hlen5
    have hsub : IntKind.i64.wrap ((n : Int) + 4 - 4) = (n : Int) := by rw [IntKind.wrap_i64]; omega
    have HHn := hidden (has a5 len5 cap5 n)
    clear hlen5
    rcases Nat.lt_or_ge len5 n with hlt | hge2
    · rw [show decide (n ≤ len5) = false from decide_eq_false (by omega)] at HHn
      have HD := hidden (show Dec zs 60 (zch 0 0) 0 from .inl ⟨.inr (.inr (by rw [HN.out]; have := HL5.out; have := H4.out; omega)), rfl⟩)
      go_wp2_with fail
      refine Calls.mono (HHn.out _) ?_
      rintro e wz ⟨rfl, rfl⟩
      go_wp2_with fail
      refine Calls.mono (need_bad 60 _) ?_
      rintro e wz ⟨rfl, rfl⟩
      refine leaves_cons (f := 119) (args := #[.pointer (some ⟨w.heap.size + 1, 0, none⟩)]) (by simp) (by simp [go_sem]) ?_
      obtain ⟨e0, z0⟩ := HS5.out.c3
      refine (catch_panicking ⟨w.heap.size + 1, 0, none⟩ 0 60 [] _ e0 z0).mono ?_
      rintro e u' w3 ⟨rfl, rfl, rfl⟩
      obtain ⟨y1, y2, y3⟩ := bad_end 60 HS5.out.2.1 HS5.out.2.2.1 HS5.out.2.2.2.1
      exact ⟨.tuple #[cv c2, .int .i64 60], by simp [results, Tryz.results113, go_sem, y3, HS5.out.2.1.c0, HS5.out.2.1.c1, HS5.out.2.1.c2, HS5.out.2.1.c3, HS5.out.2.1.c4, HS5.out.2.1.c5, HS5.out.2.1.c6, HS5.out.2.1.c7, HS5.out.2.1.c8, HS5.out.2.1.c9, HS5.out.2.1.c10, HS5.out.2.1.c11, HS5.out.2.1.c12, HS5.out.2.1.c13, HS5.out.2.1.c14] <;> rfl, _, rfl, c2, 60, zch 0 0, 0, rfl, HD.out, y2, fun h => by cases h⟩
    rw [show decide (n ≤ len5) = true from decide_eq_true (by omega)] at HHn
    have HNL := hidden (show n + 4 ≤ zs.length by have := HL5.out; have := H4.out; omega)
    have CU := hidden (cut base w0 w5 B n (zs.drop 4) HS5.out.1.1 (by rw [List.length_drop]; have := HNL.out; omega))
    go_wp2_with fail
    refine Calls.mono (HHn.out _) ?_
    rintro e wz ⟨rfl, rfl⟩
    go_wp2_with fail
    refine Calls.mono (need_ok 60 _) ?_
    rintro e wz ⟨rfl, rfl⟩
    go_wp2_with fail
    refine Calls.mono CU.out ?_
    rintro e w6 ⟨a6, cap6, rfl, hrow, hn6, hnn6, hR6, g6⟩
    rw [List.drop_drop] at hR6
    have s6 := HS5.out.read (HS5.out.1.grown (show 4 + n ≤ zs.length by have := HNL.out; omega) hR6 g6) g6
    have HBD := hidden (body_eq zs n HN.out)
    rw [← HBD.out] at hrow
    obtain ⟨F6, S6⟩ := val_start s6 hrow hn6 hnn6 HLC.out
    have hV := s6.2.2.2.2.2
    have HF6 := hidden F6
    have HS6 := hidden S6
    have FI := hidden (fill base _ w0 _ _ _ _ _ F6 (by rw [hrow.1]; have := HNL.out; omega))
    clear CU HHn q5 HS5 s6 F6 S6 hR6 g6 hrow hn6 hnn6 hge2
    go_wp2_with fail
    refine Calls.mono FI.out ?_
    rintro e w9 ⟨hT, er, y, hfil, h⟩
    obtain ⟨l1, l2, l3, l4⟩ := val_left HS6.out hV hT
    rw [HVC.out, HKC.out] at hfil
    have hnc : ¬ Cut zs := by
      unfold Cut
      rw [HN.out]
      have := HNL.out
      have := H4.out
      omega
    rcases h with ⟨he, rfl, c', hx⟩ | ⟨rfl, rfl, c', p, hF9, hval⟩
    · have HD := hidden (show Dec zs er y 0 from .inr ⟨hnc, by rw [HK.out, HF.out]; exact hfil, fun h => absurd h he⟩)
      have HE := hidden he
      have HX := hidden hx
      have L1 := hidden l1
      have L2 := hidden l2
      clear hfil hT HF6 HS6 FI hnc he hx l1 l2 l3 l4
      have e0 : w9.cell? ⟨w.heap.size + 1, 0, none⟩ = some (.int .i64 0) := by simp [World.cell?, L1.out]
      have z0 : w9.frozen? ⟨w.heap.size + 1, 0, none⟩ = false := by simp [World.frozen?, L1.out]
      refine leaves_cons (f := 119) (args := #[.pointer (some ⟨w.heap.size + 1, 0, none⟩)]) (by simp) (by simp [go_sem]) ?_
      refine (catch_panicking ⟨w.heap.size + 1, 0, none⟩ 0 er [] _ e0 z0).mono ?_
      rintro e u' w3 ⟨rfl, rfl, rfl⟩
      obtain ⟨y1, y2, y3⟩ := bad_end er HX.out L1.out L2.out
      exact ⟨.tuple #[cv c', .int .i64 er], by simp [results, Tryz.results113, go_sem, y3, HX.out.c0, HX.out.c1, HX.out.c2, HX.out.c3, HX.out.c4, HX.out.c5, HX.out.c6, HX.out.c7, HX.out.c8, HX.out.c9, HX.out.c10, HX.out.c11, HX.out.c12, HX.out.c13, HX.out.c14] <;> rfl, _, rfl, c', er, y, 0, rfl, HD.out, y2, fun h => absurd h HE.out⟩
    · have HD := hidden (show Dec zs 0 y (4 + n + min (Par.fill4 n - n) (zs.length - (4 + n))) from .inr ⟨hnc, by rw [HK.out, HF.out]; exact hfil, fun _ => by rw [HN.out, end_at n zs.length HNL.out]; congr 2⟩)
      have HS9 := hidden (show Rs base w0 w w9 B zs (4 + n) c' from ⟨l3, hF9.2.1, l1, l2, HS6.out.2.2.2.2.1, l4⟩)
      have HL9 := hidden hF9.2.2.1
      have HVY := hidden hval
      have h4n := (Par.fill4_le n)
      clear hfil hT HF6 HS6 FI hnc l1 l2 l3 l4 hF9 hval HVC HLC HKC
      have HFI : ∀ w, Hid (Calls Tryz.prog 81 #[.int .i64 (n : Int)] w fun e w' => e = .returned (.int .i64 (Par.fill4 n : Nat)) ∧ w = w') := fun w => hidden (filled n (by have := HNL.out; omega) w)
      have SKP := hidden (show ∀ x, Rs base w0 w x B zs (4 + n) c' ∧ Lsts (w6.heap.size + 1) x c' → Calls Tryz.prog 126 #[.pointer (some ⟨B, 0, none⟩), .int .i64 ((Par.fill4 n - n : Nat) : Int)] x fun e w' => e = .returned (.tuple #[]) ∧ Rs base w0 w w' B zs (4 + n + min (Par.fill4 n - n) (zs.length - (4 + n))) c' ∧ Lsts (w6.heap.size + 1) w' c' from fun x hx => (skip base w0 x B (4 + n) (Par.fill4 n - n) zs hx.1.1 (by omega)).mono (by
        rintro e w' ⟨rfl, r, g⟩
        exact ⟨rfl, hx.1.read r g, hx.2.tch (B := B) (C := w.heap.size) (by have := hx.1.2.2.2.2.1; omega) (by omega) (Tch.ofB g)⟩))
      have HSX := hidden (show Rs base w0 w w9.drew B zs (4 + n) c' ∧ Lsts (w6.heap.size + 1) w9.drew c' from ⟨HS9.out.drew, HL9.out⟩)
      obtain ⟨F4, hF4⟩ : ∃ F4 : Nat, Par.fill4 n = F4 := ⟨_, rfl⟩
      rw [hF4] at SKP HFI HD h4n
      have hsub2 : (F4 : Int) - (n : Int) = ((F4 - n : Nat) : Int) := by omega
      have hwr : IntKind.i64.wrap ((F4 - n : Nat) : Int) = ((F4 - n : Nat) : Int) := by rw [IntKind.wrap_i64]; omega
      clear hF4
      go_upto_region 9 with fail
      go_cut [0, 2, 3] from 4 (fun s0 s2 s3 wx => s0 = .pointer (some ⟨B, 0, none⟩) ∧ s2 = .pointer (some ⟨w.heap.size, 0, none⟩) ∧ s3 = .pointer (some ⟨w.heap.size + 1, 0, none⟩) ∧ Rs base w0 w wx B zs (4 + n + min (F4 - n) (zs.length - (4 + n))) c' ∧ Lsts (w6.heap.size + 1) wx c')
      case first =>
        refine wp_quiet ?_
        go_region_with (first
          | (go_at_call 81; refine Calls.mono (HFI _).out ?_; rintro e w4 ⟨rfl, rfl⟩)
          | (go_at_call 126; refine Calls.mono (SKP.out _ HSX.out) ?_; rintro e w4 ⟨rfl, s4⟩))
        all_goals go_wp2_with fail
        all_goals go_meet
        all_goals exact ⟨rfl, rfl, rfl, s4⟩
      case rest =>
      obtain ⟨rfl, rfl, rfl, hs, hl⟩ := hcut
      have k1 := hs.2.1.ld
      have k2 := sto_run hs.2.1 c'
      obtain ⟨y1, y2, y3, y4, y5⟩ := fin_ok hs hl (by omega)
      have k3 : (stoW wc w.heap.size c').cell? ⟨w.heap.size + 1, 0, none⟩ = some (.int .i64 0) := by
        have e := other_setCells w.heap.size (w.heap.size + 1) (by omega) (cc c').toList 0 wc
        unfold stoW
        simp [World.cell?, e, hs.2.2.1]
      have k4 : (stoW wc w.heap.size c').frozen? ⟨w.heap.size + 1, 0, none⟩ = false := by
        have e := other_setCells w.heap.size (w.heap.size + 1) (by omega) (cc c').toList 0 wc
        unfold stoW
        simp [World.frozen?, e, hs.2.2.1]
      have Y1 := hidden y1
      have Y2 := hidden y2
      have Y3 := hidden y3
      have Y4 := hidden y4
      have Y5 := hidden y5
      clear hs hl y1 y2 y3 y4 y5 HFI SKP HSX
      go_wp2
      refine leaves_cons (f := 119) (args := #[.pointer (some ⟨w.heap.size + 1, 0, none⟩)]) (by simp) (by simp [go_sem]) ?_
      refine (catch_idle ⟨w.heap.size + 1, 0, none⟩ _).mono ?_
      rintro e u' w3 ⟨rfl, rfl, rfl⟩
      generalize (stoW wc w.heap.size c').setCell ⟨w.heap.size + 1, 0, none⟩ (.int .i64 0) = W9 at *
      exact ⟨.tuple #[cv c', .int .i64 0], by simp [results, Tryz.results113, go_sem, Y2.out, Y1.out.c0, Y1.out.c1, Y1.out.c2, Y1.out.c3, Y1.out.c4, Y1.out.c5, Y1.out.c6, Y1.out.c7, Y1.out.c8, Y1.out.c9, Y1.out.c10, Y1.out.c11, Y1.out.c12, Y1.out.c13, Y1.out.c14] <;> rfl, _, rfl, c', 0, y, _, rfl, HD.out, Y3.out, fun _ => ⟨HVY.out, Y4.out, Y5.out⟩⟩
end Go.Proofs.YtmnndkhdekpecaaGreatDoor.Chu
namespace Go.Proofs.YtmnndkhdekpecaaGreatDoor.Chu
open Go.ChangeShapes Go.WideShapes Go.ChangeAt Go.RowKit
open Par (hidden Bytes Row Prm Prms cell_lt Cap cells_new cutA thrown form_of)
set_option linter.unusedVariables false
attribute [local go_sem ↓] execOp_ld execOp_bx execOp_st

theorem VOk.nums {c : Ck} (h : VOk (val c)) : Nums c := ⟨h.1, h.2.1, h.2.2.1, h.2.2.2.1, h.2.2.2.2.1, h.2.2.2.2.2.1, h.2.2.2.2.2.2.1, h.2.2.2.2.2.2.2.1, h.2.2.2.2.2.2.2.2.1, h.2.2.2.2.2.2.2.2.2.1⟩
theorem zck_chk (base : Nat) (w : World) : Chk base w (zck 0) := ⟨by simp [Nums, zck], zck_lsts base 0 w⟩
/-- what Decode tells: the chunk, how many bytes are its own, the error -/
def DecR (w : World) (zs : List Int) (w' : World) (c : Ck) (m : Nat) (er : Int) : Prop :=
  (∃ y, Dec zs er y m ∧ (er = 0 → val c = y)) ∧ (er ≠ 0 → c = zck 0 ∧ m = 0) ∧ Chk w.heap.size w' c ∧ Below w.heap.size w w'
theorem cell_res3 {w : World} {B p q r : Nat} {c : Ck} {x y : Value} {fn : Func} (h : fn.results = #[.cell p 59, .tmp q, .tmp r]) (hb : Bx w B c) (tmps : Array Value) (hp : tmps.getD p undef = .pointer (some ⟨B, 0, none⟩)) (hq : tmps.getD q undef = x) (hr : tmps.getD r undef = y) :
    (results fn tmps).run Tryz.prog w = .ok (.tuple #[cv c, x, y]) w := by
  have hp' : tmps[p]?.getD undef = .pointer (some ⟨B, 0, none⟩) := by simpa using hp
  have hq' : tmps[q]?.getD undef = x := by simpa using hq
  have hr' : tmps[r]?.getD undef = y := by simpa using hr
  simp [results, h, hp', hq', hr', asAddr, hb.load]
set_option maxRecDepth 20000 in
set_option maxHeartbeats 1000000 in
theorem decode (base : Nat) (w : World) (a : Option Addr) (len cap : Nat) (zs : List Int) (hr : Row base w a len zs) (hlc : len ≤ cap) (hnn : a = none → len = 0 ∧ cap = 0) :
    Calls Tryz.prog 105 #[.slice a len cap] w fun e w' => ∃ c m er, e = .returned (.tuple #[cv c, .int .i64 ((m : Nat) : Int), .int .i64 er]) ∧ DecR w zs w' c m er := by
  have hb1 : Below w.heap.size w ((w.alloc (.cells (cc (zck 0)) 59)).alloc (.cells #[.slice a len cap] 144)) := ((Below.refl _ w).alloc (Nat.le_refl _) _).alloc (by simp) _
  have hR : Rp base w ((w.alloc (.cells (cc (zck 0)) 59)).alloc (.cells #[.slice a len cap] 144)) (w.heap.size + 1) zs 0 := by
    refine ⟨⟨a, len, cap, ?_, by rw [List.drop_zero]; exact hr, hlc, hnn⟩, Nat.zero_le _, hr.2.1, hb1, by omega⟩
    have := heap_alloc_new (w.alloc (.cells (cc (zck 0)) 59)) (.cells #[.slice a len cap] 144)
    rw [World.size_alloc] at this
    exact this
  have hx1 : Bx ((w.alloc (.cells (cc (zck 0)) 59)).alloc (.cells #[.slice a len cap] 144)) w.heap.size (zck 0) := (Bx.new w (zck 0)).alloc _
  have hlim := hr.2.2.1
  have hzl := hr.1
  have HBY := hidden hr.2.1
  have CH := hidden (chunk_ base w _ _ zs hR (by omega))
  have HX1 := hidden hx1
  have HB1 := hidden hb1
  have hsz : ((w.alloc (.cells (cc (zck 0)) 59)).alloc (.cells #[.slice a len cap] 144)).heap.size = w.heap.size + 2 := by simp
  clear hb1 hR hx1 hr
  have hcc : (cc (zck 0)) = #[.int .u8 0, .int .u8 0, .int .u32 0, .int .u16 0, .int .u16 0, .int .u32 0, .int .u32 0, .int .u32 0, .int .u16 0, .int .u16 0, .slice none 0 0, .slice none 0 0, .slice none 0 0, .slice none 0 0, .slice none 0 0] := rfl
  rw [hcc] at CH HX1 HB1 hsz
  clear hcc
  go_enter Tryz.func105, Tryz.ntmps105
  go_wp2_with fail
  generalize hW : World.alloc (World.alloc w _) _ = W at *
  clear hW
  refine Calls.mono CH.out ?_
  rintro e w1 ⟨v, rfl, c, er, y, m, rfl, hD, hg, hok⟩
  have hs1 : W.heap.size ≤ w1.heap.size := by obtain ⟨_, _, _, h, _⟩ := hg; exact h
  have hx := HX1.out.grown hg (by omega)
  obtain ⟨W2, hS, hbx, hbw⟩ := newvar w1 c
  have hx2 := hx.later hbw
  have hs2 := hbw.size
  have hgb : Below w.heap.size w W2 := (HB1.out.grown hg (by omega) (fun k hk => by cases hk; omega)).trans (hbw.mono (by omega))
  have HX2 := hidden hx2
  have HGB := hidden hgb
  have HD := hidden hD
  have HOK := hidden hok
  have HBX := hidden hbx
  have HBW := hidden hbw
  clear CH HX1 HB1 hx hx2 hbw hgb hg hD hok hbx
  by_cases he : er = 0
  · subst he
    obtain ⟨hv, hl, hrp⟩ := HOK.out rfl
    obtain ⟨⟨a1, len1, cap1, hh1, hrow1, _, _⟩, hml, _, _, _⟩ := hrp
    have hl1 := hrow1.1
    rw [List.length_drop] at hl1
    have hB2 : W2.heap[w.heap.size + 1]? = some (.cells #[.slice a1 len1 cap1] 144 (0, 0)) := (HBW.out.block _ (by omega)).trans hh1
    have hB3 : (stoW W2 w.heap.size c).heap[w.heap.size + 1]? = some (.cells #[.slice a1 len1 cap1] 144 (0, 0)) := (other_setCells w.heap.size _ (by omega) _ _ _).trans hB2
    have q2 : W2.cell? ⟨w.heap.size + 1, 0, none⟩ = some (.slice a1 len1 cap1) := (rd_c hB2).1
    have q3' : (stoW W2.drew w.heap.size c).cell? ⟨w.heap.size + 1, 0, none⟩ = some (.slice a1 len1 cap1) := (rd_c (w := stoW W2.drew w.heap.size c) ((other_setCells w.heap.size _ (by omega) _ _ _).trans hB2)).1
    have k1 := HBX.out.ld
    have k1' : (ld (.pointer (some ⟨w1.heap.size, 0, none⟩))).run Tryz.prog W2.drew = .ok (cv c) W2.drew := Bx.ld (w := W2.drew) HBX.out
    have k2' : (sto (.pointer (some ⟨w.heap.size, 0, none⟩)) (cv c)).run Tryz.prog W2.drew = .ok () (stoW W2.drew w.heap.size c) := sto_run (w := W2.drew) HX2.out c
    have HX3 := hidden (show Bx (stoW W2.drew w.heap.size c) w.heap.size c from stoW_bx (w := W2.drew) HX2.out c)
    have HB3 := hidden (show Below w.heap.size w (stoW W2.drew w.heap.size c) from stoW_below c (Par.below_drewN HGB.out 1) (Nat.le_refl _))
    have HL3 := hidden (show Lsts w.heap.size (stoW W2.drew w.heap.size c) c from by
      have hb := stoW_below c (Below.refl w.heap.size W2.drew) (Nat.le_refl _)
      have l1 : Lsts W.heap.size W2 c := hl.later HBW.out
      have hT : Tch (w.heap.size + 1) w.heap.size W2 (stoW W2.drew w.heap.size c) := ⟨hb.os, hb.tape, hb.output, hb.size, fun k hk _ hC => other_setCells w.heap.size k hC _ _ _⟩
      exact (l1.tch (by omega) (by omega) hT).mono (by omega))
    have HV := hidden hv
    have hsb : (len : Int) - (len1 : Int) = (m : Int) := by omega
    clear hl hrow1 hh1 hB2 hB3 hv
    go_wp2_with fail
    go_region
    all_goals go_wp2
    all_goals
      refine bodyPost_ret (v := .tuple #[cv c, .int .i64 (m : Int), .int .i64 0]) (cell_res3 Tryz.results105 HX3.out _ rfl (by first | rfl | simp [hsb]) rfl) rfl ⟨c, m, 0, rfl, ⟨y, HD.out, fun _ => HV.out⟩, fun h => absurd rfl h, ⟨?_, HL3.out⟩, HB3.out⟩
      exact VOk.nums (by rw [HV.out]; exact (read_ok zs HBY.out y m HD.out).2.1)
  · have hne := bne_t he
    have hz : (sto (.pointer (some ⟨w.heap.size, 0, none⟩)) (.agg #[.int .u8 0, .int .u8 0, .int .u32 0, .int .u16 0, .int .u16 0, .int .u32 0, .int .u32 0, .int .u32 0, .int .u16 0, .int .u16 0, .slice none 0 0, .slice none 0 0, .slice none 0 0, .slice none 0 0, .slice none 0 0])).run Tryz.prog W2 = .ok () (stoW W2 w.heap.size (zck 0)) := sto_run HX2.out (zck 0)
    have HZ := hidden (stoW_bx HX2.out (zck 0))
    have HB3 := hidden (stoW_below (zck 0) HGB.out (Nat.le_refl w.heap.size))
    have HE := hidden he
    clear he
    go_wp2
    exact bodyPost_ret (v := .tuple #[cv (zck 0), .int .i64 ((0 : Nat) : Int), .int .i64 er]) (cell_res3 Tryz.results105 HZ.out _ rfl rfl rfl) rfl ⟨zck 0, 0, er, rfl, ⟨y, by
      rcases HD.out with h | ⟨h1, h2, h3⟩
      · exact .inl h
      · exact .inr ⟨h1, h2, fun h => absurd h HE.out⟩, fun h => absurd h HE.out⟩, fun _ => ⟨rfl, rfl⟩, zck_chk _ _, HB3.out⟩
end Go.Proofs.YtmnndkhdekpecaaGreatDoor.Chu
