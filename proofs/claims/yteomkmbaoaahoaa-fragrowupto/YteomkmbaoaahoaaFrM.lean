/-
  The document's Runs and Texts.
  Conditions: as at each lemma.
-/
import Derived.Test.YteomkmbaoaahoaaFrK
namespace Go.Proofs.Yteomkmbaoaahoaa.Fr
open Go.ChangeShapes Go.WideShapes Go.ChangeAt Go.RowKit
open Ba (hidden Has Only cell_lt heap_lt)
open Ow (Own)
set_option linter.unusedVariables false
set_option maxRecDepth 20000

/-- an append to bytes of one's own, and where they lie -/
theorem app_bytes_at {base : Nat} {w : World} {v : Value} {xs ys : List Int} {ad : Addr} {m c : Nat} (h : Mine base w v xs) (hr : Row w (some ad) m ys) (hm : 0 < m ∨ v.ownBlock ≠ none) (hl : xs.length + ys.length ≤ 140737488355328) (hb : base ≤ w.heap.size) :
    ∃ v' w', (Builtin.append_ #[22, 22] 22 #[v, .slice (some ad) m c]).run Try.prog w = .ok v' w' ∧ Mine base w' v' (xs ++ ys) ∧ w.grownBy w' v.ownBlock ∧ (v'.ownBlock = v.ownBlock ∨ v'.ownBlock = some w.heap.size) := by
  have hml : ys.length = m := hr.1
  obtain ⟨v', w', h1, h2, h3, h4⟩ := Ba.append_at (P := Try.prog) (t := 22) (ty := 22) (c := c) Try.underlying22 info5 rfl (by decide) h.1 (m := m) (by rw [cs_len, hml, Nat.mul_one]) hr.news (cs_one ys) hm (by unfold maxLen; omega) (by omega) hb
  refine ⟨v', w', h1, ⟨?_, h.2.1.append hr.2.1, by rw [List.length_append]; omega⟩, h3, h4⟩
  rw [cs_append, List.length_append, hml]
  exact h2
/-- bytes apart from texts -/
def Sep (v : Value) (ts : List T) : Prop := ∀ t ∈ ts, t.1.ownBlock = none ∨ t.1.ownBlock ≠ v.ownBlock
theorem LT.beside {base : Nat} {w w' : World} {v u u' : Value} {ts : List T} {zs : List Int} (h : LT base w v ts) (hu : Mine base w u zs) (hs : Sep u ts) (hg : w.grownBy w' u.ownBlock) (hw : u'.ownBlock = u.ownBlock ∨ u'.ownBlock = some w.heap.size) : LT base w' v ts ∧ Sep u' ts := by
  refine ⟨⟨h.1.kept hg (own_diff h.1 hu.1 (by decide)), fun t ht => ⟨(h.2 t ht).1.kept hg (hs t ht), (h.2 t ht).2⟩⟩, fun t ht => ?_⟩
  rcases hw with e | e
  · rw [e]; exact hs t ht
  · right
    rw [e]
    intro e2
    have := ((h.2 t ht).1.lt _ e2).2
    omega
theorem Sep.nil (ts : List T) : Sep (.slice none 0 0) ts := fun t _ => by
  cases h : t.1.ownBlock with
  | none => exact .inl rfl
  | some g => exact .inr (by simp [Value.ownBlock])
/-- where the document's loop stands -/
def AtR (vs : List V) (k m : Nat) (bs : List Int) (ts : List T) : Prop := ∃ D, run s0 (vs.take k) = some (D, bs, m) ∧ ts.map (·.2) = D
section
variable {vs : List V} {k m : Nat} {bs : List Int} {ts : List T} {bg en : Bool} {zs : List Int}
theorem AtR.zero (vs : List V) : AtR vs 0 0 [] [] := ⟨[], rfl, rfl⟩
theorem AtR.le (h : AtR vs k m bs ts) (hk : k ≤ vs.length) : m ≤ k ∧ bs.length ≤ 65536 ∧ ts.length ≤ k := by
  obtain ⟨D, h1, h2⟩ := h
  obtain ⟨i1, _, i3, i4, _⟩ := run_seg k _ hk h1
  have e := congrArg List.length h2
  rw [List.length_map] at e
  simp only at i1 i3 i4
  omega
theorem AtR.bad (h : AtR vs k m bs ts) (hv : vs[k]? = some (bg, en, zs)) {t : Bool} (ht : t = decide (m = 0)) (hf : zs.length = 0 ∨ bg ≠ t) : RO vs [] 0 k 150 := by
  obtain ⟨D, h1, h2⟩ := h
  have e : stE (D, bs, m) (bg, en, zs) = 150 := by
    unfold stE
    rw [if_pos]
    simp only
    rw [← ht]
    exact hf
  exact .inl ⟨k, _, _, h1, hv, by rw [e]; decide, rfl, rfl, rfl, e.symm⟩
theorem AtR.fine {D : List (List Int)} {t : Bool} (ht : t = decide (m = 0)) (hf : ¬ zs.length = 0) (hb : bg = t) : stE (D, bs, m) (bg, en, zs) = if 65536 < bs.length + zs.length then 2 else 0 := by
  unfold stE
  rw [if_neg]
  simp only
  rw [← ht]
  rintro (h | h)
  · exact hf h
  · exact h hb
theorem AtR.long (h : AtR vs k m bs ts) (hv : vs[k]? = some (bg, en, zs)) {t : Bool} (ht : t = decide (m = 0)) (hf : ¬ zs.length = 0) (hb : bg = t) (hl : 65536 < bs.length + zs.length) : RO vs [] 0 k 2 := by
  obtain ⟨D, h1, h2⟩ := h
  have e := AtR.fine (D := D) (bs := bs) (en := en) ht hf hb
  rw [if_pos hl] at e
  exact .inl ⟨k, _, _, h1, hv, by rw [e]; decide, rfl, rfl, rfl, e.symm⟩
theorem AtR.on (h : AtR vs k m bs ts) (hv : vs[k]? = some (bg, false, zs)) {t : Bool} (ht : t = decide (m = 0)) (hf : ¬ zs.length = 0) (hb : bg = t) (hl : ¬ 65536 < bs.length + zs.length) : AtR vs (k + 1) (m + 1) (bs ++ zs) ts := by
  obtain ⟨D, h1, h2⟩ := h
  have e := AtR.fine (D := D) (bs := bs) (en := false) ht hf hb
  rw [if_neg hl] at e
  exact ⟨D, (run_next h1 hv).trans (if_pos e), h2⟩
theorem AtR.done (h : AtR vs k m bs ts) (hv : vs[k]? = some (bg, true, zs)) {t : Bool} (ht : t = decide (m = 0)) (hf : ¬ zs.length = 0) (hb : bg = t) (hl : ¬ 65536 < bs.length + zs.length) (u : Value) : AtR vs (k + 1) 0 [] (ts ++ [(u, bs ++ zs)]) := by
  obtain ⟨D, h1, h2⟩ := h
  have e := AtR.fine (D := D) (bs := bs) (en := true) ht hf hb
  rw [if_neg hl] at e
  exact ⟨D ++ [bs ++ zs], (run_next h1 hv).trans (if_pos e), by rw [List.map_append, h2]; rfl⟩
theorem AtR.end (h : AtR vs k m bs ts) (hk : vs.length = k) : RO vs (ts.map (·.2)) m 0 0 := by
  obtain ⟨D, h1, h2⟩ := h
  rw [List.take_of_length_le (by omega)] at h1
  exact .inr ⟨_, h1, h2, rfl, rfl, rfl⟩
end
theorem RunsO.no {w w' : World} {vs : List V} {i : Nat} {er : Int} (hb : Below w.heap.size w w') (hj : RO vs [] 0 i er) : RunsO w vs (.returned (.tuple #[.slice none 0 0, .int .i64 ((0 : Nat) : Int), .int .i64 (i : Int), .int .i64 er])) w' := ⟨_, [], 0, i, er, rfl, hj, LT.nil _ _, hb⟩
section
variable {w : World} {pa : Option Addr} {n pcap : Nat} {vs : List V}
set_option maxHeartbeats 8000000 in
theorem rruns (hp : Pcs w pa n vs) : Calls Try.prog 18 #[.slice pa n pcap] w fun e w' => RunsO w vs e w' := by
  have H := hidden hp
  have hpl := hp.1
  have hnl := hp.2.1
  clear hp
  go_enter Try.func18, Try.ntmps18
  go_wp2_with fail
  go_loopw [6, 7, 8, 9] (fun v bv mm i wr => ∃ (k m : Nat) (ts : List T) (bs : List Int) (ba : Option Addr) (bl bc : Nat), k ≤ n ∧ m ≤ k ∧ bl ≤ 65536 ∧ i = .int .i64 k ∧ mm = .int .i64 m ∧ bv = .slice ba bl bc ∧ Hid (bs.length = bl) ∧ Hid (AtR vs k m bs ts) ∧ Hid (LT w.heap.size wr v ts) ∧ Hid (Mine w.heap.size wr (.slice ba bl bc) bs) ∧ Hid (Sep (.slice ba bl bc) ts) ∧ Hid (Below w.heap.size w wr)) (fun _ _ _ i _ => n - (intOf i).toNat)
  case atStart => exact ⟨0, 0, [], [], none, 0, 0, Nat.zero_le _, Nat.zero_le _, by decide, rfl, rfl, rfl, rfl, AtR.zero _, LT.nil _ _, ⟨World.ownsRow_nil _ _ _ _, Bytes.nil, by simp⟩, Sep.nil _, Below.refl _ _⟩
  case round =>
    obtain ⟨k, m, ts, bs, ba, bl, bc, hk, hmk, hb6, rfl, rfl, rfl, HBL, AT, MT, MB, SP, HB⟩ := hrel
    rcases Nat.lt_or_ge k n with hlt | hge
    · have hki : (k : Int) < n := by omega
      obtain ⟨b, off, bg, en, zs, a, cap, rfl, hpk, c0, c1, c2, hr⟩ := (H.out.later HB.out).get hlt
      obtain ⟨t, ht⟩ : ∃ t : Bool, ((m : Int) == 0) = t := ⟨_, rfl⟩
      have e1 : t = decide (m = 0) := by
        rw [← ht, Bool.eq_iff_iff, beq_iff_eq, decide_eq_true_eq]
        omega
      have E1 := hidden e1
      have HPK := hidden hpk
      by_cases hz : zs.length = 0
      · have HF := hidden (RunsO.no HB.out (AT.out.bad HPK.out E1.out (.inl hz)))
        rw [hz] at c2
        clear hpk hr AT MT MB SP HB e1 E1 HPK
        go_wp2
        (try simp only [Exit.inBlock, Exit.then])
        refine bodyPost_ret (results_tmp4 rfl _ _ _) rfl ?_
        exact HF.out
      · have hz2 : ¬ (zs.length : Int) = 0 := by omega
        have hzl : zs.length ≤ 140737488355328 := hr.2.2.1
        have hzb : ((zs.length : Int) == 0) = false := by simpa using hz2
        by_cases hbt : bg = t
        · subst hbt
          by_cases hlo : 65536 < bl + zs.length
          · have hd : (65536 : Int) - (bl : Int) < (zs.length : Int) := by omega
            have HF := hidden (RunsO.no HB.out (AT.out.long HPK.out E1.out hz rfl (by rw [HBL.out]; exact hlo)))
            clear hpk hr AT MT MB SP HB e1 E1 HPK
            go_wp2
            (try simp only [Exit.inBlock, Exit.then])
            refine bodyPost_ret (results_tmp4 rfl _ _ _) rfl ?_
            exact HF.out
          · have hd : ¬ (65536 : Int) - (bl : Int) < (zs.length : Int) := by omega
            have hz3 : 0 < zs.length := by omega
            obtain ⟨za, zo, rfl⟩ := hr.open hz3
            obtain ⟨v3, w3, hrun, m3, g3, l3⟩ := app_bytes_at (c := cap) MB.out hr (.inl hz3) (by rw [HBL.out]; omega) HB.out.size
            have HB3 := hidden (HB.out.grown g3 HB.out.size (fun j hj => (MB.out.1.lt j hj).1))
            obtain ⟨lt3, sp3⟩ := LT.beside (u' := v3) MT.out MB.out SP.out g3 l3
            obtain ⟨a3, c3, rfl, _⟩ := m3.row
            have c1' := (HB3.out.trans (Below.refl _ _)).size
            obtain ⟨q, hq⟩ : ∃ q, q = (bs ++ zs).length := ⟨_, rfl⟩
            have hq6 : q ≤ 65536 := by rw [hq, List.length_append, HBL.out]; omega
            rw [← hq] at hrun sp3
            have m4 := m3
            rw [← hq] at m4
            have M3 := hidden m4
            have LT3 := hidden lt3
            have SP3 := hidden sp3
            have HQ := hidden hq.symm
            have HR := hidden hrun
            obtain ⟨_, _, bg', en', zs', _, _, e2, hpk', f0, f1, f2, _⟩ := (H.out.later HB3.out).get hlt
            rw [hpk] at hpk'
            cases hpk'
            cases e2
            have AON : Hid (en = false → AtR vs (k + 1) (m + 1) (bs ++ zs) ts) := fun h => by
              subst h
              exact AT.out.on HPK.out E1.out hz rfl (by rw [HBL.out]; exact hlo)
            have ADO : Hid (en = true → ∀ u, AtR vs (k + 1) 0 [] (ts ++ [(u, bs ++ zs)])) := fun h u => by
              subst h
              exact AT.out.done HPK.out E1.out hz rfl (by rw [HBL.out]; exact hlo) u
            have hts := (AT.out.le (by omega)).2.2
            clear hpk hr AT MT MB SP HB e1 E1 HPK lt3 sp3 m3 m4 g3 l3 hq hrun f0 f2
            cases en with
            | false =>
              have AT4 := hidden (AON.out rfl)
              clear AON ADO
              go_wp2_with (at_builtin; refine Rg.wpList_app rfl _ _ _ rfl rfl rfl HR.out ?_; clear HR)
              go_wp2
              go_roundw
              case rel => exact ⟨k + 1, m + 1, ts, _, a3, q, c3, by omega, by omega, hq6, by go_num, by go_num, rfl, HQ.out, AT4.out, LT3.out, M3.out, SP3.out, HB3.out⟩
              case measure => simp [intOf]; omega
            | true =>
              have hB5 : Below w3.heap.size w3 (w3.alloc (.cells #[.slice a3 q c3] 22)) := (Below.refl _ w3).alloc (Nat.le_refl _) _
              have hbs := HB3.out.size
              have hb5 := hB5.size
              obtain ⟨v6, w6, hrun6, m6, g6⟩ := app_text (c := 1) (q := (.slice a3 q c3, bs ++ zs)) (g := w3.heap.size) (o := 0) (LT3.out.later hB5) (M3.out.later hB5) ((Has.new w3 #[.slice a3 q c3] 22).cell 0 rfl) (by omega) (by omega)
              have HB6 := hidden ((HB3.out.trans (hB5.mono hbs)).grown g6 (by omega) (fun j hj => (LT3.out.1.lt j hj).1))
              have M6 := hidden m6
              have AT4 := hidden (ADO.out rfl (.slice a3 q c3))
              have HR6 := hidden hrun6
              clear AON ADO hB5 m6 g6 hrun6 LT3 M3 SP3 HB3 hbs hb5 hts
              go_wp2_with (at_builtin; first | (refine Rg.wpList_app rfl _ _ _ rfl rfl rfl HR.out ?_; clear HR) | (refine Rg.wpList_app rfl _ _ _ rfl rfl rfl HR6.out ?_; clear HR6))
              go_wp2
              go_roundw
              case rel => exact ⟨k + 1, 0, _, [], none, 0, 0, by omega, by omega, by decide, by go_num, rfl, rfl, rfl, AT4.out, M6.out, ⟨World.ownsRow_nil _ _ _ _, Bytes.nil, by simp⟩, Sep.nil _, HB6.out⟩
              case measure => simp [intOf]; omega
        · have HF := hidden (RunsO.no HB.out (AT.out.bad HPK.out E1.out (.inr hbt)))
          clear hpk hr AT MT MB SP HB e1 E1 HPK
          cases bg <;> cases t <;> first | (exfalso; exact hbt rfl) | (clear hbt; go_wp2; (try simp only [Exit.inBlock, Exit.then]); refine bodyPost_ret (results_tmp4 rfl _ _ _) rfl ?_; exact HF.out)
    · obtain rfl : k = n := by omega
      have HO : Hid (RunsO w vs (.returned (.tuple #[u6, .int .i64 (m : Int), .int .i64 ((0 : Nat) : Int), .int .i64 0])) wr) := ⟨u6, ts, m, 0, 0, rfl, AT.out.end hpl, MT.out, HB.out⟩
      clear AT MT MB SP HB
      go_wp2
      (try simp only [Exit.inBlock, Exit.then])
      refine bodyPost_ret (results_tmp4 rfl _ _ _) rfl ?_
      exact HO.out
end
section
variable {w : World} {pa qa : Option Addr} {n pcap qcap : Nat} {vs : List (List Int)}
set_option maxHeartbeats 2000000 in
theorem rtexts (hp : Txs w pa n vs) (hq : Txs w qa n vs) : Calls Try.prog 19 #[.slice pa n pcap, .slice qa n qcap] w fun e w' => e = .returned (.bool true) ∧ Below w.heap.size w w' := by
  have HP := hidden hp
  have HQ := hidden hq
  have hnl := hp.2.1
  clear hp hq
  go_enter Try.func19, Try.ntmps19
  go_wp2_with fail
  go_loopw [5] (fun i wr => ∃ k : Nat, k ≤ n ∧ i = .int .i64 k ∧ Below w.heap.size w wr) (fun i _ => n - (intOf i).toNat)
  case atStart => exact ⟨0, Nat.zero_le _, rfl, Below.refl _ _⟩
  case round =>
    obtain ⟨k, hk, rfl, hbl⟩ := hrel
    rcases Nat.lt_or_ge k n with hlt | hge
    · obtain ⟨b, off, zs, a, cap, rfl, hpk, c0, hr⟩ := (HP.out.later hbl).get hlt
      obtain ⟨b', off', zs', a', cap', rfl, hqk, d0, hr'⟩ := (HQ.out.later hbl).get hlt
      rw [hpk] at hqk
      cases hqk
      have hcv : ∀ j, (convert 22 9 (.slice a zs.length cap)).run Try.prog (wr.drewN j) = .ok (.string (strOfNums zs)) (wr.drewN j) := fun j => (hr.drewN j).conv cap
      have hcv' : ∀ j, (convert 22 9 (.slice a' zs.length cap')).run Try.prog (wr.drewN j) = .ok (.string (strOfNums zs)) (wr.drewN j) := fun j => (hr'.drewN j).conv cap'
      have HB := hidden hbl
      clear hpk hbl hr hr'
      go_wp2
      go_quiet (fail)
      have B2 : Below w.heap.size w (wr.drewN nq) := ⟨HB.out.os, HB.out.tape, HB.out.output, HB.out.size, HB.out.block⟩
      go_wp2
      go_roundw
      case rel => exact ⟨k + 1, by omega, by go_num, B2⟩
      case measure => simp [intOf]; omega
    · obtain rfl : k = n := by omega
      go_wp2
      go_ret
      exact ⟨rfl, hbl⟩
end
end Go.Proofs.Yteomkmbaoaahoaa.Fr
