/-
  Bundle.
  Conditions: the cells hold the chunks.
-/
import Derived.Test.YtmnndkhdekpecaaGreatDoorPkU
namespace Go.Proofs.YtmnndkhdekpecaaGreatDoor.Pkt
open Go.ChangeShapes Go.WideShapes Go.ChangeAt Go.RowKit
open Chu (Ch Ck Cks Chk val cv cc ccs ld Lies Lsts Bx zck Nums clen tot chk)
open Par (hidden Bytes Row Prm Prms One cell_lt)
set_option linter.unusedVariables false
set_option maxRecDepth 20000
attribute [local go_sem ↓] Chu.execOp_ld Chu.execOp_bx Chu.execOp_st Chu.execOp_bs
attribute [local go_sem] Chu.run_box Chu.run_bsl

/-- the first chunk that may not be -/
noncomputable def fchk : List Ch → Int
  | [] => 0
  | v :: vs => if chk v = 0 then fchk vs else chk v
theorem fchk_none {vs : List Ch} (h : ∀ v ∈ vs, chk v = 0) : fchk vs = 0 := by
  induction vs with
  | nil => rfl
  | cons v vs ih =>
    unfold fchk
    rw [if_pos (h v (by simp))]
    exact ih fun u hu => h u (List.mem_cons_of_mem _ hu)
theorem fchk_at {vs : List Ch} : ∀ {k : Nat} {v : Ch}, vs[k]? = some v → chk v ≠ 0 → (∀ u ∈ vs.take k, chk u = 0) → fchk vs = chk v := by
  induction vs with
  | nil => intro k v h; simp at h
  | cons x vs ih =>
    intro k v h hv ht
    unfold fchk
    cases k with
    | zero =>
      obtain rfl : x = v := by simpa using h
      rw [if_neg hv]
    | succ k =>
      rw [if_pos (ht x (by simp))]
      exact ih (by simpa using h) hv (fun u hu => ht u (by simp [hu]))
/-- what Bundle tells: rows, a code -/
def BunO (m : Int) (vs : List Ch) (rs : List (List Ch)) (er : Int) : Prop :=
  ((m < 100 ∨ 1500 < m) → er = 1) ∧ (¬ (m < 100 ∨ 1500 < m) → (fchk vs ≠ 0 → er = fchk vs) ∧ ((∀ v ∈ vs, chk v = 0) → (∀ v ∈ vs, (clen v : Int) + 12 ≤ m) → er = 0) ∧ ((∀ v ∈ vs, chk v = 0) → (∃ v ∈ vs, m < (clen v : Int) + 12) → er = 2)) ∧
    (er ≠ 0 → rs = []) ∧ (er = 0 → rs = rowsOf (bun m vs) ∧ 100 ≤ m ∧ m ≤ 1500 ∧ (∀ v ∈ vs, chk v = 0) ∧ ∀ v ∈ vs, (clen v : Int) + 12 ≤ m)
theorem fchk_all {vs : List Ch} : fchk vs = 0 → ∀ v ∈ vs, chk v = 0 := by
  induction vs with
  | nil => intro _ v hv; cases hv
  | cons x vs ih =>
    intro h
    unfold fchk at h
    by_cases hx : chk x = 0
    · rw [if_pos hx] at h
      intro v hv
      rcases List.mem_cons.1 hv with rfl | hv
      · exact hx
      · exact ih h v hv
    · rw [if_neg hx] at h
      exact absurd h hx
theorem BunO.same {m : Int} {vs : List Ch} {rs rs' : List (List Ch)} {er er' : Int} (h : BunO m vs rs er) (h' : BunO m vs rs' er') : er = er' ∧ rs = rs' := by
  have e : er = er' := by
    by_cases hm : m < 100 ∨ 1500 < m
    · rw [h.1 hm, h'.1 hm]
    · obtain ⟨a1, a2, a3⟩ := h.2.1 hm
      obtain ⟨b1, b2, b3⟩ := h'.2.1 hm
      by_cases hf : fchk vs = 0
      · have hall := fchk_all hf
        by_cases hfit : ∀ v ∈ vs, (clen v : Int) + 12 ≤ m
        · rw [a2 hall hfit, b2 hall hfit]
        · obtain ⟨v, hv⟩ := Classical.not_forall.1 hfit
          obtain ⟨hv1, hv2⟩ := Classical.not_imp.1 hv
          rw [a3 hall ⟨v, hv1, by omega⟩, b3 hall ⟨v, hv1, by omega⟩]
      · rw [a1 hf, b1 hf]
  subst e
  refine ⟨rfl, ?_⟩
  by_cases he : er = 0
  · rw [(h.2.2.2 he).1, (h'.2.2.2 he).1]
  · rw [h.2.2.1 he, h'.2.2.1 he]
theorem BunO.one {m : Int} {vs : List Ch} (h : m < 100 ∨ 1500 < m) : BunO m vs [] 1 := ⟨fun _ => rfl, fun h' => absurd h h', fun _ => rfl, fun e => by cases e⟩
theorem BunO.bad {m : Int} {vs : List Ch} {k : Nat} {v : Ch} (hm : 100 ≤ m ∧ m ≤ 1500) (hk : vs[k]? = some v) (hv : chk v ≠ 0) (ht : ∀ u ∈ vs.take k, chk u = 0) : BunO m vs [] (chk v) := by
  have hf := fchk_at hk hv ht
  exact ⟨fun h => by omega, fun _ => ⟨fun _ => hf.symm, fun ha => absurd (ha v (List.mem_of_getElem? hk)) hv, fun ha => absurd (ha v (List.mem_of_getElem? hk)) hv⟩, fun _ => rfl, fun e => absurd e hv⟩
theorem BunO.long {m : Int} {vs : List Ch} {v : Ch} (hm : 100 ≤ m ∧ m ≤ 1500) (ha : ∀ v ∈ vs, chk v = 0) (hv : v ∈ vs) (hl : m < (clen v : Int) + 12) : BunO m vs [] 2 :=
  ⟨fun h => by omega, fun _ => ⟨fun h => absurd (fchk_none ha) h, fun _ hf => absurd (hf v hv) (by omega), fun _ _ => rfl⟩, fun _ => rfl, fun e => by cases e⟩
theorem BunO.good {m : Int} {vs : List Ch} (hm : 100 ≤ m ∧ m ≤ 1500) (ha : ∀ v ∈ vs, chk v = 0) (hf : ∀ v ∈ vs, (clen v : Int) + 12 ≤ m) : BunO m vs (rowsOf (bun m vs)) 0 :=
  ⟨fun h => by omega, fun _ => ⟨fun h => absurd (fchk_none ha) h, fun _ _ => rfl, fun _ ⟨v, hv, hl⟩ => absurd (hf v hv) (by omega)⟩, fun e => absurd rfl e, fun _ => ⟨rfl, hm.1, hm.2, ha, hf⟩⟩
theorem take_snoc {vs : List Ch} {k : Nat} {v : Ch} {P : Ch → Prop} (hk : vs[k]? = some v) (h : ∀ u ∈ vs.take k, P u) (hv : P v) : ∀ u ∈ vs.take (k + 1), P u := by
  intro u hu
  rw [List.take_add_one, hk] at hu
  rcases List.mem_append.1 hu with hu | hu
  · exact h u hu
  · obtain rfl : u = v := by simpa using hu
    exact hv
theorem RL.down {n n' : Nat} {v : Value} {R : List (Value × List Ck)} {w : World} (h : RL n n v R w) (hn : n' ≤ n) : RL n' n' v R w :=
  ⟨Crc.own_le h.1 hn, fun r hr => ⟨(h.2.1 r hr).1, Crc.own_le (h.2.1 r hr).2 hn⟩, h.2.2.1, fun r hr c hc => ⟨chk_mono (h.2.2.2 r hr c hc).1 hn, (h.2.2.2 r hr c hc).2⟩⟩
/-- what Bundle hands out -/
def BnE (n cb : Nat) (m : Int) (vs : List Ch) (w' : World) (e : Ending) : Prop := ∃ v R er, e = .returned (.tuple #[v, .int .i64 er]) ∧ RL n cb v R w' ∧ BunO m vs (rvs R) er
theorem BnE.none {n cb : Nat} {m : Int} {vs : List Ch} {w' : World} {er : Int} (h : BunO m vs [] er) : BnE n cb m vs w' (.returned (.tuple #[.slice .none 0 0, .int .i64 er])) := ⟨_, [], er, rfl, RL.nil _ _ _, h⟩
set_option maxHeartbeats 2000000 in
theorem bundle (base : Nat) (m : Int) (w : World) (la : Option Addr) (n lcap : Nat) (l : List Ck) (hl : Cks base w la n l) (hm : -9223372036854775808 ≤ m ∧ m ≤ 9223372036854775807) (hn : n * 152 ≤ 140737488351232) :
    Calls Tryz.prog 20 #[.int .i64 m, .slice la n lcap] w fun e w' => BnE w.heap.size w.heap.size m (l.map val) w' e ∧ Below w.heap.size w w' := by
  have HL := hidden hl
  have hll : (l.map val).length = n := by rw [List.length_map]; exact hl.1
  clear hl
  go_enter Tryz.func20, Tryz.ntmps20
  by_cases h1 : m < 100
  · go_wp2
    go_ret2
    exact ⟨BnE.none (.one (.inl h1)), Below.refl _ _⟩
  by_cases h2 : 1500 < m
  · go_wp2
    go_ret2
    exact ⟨BnE.none (.one (.inr h2)), Below.refl _ _⟩
  have hmm : 100 ≤ m ∧ m ≤ 1500 := by omega
  go_wp2_with fail
  go_loopw [19] (fun i wr => ∃ k : Nat, k ≤ n ∧ i = .int .i64 k ∧ (∀ v ∈ (l.map val).take k, chk v = 0) ∧ Below w.heap.size w wr) (fun i _ => n - (intOf i).toNat)
  case atStart => exact ⟨0, Nat.zero_le _, rfl, (fun p hp => by simp at hp), Below.refl _ _⟩
  case round =>
    obtain ⟨k, hk, rfl, hok, hb⟩ := hrel
    rcases Nat.lt_or_ge k n with hlt | hge
    · obtain ⟨b, off, c, rfl, hpk, l1, hcc⟩ := (HL.out.later hb).get hlt
      obtain ⟨W, hS, hbx, hbw⟩ := Chu.newvar wr c
      have d1 := hbx.ld
      have CK := hidden (Chu.check base c W (hcc.later hbw))
      have HB := hidden (hb.trans (hbw.mono hb.size))
      have HOK := hidden hok
      have hvk : (l.map val)[k]? = some (val c) := by rw [List.getElem?_map, hpk]; rfl
      have HVK := hidden hvk
      clear hpk hcc hb hbx hbw hok hvk
      go_wp2_with fail
      refine Calls.mono CK.out ?_
      rintro e w1 ⟨rfl, b1⟩
      have HB1 := hidden (HB.out.trans (b1.mono HB.out.size))
      clear b1 CK HB
      by_cases hz : chk (val c) = 0
      · have HZ := hidden hz
        rw [hz]
        clear hz
        go_wp2
        go_roundw
        case rel => exact ⟨k + 1, by omega, by go_num, take_snoc HVK.out HOK.out HZ.out, HB1.out⟩
        case measure => simp [intOf]; omega
      · have HBO := hidden (BunO.bad hmm HVK.out hz HOK.out)
        generalize chk (val c) = er at *
        go_wp2
        go_ret2
        exact ⟨BnE.none HBO.out, HB1.out⟩
    · obtain rfl : k = n := by omega
      rw [List.take_of_length_le (by omega)] at hok
      have HOK := hidden hok
      have HB0 := hidden hb
      obtain ⟨w0, rfl⟩ : ∃ x, x = wr := ⟨_, rfl⟩
      clear hok hb
      go_wp2_with fail
      go_loopw [31] (fun i wr => ∃ j : Nat, j ≤ k ∧ i = .int .i64 j ∧ (∀ v ∈ (l.map val).take j, (clen v : Int) + 12 ≤ m) ∧ Below w.heap.size w wr) (fun i _ => k - (intOf i).toNat)
      case atStart => exact ⟨0, Nat.zero_le _, rfl, (fun p hp => by simp at hp), HB0.out⟩
      case round =>
        obtain ⟨j, hj, rfl, hfit, hb⟩ := hrel
        rcases Nat.lt_or_ge j k with hlt | hge
        · obtain ⟨b, off, c, rfl, hpk, l1, hcc⟩ := (HL.out.later hb).get hlt
          have hvk : (l.map val)[j]? = some (val c) := by rw [List.getElem?_map, hpk]; rfl
          have hck : chk (val c) = 0 := HOK.out _ (List.mem_of_getElem? hvk)
          have hcs : Chu.csize (val c) = clen (val c) := by unfold Chu.csize; rw [if_pos hck]
          have hle := Chu.clen_le hck
          obtain ⟨W, hS, hbx, hbw⟩ := Chu.newvar wr c
          have d1 := hbx.ld
          have CK := hidden (Chu.size_ base c W (hcc.later hbw))
          rw [hcs] at CK
          have HB := hidden (hb.trans (hbw.mono hb.size))
          have HFI := hidden hfit
          have HVK := hidden hvk
          clear hpk hcc hb hbx hbw hfit hvk hcs hck
          generalize hcv : clen (val c) = N at *
          have HN := hidden hcv
          clear hcv
          go_wp2_with fail
          refine Calls.mono CK.out ?_
          rintro e w1 ⟨rfl, b1⟩
          have HB1 := hidden (HB.out.trans (b1.mono HB.out.size))
          clear b1 CK HB
          by_cases hz : m < 12 + (N : Int)
          · have HBO := hidden (BunO.long (vs := l.map val) hmm HOK.out (List.mem_of_getElem? HVK.out) (by rw [HN.out]; omega))
            go_wp2
            go_ret2
            exact ⟨BnE.none HBO.out, HB1.out⟩
          · have HZ := hidden (show (clen (val c) : Int) + 12 ≤ m by rw [HN.out]; omega)
            go_wp2
            go_roundw
            case rel => exact ⟨j + 1, by omega, by go_num, take_snoc HVK.out HFI.out HZ.out, HB1.out⟩
            case measure => simp [intOf]; omega
        · obtain rfl : j = k := by omega
          rw [List.take_of_length_le (by omega)] at hfit
          have HFI := hidden hfit
          have RW := hidden (rows base m wr la j lcap l (HL.out.later hb) (fun c hc => HOK.out _ (List.mem_map.2 ⟨c, hc, rfl⟩)) (fun c hc => hfit _ (List.mem_map.2 ⟨c, hc, rfl⟩)) (by omega) hmm.2 hn)
          have HB := hidden hb
          clear hfit hb
          go_wp2_with fail
          refine Calls.mono RW.out ?_
          rintro e w1 ⟨v, R, rfl, hR, hv, b1⟩
          have HB1 := hidden (HB.out.trans (b1.mono HB.out.size))
          have HR := hidden (hR.down HB.out.size)
          have HBO := hidden (BunO.good (vs := l.map val) hmm HOK.out HFI.out)
          rw [← hv] at HBO
          clear b1 hR hv RW
          go_wp2
          go_ret2
          exact ⟨⟨v, R, 0, rfl, HR.out, HBO.out⟩, HB1.out⟩
end Go.Proofs.YtmnndkhdekpecaaGreatDoor.Pkt
