/-
  Rows of chunks in memory: a list of rows, each its own block.
  Conditions: as at each lemma.
-/
import Derived.Test.YtmnndkhdekpecaaGreatDoorPkQ
namespace Go.Proofs.YtmnndkhdekpecaaGreatDoor.Pkt
open Go.ChangeShapes Go.WideShapes Go.ChangeAt Go.RowKit
open Chu (Ch Ck Cks Chk val cv cc ccs ld Lies Lsts Gaps Fours Bx gcs dcs zck Nums Av AvC gr_set gr_trans gr_own gr_below)
open Par (hidden Bytes Row Prm Prms One cell_lt)
set_option linter.unusedVariables false
set_option maxRecDepth 20000

theorem own_obj {w : World} {base E s n : Nat} {v : Value} {xs : List Value} (h : w.ownsRow base E s v n xs) : v.ownBlock = none ∨ ∃ g cur, v.ownBlock = some g ∧ w.heap[g]? = some (.cells cur E (0, 0)) ∧ base ≤ g := by
  rcases h.2 with ⟨rfl, _⟩ | ⟨g, cap, cur, rfl, hb, hg, _⟩
  · exact .inl rfl
  · exact .inr ⟨g, cur, rfl, hg, hb⟩
theorem own_diff {w : World} {base base' E E' s s' n n' : Nat} {v v' : Value} {xs xs' : List Value} (h : w.ownsRow base E s v n xs) (h' : w.ownsRow base' E' s' v' n' xs') (hE : E ≠ E') : v.ownBlock = none ∨ v.ownBlock ≠ v'.ownBlock := by
  rcases own_obj h with h0 | ⟨g, cur, e, hg, _⟩
  · exact .inl h0
  · right
    rw [e]
    intro e'
    rcases own_obj h' with h0 | ⟨g', cur', e2, hg', _⟩
    · rw [h0] at e'; cases e'
    · rw [e2] at e'
      cases e'
      rw [hg] at hg'
      cases hg'
      exact hE rfl
theorem own_some {w : World} {base E s n : Nat} {v : Value} {xs : List Value} (h : w.ownsRow base E s v n xs) (hn : 0 < n) : ∃ g cap, v = .slice (some ⟨g, 0, none⟩) n cap ∧ v.ownBlock = some g ∧ base ≤ g ∧ g < w.heap.size := by
  rcases h.2 with ⟨_, h0⟩ | ⟨g, cap, cur, e, hb, hg, _⟩
  · omega
  · exact ⟨g, cap, e, by rw [e]; rfl, hb, (Array.getElem?_eq_some_iff.1 hg).1⟩
theorem own_old {w w' : World} {base E s n : Nat} {v : Value} {xs : List Value} (h : w.ownsRow base E s v n xs) {m : Nat} (hm : w.heap.size ≤ m) : v.ownBlock ≠ some m := by
  intro e
  have := (h.lt m e).2
  omega
/-- chunks that are new lie elsewhere than rows that are old -/
theorem av_old {w w1 : World} {base E s n : Nat} {v : Value} {xs : List Value} {c : Ck} (h : w.ownsRow base E s v n xs) (hc : Lsts w.heap.size w1 c) : AvC v.ownBlock c :=
  Chu.avC_of hc (fun b u off hb _ e => by have := (h.lt b e.symm).2; omega)
theorem avc_none (c : Ck) : AvC none c := by
  have h : ∀ a n, Av none a n := fun a n => .inr (fun _ _ _ _ e => by cases e)
  exact ⟨h _ _, h _ _, h _ _, h _ _, h _ _, fun p _ => h _ _⟩
theorem av_own {w : World} {n base E s m : Nat} {v : Value} {xs : List Value} {c : Ck} (h : w.ownsRow base E s v m xs) (hn : n ≤ base) (ha : ∀ g, n ≤ g → g < w.heap.size → AvC (some g) c) : AvC v.ownBlock c := by
  cases e : v.ownBlock with
  | none => exact avc_none c
  | some g => exact ha g (Nat.le_trans hn (h.lt g e).1) (h.lt g e).2
/-- rows of chunks in memory -/
def RL (n cb : Nat) (v : Value) (R : List (Value × List Ck)) (w : World) : Prop :=
  w.ownsRow n 24 1 v R.length (R.map (·.1)) ∧ (∀ r ∈ R, r.2 ≠ [] ∧ w.ownsRow n 59 15 r.1 r.2.length (ccs r.2)) ∧ (R.map (·.1.ownBlock)).Nodup ∧
    ∀ r ∈ R, ∀ c ∈ r.2, Chk cb w c ∧ AvC v.ownBlock c ∧ ∀ q ∈ R, AvC q.1.ownBlock c
theorem RL.nil (n cb : Nat) (w : World) : RL n cb (.slice none 0 0) [] w := ⟨World.ownsRow_nil _ _ _ _, (fun r hr => by cases hr), List.nodup_nil, (fun r hr => by cases hr)⟩
theorem RL.later {n cb : Nat} {v : Value} {R : List (Value × List Ck)} {w w' : World} (h : RL n cb v R w) (hb : Below w.heap.size w w') : RL n cb v R w' :=
  ⟨ownLater h.1 hb, fun r hr => ⟨(h.2.1 r hr).1, ownLater (h.2.1 r hr).2 hb⟩, h.2.2.1, fun r hr c hc => ⟨(h.2.2.2 r hr c hc).1.later hb, (h.2.2.2 r hr c hc).2⟩⟩
theorem chk_mono {base base' : Nat} {w : World} {c : Ck} (h : Chk base w c) (hb : base' ≤ base) : Chk base' w c := ⟨h.1, h.2.mono hb⟩
theorem ccs_one (c : Ck) : ccs [c] = (cc c).toList := by simp [ccs]
theorem ccs_snoc (l : List Ck) (c : Ck) : ccs (l ++ [c]) = ccs l ++ (cc c).toList := by simp [ccs]
theorem RL.push {n cb : Nat} {v v3 rv : Value} {R : List (Value × List Ck)} {w w1 w3 : World} {c : Ck} (h : RL n cb v R w) (hn : n ≤ w.heap.size) (hb : Below w.heap.size w w1) (hc : Chk cb w1 c) (ha : ∀ g, n ≤ g → g < w.heap.size → AvC (some g) c) (hr : w1.ownsRow w.heap.size 59 15 rv 1 (cc c).toList) (hrc : AvC rv.ownBlock c)
    (ho : w3.ownsRow n 24 1 v3 (R.length + 1) (R.map (·.1) ++ [rv])) (hg : w1.grownBy w3 v.ownBlock) (hw : v3.ownBlock = v.ownBlock ∨ v3.ownBlock = some w1.heap.size) : RL n cb v3 (R ++ [(rv, [c])]) w3 := by
  have h1 := h.later hb
  obtain ⟨g, cap, erv, eb, hg1, hg2⟩ := own_some hr (by decide)
  have hrv : ∀ d, Chk cb w d → AvC rv.ownBlock d := fun d hd => Chu.avC_of hd.2 (fun b u off _ hcell e => by
    rw [eb] at e
    cases e
    have := cell_lt hcell
    simp only at this
    omega)
  have hv3 : ∀ d, Lsts 0 w1 d → AvC v.ownBlock d → AvC v3.ownBlock d := by
    intro d hd hv
    rcases hw with e | e
    · rw [e]; exact hv
    · rw [e]
      exact Chu.avC_of hd (fun b u off _ hcell e => by cases e; exact absurd (cell_lt hcell) (Nat.lt_irrefl _))
  have hvc : AvC v.ownBlock c := av_own h.1 (Nat.le_refl _) ha
  refine ⟨by simpa using ho, ?_, ?_, ?_⟩
  · intro r hr'
    rcases List.mem_append.1 hr' with hr' | hr'
    · exact ⟨(h.2.1 r hr').1, (h1.2.1 r hr').2.kept hg (own_diff (h1.2.1 r hr').2 h1.1 (by decide))⟩
    · obtain rfl := List.mem_singleton.1 hr'
      refine ⟨by simp, ?_⟩
      rw [ccs_one]
      exact Crc.own_le (hr.kept hg (own_diff hr h1.1 (by decide))) hn
  · rw [List.map_append]
    refine List.nodup_append.2 ⟨h.2.2.1, by simp, ?_⟩
    intro a ha b hb' e
    obtain ⟨r, hr', rfl⟩ := List.mem_map.1 ha
    have : b = rv.ownBlock := by simpa using hb'
    rw [this, eb] at e
    have := ((h.2.1 r hr').2.lt g e).2
    omega
  · intro r hr' d hd
    rcases List.mem_append.1 hr' with hr' | hr'
    · obtain ⟨q1, q2, q3⟩ := h.2.2.2 r hr' d hd
      have q1' := q1.later hb
      refine ⟨⟨q1.1, Chu.lsts_gr q1'.2 q2 hg⟩, hv3 d (q1'.2.mono (Nat.zero_le _)) q2, fun q hq => ?_⟩
      rcases List.mem_append.1 hq with hq | hq
      · exact q3 q hq
      · obtain rfl := List.mem_singleton.1 hq
        exact hrv d q1
    · obtain rfl := List.mem_singleton.1 hr'
      obtain rfl := List.mem_singleton.1 hd
      refine ⟨⟨hc.1, Chu.lsts_gr hc.2 hvc hg⟩, hv3 d (hc.2.mono (Nat.zero_le _)) hvc, fun q hq => ?_⟩
      rcases List.mem_append.1 hq with hq | hq
      · exact av_own (h.2.1 q hq).2 (Nat.le_refl _) ha
      · obtain rfl := List.mem_singleton.1 hq
        exact hrc
theorem RL.grow {n cb g cap : Nat} {rv rv2 : Value} {R : List (Value × List Ck)} {l : List Ck} {w w1 w2 : World} {c : Ck} (h : RL n cb (.slice (some ⟨g, 0, none⟩) (R.length + 1) cap) (R ++ [(rv, l)]) w) (hb : Below w.heap.size w w1) (hc : Chk cb w1 c) (ha : ∀ g, n ≤ g → g < w.heap.size → AvC (some g) c)
    (ho : w2.ownsRow n 59 15 rv2 (l.length + 1) (ccs l ++ (cc c).toList)) (hg : w1.grownBy w2 rv.ownBlock) (hw : rv2.ownBlock = rv.ownBlock ∨ rv2.ownBlock = some w1.heap.size) :
    RL n cb (.slice (some ⟨g, 0, none⟩) (R.length + 1) cap) (R ++ [(rv2, l ++ [c])]) (w2.setCell ⟨g, R.length, none⟩ rv2) := by
  have h1 := h.later hb
  have hlast : (rv, l) ∈ R ++ [(rv, l)] := by simp
  have hrow := h.2.1 _ hlast
  have hrow1 := h1.2.1 _ hlast
  simp only at hrow hrow1
  have hlen : (R ++ [(rv, l)]).length = R.length + 1 := by simp
  have hL := h1.1
  rw [hlen, List.map_append] at hL
  have hL2 := hL.kept hg (own_diff hL hrow1.2 (by decide))
  have hst := hL2.stored R.length rv2
  have hgs := hst.2
  have hL3 := hst.1
  rw [List.set_append_right _ _ (by simp)] at hL3
  simp only [List.length_map, Nat.sub_self, List.map_cons, List.map_nil, List.set_cons_zero] at hL3
  have hnd := h.2.2.1
  rw [List.map_append] at hnd
  obtain ⟨nd1, _, nd2⟩ := List.nodup_append.1 hnd
  have hne : ∀ r ∈ R, r.1.ownBlock ≠ rv.ownBlock := fun r hr => nd2 _ (List.mem_map.2 ⟨r, hr, rfl⟩) _ (by simp)
  have hrvc : AvC rv.ownBlock c := av_own hrow.2 (Nat.le_refl _) ha
  have hvc : AvC (some g) c := av_own (v := .slice (some ⟨g, 0, none⟩) (R.length + 1) cap) h.1 (Nat.le_refl _) ha
  have hrv2 : ∀ d, Lsts 0 w1 d → AvC rv.ownBlock d → AvC rv2.ownBlock d := by
    intro d hd hv
    rcases hw with e | e
    · rw [e]; exact hv
    · rw [e]
      exact Chu.avC_of hd (fun b u off _ hcell e => by cases e; exact absurd (cell_lt hcell) (Nat.lt_irrefl _))
  refine ⟨?_, ?_, ?_, ?_⟩
  · rw [List.length_append, List.map_append]
    exact hL3
  · intro r hr'
    rcases List.mem_append.1 hr' with hr' | hr'
    · have k1 := h1.2.1 r (List.mem_append_left _ hr')
      have k2 := k1.2.kept hg (.inr (hne r hr'))
      exact ⟨k1.1, k2.kept hgs (own_diff k2 hL2 (by decide))⟩
    · obtain rfl := List.mem_singleton.1 hr'
      refine ⟨by simp, ?_⟩
      simp only
      rw [ccs_snoc, List.length_append]
      exact ho.kept hgs (own_diff ho hL2 (by decide))
  · rw [List.map_append]
    refine List.nodup_append.2 ⟨nd1, by simp, ?_⟩
    intro a ha b hb' e
    obtain ⟨r, hr', rfl⟩ := List.mem_map.1 ha
    have : b = rv2.ownBlock := by simpa using hb'
    rw [this] at e
    rcases hw with e2 | e2
    · exact hne r hr' (e.trans e2)
    · rw [e2] at e
      have := ((h1.2.1 r (List.mem_append_left _ hr')).2.lt _ e).2
      omega
  · have key : ∀ d, Chk cb w1 d → AvC (some g) d → AvC rv.ownBlock d → (∀ q ∈ R, AvC q.1.ownBlock d) → Chk cb (w2.setCell ⟨g, R.length, none⟩ rv2) d ∧ AvC (some g) d ∧ ∀ q ∈ R ++ [(rv2, l ++ [c])], AvC q.1.ownBlock d := by
      intro d q1 q2 q3 q4
      refine ⟨⟨q1.1, Chu.lsts_gr (Chu.lsts_gr q1.2 q3 hg) q2 hgs⟩, q2, fun q hq => ?_⟩
      rcases List.mem_append.1 hq with hq | hq
      · exact q4 q hq
      · obtain rfl := List.mem_singleton.1 hq
        exact hrv2 d (q1.2.mono (Nat.zero_le _)) q3
    have old : ∀ r ∈ R ++ [(rv, l)], ∀ d ∈ r.2, Chk cb (w2.setCell ⟨g, R.length, none⟩ rv2) d ∧ AvC (some g) d ∧ ∀ q ∈ R ++ [(rv2, l ++ [c])], AvC q.1.ownBlock d := by
      intro r hr' d hd
      obtain ⟨q1, q2, q3⟩ := h1.2.2.2 r hr' d hd
      exact key d q1 q2 (q3 _ hlast) (fun q hq => q3 q (List.mem_append_left _ hq))
    intro r hr' d hd
    rcases List.mem_append.1 hr' with hr' | hr'
    · exact old r (List.mem_append_left _ hr') d hd
    · obtain rfl := List.mem_singleton.1 hr'
      rcases List.mem_append.1 hd with hd | hd
      · exact old _ hlast d hd
      · obtain rfl := List.mem_singleton.1 hd
        exact key d hc hvc hrvc (fun q hq => av_own (h.2.1 q (List.mem_append_left _ hq)).2 (Nat.le_refl _) ha)
end Go.Proofs.YtmnndkhdekpecaaGreatDoor.Pkt
