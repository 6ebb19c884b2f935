/-
  Which streams had their turn: the law's own rows of numbers and marks.
  Conditions: as at each lemma.
-/
import Derived.Test.YtfgoamfoddkafaaSqL
namespace Go.Proofs.Ytfgoamfoddkafaa.Sq
open Go.ChangeShapes Go.WideShapes Go.ChangeAt Go.RowKit
open Ba (hidden Has Only cell_lt heap_lt)
open Ow (Bk)
set_option linter.unusedVariables false

/-- how many messages of a lane are not begun -/
def cntB (L : List Rest) : Nat := (L.filter (·.bg)).length
theorem cntB_pos {L : List Rest} (h : 0 < cntB L) : L ≠ [] := fun e => by rw [e] at h; exact absurd h (by decide)
/-- the way from one stream on to another one -/
def dis (a b : Nat) : Nat := (b + 8 - a) % 8
/-- a stream that was not begun since another one's turn lies ahead -/
def FairP (L : Nat) (lf : Nat → Int) (sv : Nat → Option (Nat × (Nat → Bool))) : Prop := ∀ s o b f, s < 8 → o < 8 → o ≠ s → 0 < lf o → sv s = some (b, f) → f o = true ∨ dis s L < dis s o
theorem nxt_pos {S : St} (hn : S.n = 8) {s : Nat} (hx : nxt S = some s) : ∃ k, k < 8 ∧ s = (fst S + k) % 8 ∧ ∀ o, o < 8 → S.R o ≠ [] → ∃ j, j < 8 ∧ k ≤ j ∧ o = (fst S + j) % 8 := by
  unfold nxt at hx
  rw [Option.map_eq_some_iff] at hx
  obtain ⟨k, hk, rfl⟩ := hx
  rw [List.find?_range_eq_some] at hk
  obtain ⟨h1, h2, h3⟩ := hk
  refine ⟨k, by rw [← hn]; exact List.mem_range.1 h2, by unfold od; rw [hn], fun o ho hR => ?_⟩
  obtain ⟨j, hj, e⟩ := od_all (S := S) (i := o) (by omega)
  refine ⟨j, by omega, ?_, by rw [← e]; unfold od; rw [hn]⟩
  rcases Nat.lt_or_ge j k with h | h
  · have := h3 j h
    rw [e] at this
    cases hh : S.R o with
    | nil => exact absurd hh hR
    | cons a l => rw [hh] at this; cases this
  · exact h
theorem fair_check {S : St} (hn : S.n = 8) (hl : S.last < 8) (hb : S.bgn = false) {s : Nat} (hx : nxt S = some s) {lf : Nat → Int} (hlf : ∀ o, o < 8 → lf o = cntB (S.R o)) {sv : Nat → Option (Nat × (Nat → Bool))} (hf : FairP S.last lf sv) {b : Nat} {f : Nat → Bool} (hs : s < 8) (hsv : sv s = some (b, f)) {o : Nat} (ho : o < 8) (hne : o ≠ s) (hp : 0 < lf o) : f o = true := by
  rcases hf s o b f hs ho hne hp hsv with h | h
  · exact h
  · exfalso
    obtain ⟨k, hk, e1, h2⟩ := nxt_pos hn hx
    obtain ⟨j, hj, hkj, e2⟩ := h2 o ho (cntB_pos (by have := hlf o ho; omega))
    have hfst : fst S = S.last + 1 := by unfold fst; rw [hb]; rfl
    rw [hfst] at e1 e2
    unfold dis at h
    omega
/-- the marks behind a turn -/
def svN (sv : Nat → Option (Nat × (Nat → Bool))) (s bn : Nat) : Nat → Option (Nat × (Nat → Bool)) := up (fun i => (sv i).map fun p => (p.1, up p.2 s true)) s (some (bn, fun _ => false))
theorem fair_next {S : St} (hn : S.n = 8) (hl : S.last < 8) (hb : S.bgn = false) {s : Nat} (hs : s < 8) (hx : nxt S = some s) {lf : Nat → Int} (hlf : ∀ o, o < 8 → lf o = cntB (S.R o)) {sv : Nat → Option (Nat × (Nat → Bool))} (hf : FairP S.last lf sv) (bn : Nat) : FairP s (up lf s (lf s - 1)) (svN sv s bn) := by
  intro i o b f hi ho hne hp hsv
  unfold svN at hsv
  by_cases e : i = s
  · subst e
    right
    unfold dis
    omega
  · rw [up_ne _ _ e] at hsv
    rw [Option.map_eq_some_iff] at hsv
    obtain ⟨⟨b', f'⟩, h1, h2⟩ := hsv
    simp only [Prod.mk.injEq] at h2
    obtain ⟨rfl, rfl⟩ := h2
    by_cases e' : o = s
    · subst e'
      exact .inl (up_same _ _ _)
    · rw [up_ne _ _ e'] at hp
      rw [up_ne _ _ e']
      rcases hf i o b' f' hi ho hne hp h1 with h | h
      · exact .inl h
      · right
        obtain ⟨k, hk, e1, h2⟩ := nxt_pos hn hx
        obtain ⟨j, hj, hkj, e2⟩ := h2 o ho (cntB_pos (by have := hlf o ho; omega))
        have hfst : fst S = S.last + 1 := by unfold fst; rw [hb]; rfl
        rw [hfst] at e1 e2
        unfold dis at h ⊢
        omega
theorem cntB_take {S : St} (hg : Good S) {i : Nat} {r : Rest} {rs : List Rest} {n : Int} (hR : S.R i = r :: rs) (o : Nat) : cntB ((takeS S i r rs n).R o) + (if o = i ∧ r.bg = true then 1 else 0) = cntB (S.R o) := by
  show cntB (up S.R i _ o) + _ = _
  by_cases e : o = i
  · subst e
    rw [up_same, hR]
    have hl : cntB (left r (S.sn o) n ++ rs) = cntB rs := by
      unfold cntB
      by_cases h : (r.d.length : Int) ≤ n
      · rw [left_all h]; rfl
      · rw [left_some h]; rfl
    rw [hl]
    unfold cntB
    cases hb : r.bg <;> simp [hb]
  · rw [up_ne _ _ e, if_neg (fun h => e h.1)]
    rfl
theorem cntB_push {S : St} (i : Nat) (pr : Int) (un : Bool) (d : List Int) (o : Nat) : cntB ((pushS S i pr un d).R o) = cntB (S.R o) + (if o = i then 1 else 0) := by
  show cntB (up S.R i _ o) = _
  by_cases e : o = i
  · subst e
    rw [up_same, if_pos rfl]
    unfold cntB
    rw [List.filter_append, List.length_append]
    rfl
  · rw [up_ne _ _ e, if_neg e]
    rfl

/-- eight of a kind in memory -/
def r8 (f : Nat → Value) : Array Value := #[f 0, f 1, f 2, f 3, f 4, f 5, f 6, f 7]
theorem r8_at (f : Nat → Value) {i : Nat} (hi : i < 8) : (r8 f)[i]? = some (f i) := by
  rcases (show i = 0 ∨ i = 1 ∨ i = 2 ∨ i = 3 ∨ i = 4 ∨ i = 5 ∨ i = 6 ∨ i = 7 by omega) with rfl | rfl | rfl | rfl | rfl | rfl | rfl | rfl <;> rfl
theorem r8_set (f : Nat → Value) {i : Nat} (hi : i < 8) (v : Value) : (r8 f).setIfInBounds i v = r8 (up f i v) := by
  rcases (show i = 0 ∨ i = 1 ∨ i = 2 ∨ i = 3 ∨ i = 4 ∨ i = 5 ∨ i = 6 ∨ i = 7 by omega) with rfl | rfl | rfl | rfl | rfl | rfl | rfl | rfl <;> rfl
def sl8 : Option (Nat × (Nat → Bool)) → Value
  | none => .slice none 0 0
  | some p => .slice (some ⟨p.1, 0, none⟩) 8 8
/-- the law's queue, numbers and marks -/
structure Fw (w0 w : World) (t bl bs : Nat) (S : St) (F : Nat → Prop) (lf : Nat → Int) (sv : Nat → Option (Nat × (Nat → Bool))) : Prop where
  cd : Cd (fun _ => True) w t S F
  fb : ∀ k, F k → w0.heap.size ≤ k
  bw : Below w0.heap.size w0 w
  b1 : w0.heap.size ≤ bl
  b2 : w0.heap.size ≤ bs
  hl : Has w bl (r8 fun i => .int .i64 (lf i)) 3
  hs : Has w bs (r8 fun i => sl8 (sv i)) 50
  hi : ∀ i b f, i < 8 → sv i = some (b, f) → w0.heap.size ≤ b ∧ Has w b (r8 fun j => .bool (f j)) 4
  ap : ∀ i j b f g, i < 8 → j < 8 → sv i = some (b, f) → sv j = some (b, g) → i = j
section
variable {w0 w w' : World} {t bl bs : Nat} {S S' : St} {F F' : Nat → Prop} {lf : Nat → Int} {sv : Nat → Option (Nat × (Nat → Bool))}
theorem Fw.step (h : Fw w0 w t bl bs S F lf sv) (hm : Mod F w w') (hc : Cd (fun _ => True) w' t S' F') (hF : ∀ k, F' k → F k ∨ w.heap.size ≤ k) : Fw w0 w' t bl bs S' F' lf sv := by
  have hk : ∀ {b : Nat} {cs : Array Value} {ty : TypeId}, Has w b cs ty → ty ≠ 57 → ty ≠ 71 → ty ≠ 44 → Has w' b cs ty := fun {b cs ty} hh h1 h2 h3 => hm.has hh (fun hf => by
    obtain ⟨cs', ty', hh', ht⟩ := h.cd.type hf
    have := has_type hh hh'
    subst this
    rcases ht with e | e | e
    · exact h1 e
    · exact h2 e
    · exact h3 e)
  exact ⟨hc, fun k hk => (hF k hk).elim (h.fb k) (fun h1 => Nat.le_trans h.bw.size h1), h.bw.trans (hm.below h.bw.size h.fb), h.b1, h.b2, hk h.hl (by decide) (by decide) (by decide), hk h.hs (by decide) (by decide) (by decide), fun i b f hi hs => ⟨(h.hi i b f hi hs).1, hk (h.hi i b f hi hs).2 (by decide) (by decide) (by decide)⟩, h.ap⟩
theorem Fw.later (h : Fw w0 w t bl bs S F lf sv) (hB : Below w.heap.size w w') : Fw w0 w' t bl bs S F lf sv :=
  ⟨h.cd.later hB, h.fb, h.bw.trans (hB.mono h.bw.size), h.b1, h.b2, h.hl.later hB, h.hs.later hB, fun i b f hi hs => ⟨(h.hi i b f hi hs).1, (h.hi i b f hi hs).2.later hB⟩, h.ap⟩
/-- a block that is none of the queue's turns: the queue stays -/
theorem Cd.other {D F : Nat → Prop} {w w' : World} {t : Nat} {S : St} {g : Nat} {cur : Array Value} {ty : TypeId} (h : Cd D w t S F) (hg : Has w g cur ty) (h1 : ty ≠ 57) (h2 : ty ≠ 71) (h3 : ty ≠ 44) (h5 : ty ≠ 5) (hm : Mod (fun k => k = g) w w') : Cd D w' t S F :=
  h.stay hm (fun k hk e => by
    subst e
    obtain ⟨cs, ty', hh, ht⟩ := h.type hk
    have := has_type hg hh
    subst this
    rcases ht with e | e | e
    · exact h1 e
    · exact h2 e
    · exact h3 e) (fun k cur hd hh e => by
    subst e
    exact h5 (has_type hg hh))
theorem Fw.setL (h : Fw w0 w t bl bs S F lf sv) {i : Nat} (hi : i < 8) (x : Int) : Fw w0 (w.setCell ⟨bl, i, none⟩ (.int .i64 x)) t bl bs S F (up lf i x) sv := by
  have hm : Mod (fun k => k = bl) w (w.setCell ⟨bl, i, none⟩ (.int .i64 x)) := Mod.setCell (F := fun k => k = bl) w (p := ⟨bl, i, none⟩) rfl _
  refine ⟨h.cd.other h.hl (by decide) (by decide) (by decide) (by decide) hm, h.fb, h.bw.setCell (p := ⟨bl, i, none⟩) h.b1 _, h.b1, h.b2, ?_, hm.has h.hs (fun e => by subst e; exact h.hs.ne h.hl (by decide) rfl), fun j b f hj hs => ⟨(h.hi j b f hj hs).1, hm.has (h.hi j b f hj hs).2 (fun e => by subst e; exact (h.hi j b f hj hs).2.ne h.hl (by decide) rfl)⟩, h.ap⟩
  have := h.hl.set i (.int .i64 x)
  rw [r8_set _ hi] at this
  have e : (up (fun j => Value.int .i64 (lf j)) i (.int .i64 x)) = fun j => .int .i64 (up lf i x j) := by
    funext j
    unfold up
    split <;> rfl
  rw [e] at this
  exact this
/-- one mark -/
theorem Fw.mark (h : Fw w0 w t bl bs S F lf sv) {i s b : Nat} {f : Nat → Bool} (hi : i < 8) (hs : s < 8) (hsv : sv i = some (b, f)) : Fw w0 (w.setCell ⟨b, s, none⟩ (.bool true)) t bl bs S F lf (up sv i (some (b, up f s true))) := by
  obtain ⟨hb, hh⟩ := h.hi i b f hi hsv
  have hm : Mod (fun k => k = b) w (w.setCell ⟨b, s, none⟩ (.bool true)) := Mod.setCell (F := fun k => k = b) w (p := ⟨b, s, none⟩) rfl _
  refine ⟨h.cd.other hh (by decide) (by decide) (by decide) (by decide) hm, h.fb, h.bw.setCell (p := ⟨b, s, none⟩) hb _, h.b1, h.b2, hm.has h.hl (fun e => by subst e; exact hh.ne h.hl (by decide) rfl), ?_, fun j b' f' hj hs' => ?_, fun j j' b' f' g' hj hj' h1 h2 => ?_⟩
  · have := hm.has h.hs (fun e => by subst e; exact hh.ne h.hs (by decide) rfl)
    have e : (fun j => sl8 (up sv i (some (b, up f s true)) j)) = fun j => sl8 (sv j) := by
      funext j
      unfold up
      split
      · next e => rw [e, hsv]; rfl
      · rfl
    rw [e]
    exact this
  · by_cases e : j = i
    · subst e
      rw [up_same] at hs'
      simp only [Option.some.injEq, Prod.mk.injEq] at hs'
      obtain ⟨rfl, rfl⟩ := hs'
      refine ⟨hb, ?_⟩
      have := hh.set s (.bool true)
      rw [r8_set _ hs] at this
      have e : (up (fun j => Value.bool (f j)) s (.bool true)) = fun j => .bool (up f s true j) := by
        funext j
        unfold up
        split <;> rfl
      rw [e] at this
      exact this
    · rw [up_ne _ _ e] at hs'
      obtain ⟨k1, k2⟩ := h.hi j b' f' hj hs'
      exact ⟨k1, hm.has k2 (fun e2 => by subst e2; exact e (h.ap j i _ _ _ hj hi hs' hsv))⟩
  · have hback : ∀ m c fm, up sv i (some (b, up f s true)) m = some (c, fm) → ∃ fm', sv m = some (c, fm') := fun m c fm hm => by
      by_cases e : m = i
      · subst e
        rw [up_same] at hm
        simp only [Option.some.injEq, Prod.mk.injEq] at hm
        exact ⟨f, by rw [← hm.1]; exact hsv⟩
      · rw [up_ne _ _ e] at hm
        exact ⟨fm, hm⟩
    obtain ⟨_, q1⟩ := hback _ _ _ h1
    obtain ⟨_, q2⟩ := hback _ _ _ h2
    exact h.ap j j' _ _ _ hj hj' q1 q2
/-- new marks -/
theorem Fw.fresh (h : Fw w0 w t bl bs S F lf sv) {s bn : Nat} (hs : s < 8) (hb0 : w0.heap.size ≤ bn) (hn : Has w bn (r8 fun _ => .bool false) 4) (hnew : ∀ j b f, j < 8 → sv j = some (b, f) → b ≠ bn) : Fw w0 (w.setCell ⟨bs, s, none⟩ (.slice (some ⟨bn, 0, none⟩) 8 8)) t bl bs S F lf (up sv s (some (bn, fun _ => false))) := by
  have hm : Mod (fun k => k = bs) w (w.setCell ⟨bs, s, none⟩ (.slice (some ⟨bn, 0, none⟩) 8 8)) := Mod.setCell (F := fun k => k = bs) w (p := ⟨bs, s, none⟩) rfl _
  refine ⟨h.cd.other h.hs (by decide) (by decide) (by decide) (by decide) hm, h.fb, h.bw.setCell (p := ⟨bs, s, none⟩) h.b2 _, h.b1, h.b2, hm.has h.hl (fun e => by subst e; exact h.hs.ne h.hl (by decide) rfl), ?_, fun j b f hj hs' => ?_, fun j j' b f g hj hj' h1 h2 => ?_⟩
  · have := h.hs.set s (.slice (some ⟨bn, 0, none⟩) 8 8)
    rw [r8_set _ hs] at this
    have e : (up (fun j => sl8 (sv j)) s (.slice (some ⟨bn, 0, none⟩) 8 8)) = fun j => sl8 (up sv s (some (bn, fun _ => false)) j) := by
      funext j
      unfold up
      split <;> rfl
    rw [e] at this
    exact this
  · by_cases e : j = s
    · subst e
      rw [up_same] at hs'
      simp only [Option.some.injEq, Prod.mk.injEq] at hs'
      obtain ⟨rfl, rfl⟩ := hs'
      exact ⟨hb0, hm.has hn (fun e => by subst e; exact hn.ne h.hs (by decide) rfl)⟩
    · rw [up_ne _ _ e] at hs'
      obtain ⟨k1, k2⟩ := h.hi j b f hj hs'
      exact ⟨k1, hm.has k2 (fun e => by subst e; exact k2.ne h.hs (by decide) rfl)⟩
  · by_cases e : j = s
    · by_cases e' : j' = s
      · rw [e, e']
      · subst e
        rw [up_same] at h1
        simp only [Option.some.injEq, Prod.mk.injEq] at h1
        rw [up_ne _ _ e', ← h1.1] at h2
        exact absurd rfl (hnew j' _ _ hj' h2)
    · rw [up_ne _ _ e] at h1
      by_cases e' : j' = s
      · subst e'
        rw [up_same] at h2
        simp only [Option.some.injEq, Prod.mk.injEq] at h2
        rw [← h2.1] at h1
        exact absurd rfl (hnew j _ _ hj h1)
      · rw [up_ne _ _ e'] at h2
        exact h.ap j j' _ _ _ hj hj' h1 h2
end
end Go.Proofs.Ytfgoamfoddkafaa.Sq
