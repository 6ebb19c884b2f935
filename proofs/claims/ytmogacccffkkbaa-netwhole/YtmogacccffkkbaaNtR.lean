/-
  The document's network in memory.
  Conditions: as at each lemma.
-/
import Derived.Test.YtmogacccffkkbaaNtN
namespace Go.Proofs.Ytmogacccffkkbaa.Nt
open Go.ChangeShapes Go.WideShapes Go.ChangeAt Go.RowKit
open Ba (hidden Only In Has own_ne own_stay own_len own_some own_mono cell_lt heap_lt)
set_option linter.unusedVariables false
/-- a packet, the block of its bytes, their room -/
abbrev Pq := Pk × Nat × Nat
def zpq : Pq := (zpk, 0, 0)
def qc (x : Pq) : List Value := [.int .i64 x.1.id, .int .i64 x.1.sent, .int .i64 x.1.len, .bool x.1.forged, .slice (some ⟨x.2.1, 0, none⟩) x.1.bs.length x.2.2]
def qv (x : Pq) : Value := .agg #[.int .i64 x.1.id, .int .i64 x.1.sent, .int .i64 x.1.len, .bool x.1.forged, .slice (some ⟨x.2.1, 0, none⟩) x.1.bs.length x.2.2]
def qa (x : Pq) : Array Value := #[.int .i64 x.1.id, .int .i64 x.1.sent, .int .i64 x.1.len, .bool x.1.forged, .slice (some ⟨x.2.1, 0, none⟩) x.1.bs.length x.2.2]
def qcs (X : List Pq) : List Value := X.flatMap qc
theorem qc_len (x : Pq) : (qc x).length = 5 := rfl
theorem qcs_len (X : List Pq) : (qcs X).length = X.length * 5 := flat_len qc_len X
theorem qc_one (x : Pq) : ∀ u ∈ qc x, u.oneCell' = true := by
  intro u hu
  simp only [qc, List.mem_cons, List.not_mem_nil, or_false] at hu
  rcases hu with rfl | rfl | rfl | rfl | rfl <;> rfl
def rd (T : Tr) (v : Value) : List Value := [v, .int .i64 T.s, .int .i64 T.d, .int .i64 T.l, .int .i64 T.f]
/-- a path's two rows in block g -/
def Rb (w : World) (g : Nat) (T : Nat → Tr) (v : Nat → Value) : Prop := ∃ cs, Has w g cs 105 ∧ ∀ e k, e < 2 → k < 5 → cs[e * 5 + k]? = (rd (T e) (v e))[k]?
section
variable {w w' : World} {g : Nat} {T : Nat → Tr} {v : Nat → Value} {e k : Nat}
theorem Rb.cell (h : Rb w g T v) (he : e < 2) (k : Nat) {u : Value} (hu : (rd (T e) (v e))[k]? = some u) : w.cell? ⟨g, e * 5 + k, none⟩ = some u := by
  obtain ⟨cs, h1, h2⟩ := h
  have hk : k < 5 := (List.getElem?_eq_some_iff.1 hu).1
  exact h1.cell _ ((h2 e k he hk).trans hu)
theorem Rb.frozen (h : Rb w g T v) (j : Nat) : w.frozen? ⟨g, j, none⟩ = false := by
  obtain ⟨cs, h1, _⟩ := h; exact h1.frozen j
theorem Rb.has (h : Rb w g T v) : ∃ cs, Has w g cs 105 := by
  obtain ⟨cs, h1, _⟩ := h; exact ⟨cs, h1⟩
theorem Rb.move (h : Rb w g T v) (hh : ∀ cs, Has w g cs 105 → Has w' g cs 105) : Rb w' g T v := by
  obtain ⟨cs, h1, r⟩ := h; exact ⟨cs, hh cs h1, r⟩
theorem Rb.set (h : Rb w g T v) (he : e < 2) (hk : k < 5) {u : Value} {T' : Tr} {v' : Value} (hq : (rd (T e) (v e)).set k u = rd T' v') : Rb (w.setCell ⟨g, e * 5 + k, none⟩ u) g (up1 T e T') (up1 v e v') := by
  obtain ⟨cs, h1, h2⟩ := h
  refine ⟨_, h1.set _ u, fun e' k' he' hk' => ?_⟩
  rw [Array.getElem?_setIfInBounds]
  have hin : e * 5 + k < cs.size := by
    have := h2 e k he hk
    rcases Nat.lt_or_ge (e * 5 + k) cs.size with hl | hl
    · exact hl
    · rw [Array.getElem?_eq_none hl] at this
      have e2 : (rd (T e) (v e))[k]? ≠ none := by
        rw [List.getElem?_eq_getElem (by simpa [rd] using hk)]; simp
      exact absurd this.symm e2
  by_cases hie : e' = e
  · subst hie
    rw [up1_same, up1_same, ← hq, List.getElem?_set]
    by_cases hkk : k = k'
    · subst hkk
      simp [hin, rd, hk]
    · rw [if_neg (by omega), if_neg hkk]
      exact h2 e' k' he' hk'
  · rw [up1_ne _ _ hie, up1_ne _ _ hie, if_neg (by omega)]
    exact h2 e' k' he' hk'
end
/-- the bytes of a packet in their block -/
def Bq (base : Nat) (w : World) (x : Pq) : Prop := w.ownsRow base 5 1 (.slice (some ⟨x.2.1, 0, none⟩) x.1.bs.length x.2.2) x.1.bs.length (x.1.bs.map (.int .u8))
/-- the document's network in memory, its parts named -/
structure Ro (base : Nat) (w : World) (r : Nat) (rv ov : Value) (rb : Nat → Nat) (vs : Nat → Nat → Value) (X : Nat → Nat → List Pq) (S : St) : Prop where
  br : base ≤ r
  net : Has w r #[rv, ov, .int .i64 S.next] 40
  rows : w.ownsRow base 66 1 rv S.p ((List.range S.p).map (fun i => .slice (some ⟨rb i, 0, none⟩) 2 2))
  offs : w.ownsRow base 4 1 ov S.p ((List.range S.p).map (fun i => .bool (S.off i)))
  row : ∀ i, i < S.p → Rb w (rb i) (fun e => (S.R i e).T) (vs i)
  rbb : ∀ i, i < S.p → base ≤ rb i
  rinj : ∀ i j, i < S.p → j < S.p → rb i = rb j → i = j
  eq : ∀ i e, (X i e).map (·.1) = (S.R i e).L
  own : ∀ i e, w.ownsRow base 109 5 (vs i e) (X i e).length (qcs (X i e))
  ap : ∀ i e i' e' k, (vs i e).ownBlock = some k → (vs i' e').ownBlock = some k → i = i' ∧ e = e'
  byt : ∀ i e x, x ∈ X i e → Bq base w x
  bn : ∀ i e, ((X i e).map (·.2.1)).Nodup
  bp : ∀ i e i' e' x y, x ∈ X i e → y ∈ X i' e' → x.2.1 = y.2.1 → i = i' ∧ e = e'
def TYr (t : TypeId) : Bool := t == 40 || t == 105 || t == 4 || t == 109 || t == 5
section
variable {base : Nat} {w w' w1 : World} {r : Nat} {rv ov : Value} {rb : Nat → Nat} {vs : Nat → Nat → Value} {X : Nat → Nat → List Pq} {S : St} {i e : Nat} {TY : TypeId → Bool}
theorem Ro.stay (h : Ro base w r rv ov rb vs X S) (hk : Kept TY base w w') (h1 : TY 40 = false) (h2 : TY 66 = false) (h3 : TY 4 = false) (h4 : TY 105 = false) (h5 : TY 109 = false) (h6 : TY 5 = false) : Ro base w' r rv ov rb vs X S :=
  ⟨h.br, hk.has h.net h1, hk.own h.rows h2, hk.own h.offs h3, fun i hi => (h.row i hi).move (fun cs hc => hk.has hc h4), h.rbb, h.rinj, h.eq, fun i e => hk.own (h.own i e) h5, h.ap, fun i e x hx => hk.own (h.byt i e x hx) h6, h.bn, h.bp⟩
theorem Ro.later (h : Ro base w r rv ov rb vs X S) (hB : Below w.heap.size w w') : Ro base w' r rv ov rb vs X S := h.stay (TY := fun _ => false) (Kept.of_below hB) rfl rfl rfl rfl rfl rfl
theorem Ro.len (h : Ro base w r rv ov rb vs X S) : (X i e).length = (S.R i e).L.length := by rw [← h.eq i e, List.length_map]
theorem own_set_type {w : World} {base E s n : Nat} {v : Value} {xs : List Value} (h : w.ownsRow base E s v n xs) {p : Addr} {cs : Array Value} {t : TypeId} (hp : Has w p.block cs t) (ht : t ≠ E) (u : Value) : (w.setCell p u).ownsRow base E s v n xs :=
  own_set_other h (fun k hk e1 => own_ne h hp ht k hk e1.symm) u
theorem Ro.setNext (h : Ro base w r rv ov rb vs X S) (n : Int) : Ro base (w.setCell ⟨r, 2, none⟩ (.int .i64 n)) r rv ov rb vs X ⟨S.p, n, S.R, S.off⟩ :=
  ⟨h.br, h.net.set 2 _, own_set_type h.rows (p := ⟨r, 2, none⟩) h.net (by decide) _, own_set_type h.offs (p := ⟨r, 2, none⟩) h.net (by decide) _, fun i hi => (h.row i hi).move (fun cs hc => hc.set_other (p := ⟨r, 2, none⟩) (hc.ne h.net (by decide)) _), h.rbb, h.rinj, h.eq, fun i e => own_set_type (h.own i e) (p := ⟨r, 2, none⟩) h.net (by decide) _, h.ap, fun i e x hx => own_set_type (h.byt i e x hx) (p := ⟨r, 2, none⟩) h.net (by decide) _, h.bn, h.bp⟩
theorem Ro.setT (h : Ro base w r rv ov rb vs X S) (hi : i < S.p) (he : e < 2) {k : Nat} (hk : k < 5) {u : Value} {T' : Tr} (hq : (rd (S.R i e).T (vs i e)).set k u = rd T' (vs i e)) : Ro base (w.setCell ⟨rb i, e * 5 + k, none⟩ u) r rv ov rb vs X (S.row i e ⟨T', (S.R i e).L⟩) := by
  obtain ⟨cs, hcs⟩ := (h.row i hi).has
  have hL : ∀ i' e', ((S.row i e ⟨T', (S.R i e).L⟩).R i' e').L = (S.R i' e').L := fun i' e' => by
    show (up2 S.R i e _ i' e').L = _
    unfold up2
    split
    · next hq => rw [hq.1, hq.2]
    · rfl
  refine ⟨h.br, h.net.set_other (p := ⟨rb i, e * 5 + k, none⟩) (h.net.ne hcs (by decide)) _, own_set_type h.rows (p := ⟨rb i, e * 5 + k, none⟩) hcs (by decide) _, own_set_type h.offs (p := ⟨rb i, e * 5 + k, none⟩) hcs (by decide) _, fun i' hi' => ?_, h.rbb, h.rinj, fun i' e' => by rw [hL]; exact h.eq i' e', fun i' e' => own_set_type (h.own i' e') (p := ⟨rb i, e * 5 + k, none⟩) hcs (by decide) _, h.ap, fun i' e' x hx => own_set_type (h.byt i' e' x hx) (p := ⟨rb i, e * 5 + k, none⟩) hcs (by decide) _, h.bn, h.bp⟩
  by_cases hii : i' = i
  · subst hii
    have hs := (h.row i' hi').set he hk hq
    have e1 : up1 (vs i') e (vs i' e) = vs i' := by
      funext e'
      unfold up1
      split
      · next hq => rw [hq]
      · rfl
    rw [e1] at hs
    refine cast ?_ hs
    congr 1
    funext e'
    show up1 _ e T' e' = (up2 S.R i' e _ i' e').T
    unfold up1 up2
    by_cases he' : e' = e
    · simp [he']
    · simp [he']
  · have hs := (h.row i' hi').move (w' := w.setCell ⟨rb i, e * 5 + k, none⟩ u) (fun cs hc => hc.set_other (p := ⟨rb i, e * 5 + k, none⟩) (fun ee => hii (h.rinj i' i hi' hi ee)) _)
    refine cast ?_ hs
    congr 1
    funext e'
    show _ = (up2 S.R i e _ i' e').T
    unfold up2
    rw [if_neg (fun hh => hii hh.1)]
theorem range_set (f : Nat → Value) (p i : Nat) (u : Value) (hi : i < p) : ((List.range p).map f).set i u = (List.range p).map (fun j => if j = i then u else f j) := by
  apply List.ext_getElem?
  intro j
  rw [List.getElem?_set, List.getElem?_map, List.getElem?_map]
  by_cases hji : i = j
  · subst hji
    simp [hi]
  · rw [if_neg hji]
    by_cases hj : j < p
    · rw [List.getElem?_range hj]
      simp [Ne.symm hji]
    · rw [List.getElem?_eq_none (by simpa using hj)]
      rfl
theorem Ro.setOff (h : Ro base w r rv ov rb vs X S) {g cap : Nat} (hv : ov = .slice (some ⟨g, 0, none⟩) S.p cap) (hi : i < S.p) (x : Bool) : Ro base (w.setCell ⟨g, i, none⟩ (.bool x)) r rv ov rb vs X (offS S i x) ∧ Kept TYr base w (w.setCell ⟨g, i, none⟩ (.bool x)) := by
  have ho := h.offs
  rw [hv] at ho
  obtain ⟨cur, hcur⟩ : ∃ cur, Has w g cur 4 := by
    rcases ho.2 with ⟨hh, _⟩ | ⟨g', cap', cur, hh, _, hg, _⟩
    · cases hh
    · cases hh; exact ⟨cur, hg⟩
  have hb : base ≤ g := (ho.lt g rfl).1
  have hs := (ho.stored i (.bool x)).1
  rw [range_set _ _ _ _ hi] at hs
  refine ⟨⟨h.br, h.net.set_other (p := ⟨g, i, none⟩) (h.net.ne hcur (by decide)) _, own_set_type h.rows (p := ⟨g, i, none⟩) hcur (by decide) _, ?_, fun i' hi' => (h.row i' hi').move (fun cs hc => hc.set_other (p := ⟨g, i, none⟩) (hc.ne hcur (by decide)) _), h.rbb, h.rinj, h.eq, fun i' e' => own_set_type (h.own i' e') (p := ⟨g, i, none⟩) hcur (by decide) _, h.ap, fun i' e' x hx => own_set_type (h.byt i' e' x hx) (p := ⟨g, i, none⟩) hcur (by decide) _, h.bn, h.bp⟩, (Kept.refl _ _ _).set (p := ⟨g, i, none⟩) hcur rfl hb _⟩
  rw [hv]
  refine cast ?_ hs
  congr 1
  refine List.map_congr_left fun j _ => ?_
  show (if j = i then Value.bool x else Value.bool (S.off j)) = Value.bool (up1 S.off i x j)
  unfold up1
  split <;> rfl
/-- a row's turn -/
theorem Ro.turn (h : Ro base w r rv ov rb vs X S) (hi : i < S.p) (he : e < 2) (hO : Only (vs i e).ownBlock.toList w w1) {v' : Value} {X' : List Pq} {n0 : Nat} (hown : w1.ownsRow base 109 5 v' X'.length (qcs X')) (hv : ∀ k, v'.ownBlock = some k → (vs i e).ownBlock = some k ∨ w.heap.size ≤ k)
    (hlt : ∀ i e y, y ∈ X i e → y.2.1 < n0) (hnd : (X'.map (·.2.1)).Nodup) (hnew : ∀ x ∈ X', (∃ y ∈ X i e, y.2.1 = x.2.1) ∨ n0 ≤ x.2.1) (hbyt : ∀ x ∈ X', Bq base w x) :
    Ro base (w1.setCell ⟨rb i, e * 5, none⟩ v') r rv ov rb (up2 vs i e v') (up2 X i e X') (S.row i e ⟨(S.R i e).T, X'.map (·.1)⟩) ∧ Kept TYr base w (w1.setCell ⟨rb i, e * 5, none⟩ v') := by
  obtain ⟨cs, hcs⟩ := (h.row i hi).has
  have ne_of : ∀ {b : Nat} {cs : Array Value} {t : TypeId}, Has w b cs t → t ≠ 109 → b ∉ (vs i e).ownBlock.toList := fun hb ht hm => own_ne (h.own i e) hb ht _ (by simpa using hm) rfl
  have ow_of : ∀ {E s n : Nat} {v : Value} {xs : List Value}, w.ownsRow base E s v n xs → E ≠ 109 → w1.ownsRow base E s v n xs := fun {E s n v xs} hr ht => own_stay hr hO (fun k hk hm => by
    rcases hr.2 with ⟨rfl, _⟩ | ⟨g, cap, cur, rfl, _, hg, _⟩
    · cases hk
    · cases hk
      exact own_ne (h.own i e) (b := g) hg ht g (by simpa using hm) rfl)
  have hcs1 : Has w1 (rb i) cs 105 := hcs.stay hO (ne_of hcs (by decide))
  have hK : Kept TYr base w w1 := Kept.only (h.own i e) rfl hO
  refine ⟨⟨h.br, (h.net.stay hO (ne_of h.net (by decide))).set_other (p := ⟨rb i, e * 5, none⟩) (h.net.ne hcs (by decide)) _, own_set_type (ow_of h.rows (by decide)) (p := ⟨rb i, e * 5, none⟩) hcs1 (by decide) _, own_set_type (ow_of h.offs (by decide)) (p := ⟨rb i, e * 5, none⟩) hcs1 (by decide) _, fun i' hi' => ?_, h.rbb, h.rinj, fun i' e' => ?_, fun i' e' => ?_, ap_up h.ap (fun i e k hk => ((h.own i e).lt k hk).2) hv, fun i' e' x hx => ?_, fun i' e' => ?_, fun i1 e1 i2 e2 x y hx hy hxy => ?_⟩, hK.set (p := ⟨rb i, e * 5, none⟩) hcs1 rfl (h.rbb i hi) _⟩
  · have hm := (h.row i' hi').move (w' := w1) (fun cs hc => hc.stay hO (ne_of hc (by decide)))
    by_cases hii : i' = i
    · subst hii
      have hs := hm.set he (k := 0) (by omega) (u := v') (T' := (S.R i' e).T) (v' := v') rfl
      rw [Nat.add_zero] at hs
      have e1 : up1 (vs i') e v' = up2 vs i' e v' i' := by
        funext e'
        unfold up1 up2
        by_cases he' : e' = e
        · simp [he']
        · simp [he']
      rw [e1] at hs
      refine cast ?_ hs
      congr 1
      funext e'
      show up1 _ e _ e' = (up2 S.R i' e _ i' e').T
      unfold up1 up2
      by_cases he' : e' = e
      · simp [he']
      · simp [he']
    · have hs := hm.move (w' := w1.setCell ⟨rb i, e * 5, none⟩ v') (fun cs hc => hc.set_other (p := ⟨rb i, e * 5, none⟩) (fun ee => hii (h.rinj i' i hi' hi ee)) _)
      refine cast ?_ hs
      congr 1
      · funext e'
        show _ = (up2 S.R i e _ i' e').T
        unfold up2
        rw [if_neg (fun hh => hii hh.1)]
      · funext e'
        rw [up2_ne _ _ (fun hh => hii hh.1)]
  · show (up2 X i e X' i' e').map (·.1) = (up2 S.R i e _ i' e').L
    by_cases hq : i' = i ∧ e' = e
    · rw [hq.1, hq.2, up2_same, up2_same]
    · rw [up2_ne _ _ hq, up2_ne _ _ hq]
      exact h.eq i' e'
  · by_cases hq : i' = i ∧ e' = e
    · rw [hq.1, hq.2, up2_same, up2_same]
      exact own_set_type hown (p := ⟨rb i, e * 5, none⟩) hcs1 (by decide) _
    · rw [up2_ne _ _ hq, up2_ne _ _ hq]
      refine own_set_type (own_stay (h.own i' e') hO ?_) (p := ⟨rb i, e * 5, none⟩) hcs1 (by decide) _
      intro k hk hm
      exact hq (h.ap _ _ _ _ k hk (by simpa using hm))
  · refine own_set_type (ow_of ?_ (by decide)) (p := ⟨rb i, e * 5, none⟩) hcs1 (by decide) _
    unfold up2 at hx
    split at hx
    · exact hbyt x hx
    · exact h.byt i' e' x hx
  · unfold up2
    split
    · exact hnd
    · exact h.bn i' e'
  · have key : ∀ {x : Pq} {i1 e1 : Nat}, x ∈ up2 X i e X' i1 e1 → (∃ y ∈ X i1 e1, y.2.1 = x.2.1) ∨ (n0 ≤ x.2.1 ∧ i1 = i ∧ e1 = e) := fun {x i1 e1} hx => by
      unfold up2 at hx
      split at hx
      · next hq =>
        rcases hnew x hx with h1 | h1
        · rw [hq.1, hq.2]; exact .inl h1
        · exact .inr ⟨h1, hq⟩
      · exact .inl ⟨x, hx, rfl⟩
    rcases key hx with ⟨x0, hx0, ex⟩ | ⟨hx0, hx1⟩
    · rcases key hy with ⟨y0, hy0, ey⟩ | ⟨hy0, hy1⟩
      · exact h.bp _ _ _ _ x0 y0 hx0 hy0 (by rw [ex, ey]; exact hxy)
      · have := hlt _ _ _ hx0; omega
    · rcases key hy with ⟨y0, hy0, ey⟩ | ⟨hy0, hy1⟩
      · have := hlt _ _ _ hy0; omega
      · exact ⟨hx1.1.trans hy1.1.symm, hx1.2.trans hy1.2.symm⟩
theorem Ro.blt (h : Ro base w r rv ov rb vs X S) : ∀ i e y, y ∈ X i e → y.2.1 < w.heap.size := fun i e y hy => ((h.byt i e y hy).lt y.2.1 rfl).2
theorem Ro.by (h : Ro base w r rv ov rb vs X S) (hI : Inv S) {x : Pq} (hx : x ∈ X i e) : By base w (some ⟨x.2.1, 0, none⟩) x.1.bs.length x.1.bs := by
  have hp : x.1 ∈ (S.R i e).L := by rw [← h.eq i e]; exact List.mem_map_of_mem hx
  have hb := h.byt i e x hx
  have hok := (hI.rows i e).ok x.1 hp
  refine ⟨rfl, hok.1, .inr ⟨x.2.1, 0, rfl, ((hb.lt _ rfl).2), ?_, fun j hj => ?_⟩⟩
  · rcases hb.2 with ⟨hh, _⟩ | ⟨g', cap', cur, hh, _, hg, _⟩
    · cases hh
    · cases hh; exact .inr ⟨_, _, hg⟩
  · rw [Nat.zero_add, hb.cellAt j (by omega), List.getElem?_map, List.getD_eq_getElem?_getD, List.getElem?_eq_getElem hj]
    rfl
end
end Go.Proofs.Ytmogacccffkkbaa.Nt
