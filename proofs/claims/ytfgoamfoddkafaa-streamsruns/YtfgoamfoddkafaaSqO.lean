/-
  The messages that were sent, held against what is left of them.
  Conditions: as at each lemma.
-/
import Derived.Test.YtfgoamfoddkafaaSqL
import Derived.Test.YtfgoamfoddkafaaSqArgs
namespace Go.Proofs.Ytfgoamfoddkafaa.Sq
open Go.ChangeShapes Go.WideShapes Go.ChangeAt Go.RowKit
open Ba (hidden Has Only cell_lt heap_lt)
open Ow (Bk)
set_option linter.unusedVariables false

/-- a message's bytes, its protocol, whether it is unordered -/
abbrev Tx := List Int × Int × Bool
def txm (z : MA) : Tx := (z.zs, z.pr, z.un)
def txr (r : Rest) : Tx := (r.d, r.pr, r.un)
/-- what a lane's messages were, k being what was taken of the first one -/
def whole (k : List Int) : List Rest → List Tx
  | [] => []
  | r :: rs => (k ++ r.d, r.pr, r.un) :: rs.map txr
/-- what was taken of a lane's first message -/
def kep (S : St) (op : List Int) (i : Nat) : List Int := if S.bgn = true ∧ S.last = i then op else []
def isS (i : Nat) (z : MA) : Bool := z.st == (i : Int)
structure Wh (S : St) (ms : List MA) (op : List Int) : Prop where
  n : S.n = 8
  l : S.lim = 1073741824
  m : ∀ i, i < 8 → (ms.filter (isS i)).map txm = whole (kep S op i) (S.R i)
  s : ∀ z ∈ ms, 0 ≤ z.st ∧ z.st < 8
  o : S.bgn = false → op = []
  p : S.bgn = true → op ≠ []
theorem whole_nil (L : List Rest) : whole [] L = L.map txr := by
  cases L <;> rfl
theorem isS_ne {z : MA} {i j : Nat} (h : isS i z = true) (hne : j ≠ i) : isS j z = false := by
  unfold isS at *
  have : z.st = (i : Int) := by simpa using h
  rw [this]
  simp
  omega
theorem Wh.push {S : St} {ms : List MA} (h : Wh S ms []) (hb : S.bgn = false) {z : MA} (hz : 0 ≤ z.st ∧ z.st < 8) : Wh (pushS S z.st.toNat z.pr z.un z.zs) (ms ++ [z]) [] := by
  refine ⟨h.n, h.l, fun i hi => ?_, fun y hy => ?_, fun _ => rfl, fun hh => ?_⟩
  · have hk : ∀ (T : St), T.bgn = false → kep T [] i = [] := fun T hT => by unfold kep; split <;> rfl
    rw [hk (pushS S z.st.toNat z.pr z.un z.zs) hb, whole_nil, List.filter_append, List.map_append]
    have := h.m i hi
    rw [hk S hb, whole_nil] at this
    rw [this]
    show _ = (up S.R z.st.toNat _ i).map txr
    by_cases e : i = z.st.toNat
    · subst e
      rw [up_same, List.map_append]
      have : isS z.st.toNat z = true := by unfold isS; simp; omega
      simp [this, txm, txr]
    · rw [up_ne _ _ e]
      have : isS i z = false := by unfold isS; simp; omega
      simp [this]
  · rcases List.mem_append.1 hy with h' | h'
    · exact h.s y h'
    · rw [List.mem_singleton] at h'; subst h'; exact hz
  · change S.bgn = true at hh
    rw [hb] at hh
    cases hh
/-- the first message of a stream -/
theorem first_split {ms : List MA} {i : Nat} {t : Tx} {ts : List Tx} (h : (ms.filter (isS i)).map txm = t :: ts) : ∃ A z B, ms = A ++ z :: B ∧ (∀ y ∈ A, isS i y = false) ∧ isS i z = true ∧ txm z = t ∧ (B.filter (isS i)).map txm = ts := by
  induction ms with
  | nil => cases h
  | cons y l ih =>
    by_cases hy : isS i y = true
    · rw [List.filter_cons_of_pos hy, List.map_cons] at h
      simp only [List.cons.injEq] at h
      exact ⟨[], y, l, rfl, by simp, hy, h.1, h.2⟩
    · rw [List.filter_cons_of_neg hy] at h
      obtain ⟨A, z, B, h1, h2, h3, h4, h5⟩ := ih h
      refine ⟨y :: A, z, B, by rw [h1]; rfl, fun x hx => ?_, h3, h4, h5⟩
      rcases List.mem_cons.1 hx with rfl | hx
      · simpa using hy
      · exact h2 x hx
theorem filter_without {A B : List MA} {z : MA} {i j : Nat} (hA : ∀ y ∈ A, isS i y = false) (hz : isS i z = true) : ((A ++ B).filter (isS j)).map txm = if j = i then (B.filter (isS i)).map txm else ((A ++ z :: B).filter (isS j)).map txm := by
  by_cases e : j = i
  · subst e
    rw [if_pos rfl, List.filter_append, List.filter_eq_nil_iff.2 (fun y hy => by rw [hA y hy]; decide)]
    rfl
  · rw [if_neg e, List.filter_append, List.filter_append, List.filter_cons_of_neg (by rw [isS_ne hz e]; decide)]
theorem Wh.bg {S : St} {ms : List MA} {op : List Int} (h : Wh S ms op) (hg : Good S) {i : Nat} {r : Rest} {rs : List Rest} (hx : nxt S = some i) (hR : S.R i = r :: rs) : r.bg = !S.bgn ∧ (S.bgn = true → S.last = i) := by
  obtain ⟨hi, _⟩ := nxt_some hg.n1 hx
  have hd := hg.hd i r hi (by rw [hR]; rfl)
  cases hb : S.bgn with
  | true =>
    have h1 := hg.nxt_bgn hb
    rw [hx] at h1
    cases h1
    exact ⟨hd.2 ⟨hb, rfl⟩, fun _ => rfl⟩
  | false =>
    refine ⟨?_, fun h => by cases h⟩
    cases hrb : r.bg with
    | true => rfl
    | false => rw [(hd.1 hrb).1] at hb; cases hb
theorem kep_self {S : St} {ms : List MA} {op : List Int} (h : Wh S ms op) {i : Nat} (hl : S.bgn = true → S.last = i) : kep S op i = op := by
  unfold kep
  cases hb : S.bgn with
  | true => rw [if_pos ⟨rfl, hl hb⟩]
  | false => rw [if_neg (fun hh => by cases hh.1), h.o hb]
theorem kep_other {S : St} {op : List Int} {i j : Nat} (hl : S.bgn = true → S.last = i) (hne : j ≠ i) : kep S op j = [] := by
  unfold kep
  rw [if_neg (fun hh => hne (by rw [← hl hh.1]; exact hh.2.symm))]
/-- a piece that is no last one -/
theorem Wh.more {S : St} {ms : List MA} {op : List Int} (h : Wh S ms op) (hg : Good S) {i : Nat} {r : Rest} {rs : List Rest} {n : Int} (hn : 1 ≤ n) (hx : nxt S = some i) (hR : S.R i = r :: rs) (hl : ¬ (r.d.length : Int) ≤ n) : Wh (takeS S i r rs n) ms (op ++ r.d.take n.toNat) := by
  obtain ⟨hi, _⟩ := nxt_some hg.n1 hx
  obtain ⟨hb, hla⟩ := h.bg hg hx hR
  have hlen := (hg.ok i r hi (by rw [hR]; exact List.mem_cons_self ..)).2.2.2.2.2.2.1
  have hbn : (takeS S i r rs n).bgn = true := by show (!decide ((r.d.length : Int) ≤ n)) = true; simp; omega
  refine ⟨h.n, h.l, fun j hj => ?_, h.s, (fun hh => by rw [hbn] at hh; cases hh), fun _ => ?_⟩
  · show _ = whole (kep (takeS S i r rs n) _ j) (up S.R i _ j)
    by_cases e : j = i
    · subst e
      rw [up_same, left_some hl, h.m j hj, hR, kep_self h hla]
      have : kep (takeS S j r rs n) (op ++ r.d.take n.toNat) j = op ++ r.d.take n.toNat := by unfold kep; rw [if_pos ⟨hbn, rfl⟩]
      rw [this]
      show (op ++ r.d, r.pr, r.un) :: _ = (op ++ r.d.take n.toNat ++ r.d.drop n.toNat, r.pr, r.un) :: _
      rw [List.append_assoc, List.take_append_drop]
      rfl
    · rw [up_ne _ _ e, h.m j hj, kep_other hla e]
      have : kep (takeS S i r rs n) (op ++ r.d.take n.toNat) j = [] := by unfold kep; rw [if_neg (fun hh => e hh.2.symm)]
      rw [this]
  · have : (r.d.take n.toNat).length ≠ 0 := by rw [List.length_take]; omega
    intro e
    rw [List.append_eq_nil_iff] at e
    rw [e.2] at this
    exact this rfl
/-- a last one -/
theorem Wh.last {S : St} {ms : List MA} {op : List Int} (h : Wh S ms op) (hg : Good S) {i : Nat} {r : Rest} {rs : List Rest} {n : Int} (hx : nxt S = some i) (hR : S.R i = r :: rs) (hl : (r.d.length : Int) ≤ n) :
    ∃ A z B, ms = A ++ z :: B ∧ (∀ y ∈ A, isS i y = false) ∧ isS i z = true ∧ z.zs = op ++ r.d ∧ z.pr = r.pr ∧ z.un = r.un ∧ Wh (takeS S i r rs n) (A ++ B) [] := by
  obtain ⟨hi, _⟩ := nxt_some hg.n1 hx
  obtain ⟨hb, hla⟩ := h.bg hg hx hR
  have hbn : (takeS S i r rs n).bgn = false := by show (!decide ((r.d.length : Int) ≤ n)) = false; simp; omega
  have hm := h.m i (by have := h.n; omega)
  rw [hR, kep_self h hla] at hm
  obtain ⟨A, z, B, h1, h2, h3, h4, h5⟩ := first_split hm
  simp only [txm, Prod.mk.injEq] at h4
  refine ⟨A, z, B, h1, h2, h3, h4.1, h4.2.1, h4.2.2, h.n, h.l, fun j hj => ?_, fun y hy => h.s y (by rw [h1]; rcases List.mem_append.1 hy with q | q <;> simp [q]), fun _ => rfl, (fun hh => by rw [hbn] at hh; cases hh)⟩
  have hk : kep (takeS S i r rs n) [] j = [] := by unfold kep; split <;> rfl
  rw [hk, whole_nil, filter_without h2 h3]
  show _ = (up S.R i _ j).map txr
  by_cases e : j = i
  · subst e
    rw [if_pos rfl, h5, up_same, left_all hl]
    rfl
  · rw [if_neg e, up_ne _ _ e, ← h1, h.m j hj, kep_other hla e, whole_nil]
/-- none is left -/
theorem Wh.done {S : St} {ms : List MA} {op : List Int} (h : Wh S ms op) (hg : Good S) (hx : nxt S = none) : ms = [] ∧ op = [] ∧ S.wt = 0 := by
  have hR : ∀ i, i < 8 → S.R i = [] := fun i hi => nxt_none hx (by rw [h.n]; exact hi)
  have hb : S.bgn = false := by
    cases hb : S.bgn with
    | false => rfl
    | true => exact absurd (hR _ (by have := hg.lt; have := h.n; omega)) (hg.bn hb)
  refine ⟨?_, h.o hb, ?_⟩
  · cases hm : ms with
    | nil => rfl
    | cons z l =>
      have hz := h.s z (by rw [hm]; exact List.mem_cons_self ..)
      have := h.m z.st.toNat (by omega)
      rw [hR _ (by omega), hm, List.filter_cons_of_pos (by unfold isS; simp; omega)] at this
      cases this
  · rw [hg.w0, tot_zero _ _ (fun i hi => hR i (by have := h.n; omega))]
    rfl

def msc (ms : List MA) : List Value := ms.flatMap mc
theorem mc_len (z : MA) : (mc z).length = 5 := rfl
theorem msc_len (ms : List MA) : (msc ms).length = ms.length * 5 := flat_len mc_len ms
theorem msc_one (ms : List MA) : ∀ u ∈ msc ms, u.oneCell' = true := by
  intro u hu
  obtain ⟨z, _, hz⟩ := List.mem_flatMap.1 hu
  simp only [mc, List.mem_cons, List.not_mem_nil, or_false] at hz
  rcases hz with rfl | rfl | rfl | rfl | rfl <;> rfl
theorem infoM : (Try.prog.info? 42).map (fun i => (i.zero, i.size, i.bytes)) = some (some (.agg #[.int .u16 0, .int .u16 0, .int .u32 0, .bool false, .slice none 0 0]), 5, 40) := by kernel_rfl
/-- messages of one's own -/
abbrev Ms (base : Nat) (w : World) (v : Value) (ms : List MA) : Prop := w.ownsRow base 42 5 v ms.length (msc ms)
theorem app_msgs {w : World} {base : Nat} {v : Value} {ms ns : List MA} {ad : Addr} {c : Nat} (h : Ms base w v ms) (hb : base ≤ w.heap.size) (hl : ms.length + ns.length ≤ 1000) (hm : 0 < ns.length ∨ v.ownBlock ≠ none) (hn : ∀ j u, (msc ns)[j]? = some u → w.cell? (ad.add j) = some u) (ty : TypeId) :
    ∃ v' w2, (Builtin.append_ #[38, 38] ty #[v, .slice (some ad) ns.length c]).run Try.prog w = .ok v' w2 ∧ Ms base w2 v' (ms ++ ns) ∧ w.grownBy w2 v.ownBlock ∧ (v'.ownBlock = v.ownBlock ∨ v'.ownBlock = some w.heap.size) := by
  obtain ⟨v', w2, hr, g1, g2, g3⟩ := Ba.append_at (P := Try.prog) (ty := ty) (m := ns.length) (c := c) (ad := ad) (news := msc ns) Try.underlying38 infoM rfl (by decide) h (msc_len ns) hn (msc_one ns) hm (by unfold maxLen; omega) (by omega) hb
  refine ⟨v', w2, hr, ?_, g2, g3⟩
  unfold Ms
  rw [List.length_append, show msc (ms ++ ns) = msc ms ++ msc ns by unfold msc; rw [List.flatMap_append]]
  exact g1
theorem own_stayM {F : Nat → Prop} {w w' : World} {base E s n : Nat} {v : Value} {xs : List Value} (h : w.ownsRow base E s v n xs) (hm : Mod F w w') (hF : ∀ k, v.ownBlock = some k → ¬ F k) : w'.ownsRow base E s v n xs := by
  refine ⟨h.1, ?_⟩
  rcases h.2 with h0 | ⟨g, cap, cur, rfl, hb, hg, r⟩
  · exact .inl h0
  · exact .inr ⟨g, cap, cur, rfl, hb, hm.has (b := g) hg (hF g rfl), r⟩
theorem own_objM {w : World} {base E s n : Nat} {v : Value} {xs : List Value} (h : w.ownsRow base E s v n xs) {k : Nat} (hk : v.ownBlock = some k) : ∃ cur, Has w k cur E ∧ base ≤ k := by
  rcases h.2 with ⟨rfl, _⟩ | ⟨g, cap, cur, rfl, hb, hg, r⟩
  · cases hk
  · cases hk; exact ⟨cur, hg, hb⟩
/-- the queue, the messages and the bytes that the law keeps -/
structure Wd (w0 w : World) (t : Nat) (S : St) (F : Nat → Prop) (v : Value) (ms : List MA) (ov : Value) (op : List Int) : Prop where
  cd : Cd (fun _ => True) w t S F
  fb : ∀ k, F k → w0.heap.size ≤ k
  bw : Below w0.heap.size w0 w
  om : Ms w0.heap.size w v ms
  mi : Mine w0.heap.size w ov op
  ok : ∀ z ∈ ms, OkM w0 z
section
variable {w0 w w' : World} {t : Nat} {S S' : St} {F F' : Nat → Prop} {v v' ov ov' : Value} {ms ms' : List MA} {op op' : List Int}
theorem Wd.step (h : Wd w0 w t S F v ms ov op) (hm : Mod F w w') (hc : Cd (fun _ => True) w' t S' F') (hF : ∀ k, F' k → F k ∨ w.heap.size ≤ k) : Wd w0 w' t S' F' v ms ov op := by
  refine ⟨hc, fun k hk => (hF k hk).elim (h.fb k) (fun h1 => Nat.le_trans h.bw.size h1), h.bw.trans (hm.below h.bw.size h.fb), own_stayM h.om hm (fun k hk hf => ?_), h.cd.mine h.mi hm, h.ok⟩
  obtain ⟨cur, hh, _⟩ := own_objM h.om hk
  obtain ⟨cs, ty, hh', ht⟩ := h.cd.type hf
  have := has_type hh hh'
  subst this
  rcases ht with e | e | e <;> exact absurd e (by decide)
theorem Wd.later (h : Wd w0 w t S F v ms ov op) (hB : Below w.heap.size w w') : Wd w0 w' t S F v ms ov op :=
  ⟨h.cd.later hB, h.fb, h.bw.trans (hB.mono h.bw.size), ownLater h.om hB, h.mi.later hB, h.ok⟩
/-- the row of messages grows -/
theorem Wd.msgs (h : Wd w0 w t S F v ms ov op) (hg : w.grownBy w' v.ownBlock) (hr : Ms w0.heap.size w' v' ms') (ho : ∀ z ∈ ms', OkM w0 z) : Wd w0 w' t S F v' ms' ov op := by
  have hm : Mod (fun k => v.ownBlock = some k) w w' := Mod.grown hg (fun k hk => hk)
  have hbase : ∀ k, v.ownBlock = some k → w0.heap.size ≤ k := fun k hk => by obtain ⟨_, _, h2⟩ := own_objM h.om hk; exact h2
  refine ⟨?_, h.fb, h.bw.trans (hm.below h.bw.size hbase), hr, h.mi.stay hm (fun k hk e => ?_), ho⟩
  · refine h.cd.stay hm (fun k hk e => ?_) (fun k cur _ hh e => ?_)
    · obtain ⟨cur, hh, _⟩ := own_objM h.om e
      obtain ⟨cs, ty, hh', ht⟩ := h.cd.type hk
      have := has_type hh hh'
      subst this
      rcases ht with e | e | e <;> exact absurd e (by decide)
    · obtain ⟨cur', hh', _⟩ := own_objM h.om e
      exact absurd (has_type hh hh') (by decide)
  · obtain ⟨cur, hh, _⟩ := h.mi.obj hk
    obtain ⟨cur', hh', _⟩ := own_objM h.om e
    exact absurd (has_type hh hh') (by decide)
/-- the bytes grow -/
theorem Wd.grow (h : Wd w0 w t S F v ms ov op) (hg : w.grownBy w' ov.ownBlock) (hr : Mine w0.heap.size w' ov' op') (hx : ov'.ownBlock = ov.ownBlock ∨ ov'.ownBlock = some w.heap.size) (hD : Cd (fun k => ov.ownBlock ≠ some k) w t S F) : Wd w0 w' t S F v ms ov' op' := by
  have hm : Mod (fun k => ov.ownBlock = some k) w w' := Mod.grown hg (fun k hk => hk)
  have hbase : ∀ k, ov.ownBlock = some k → w0.heap.size ≤ k := fun k hk => by obtain ⟨_, _, h2⟩ := h.mi.obj hk; exact h2
  refine ⟨?_, h.fb, h.bw.trans (hm.below h.bw.size hbase), own_stayM h.om hm (fun k hk e => ?_), hr, h.ok⟩
  · refine (hD.stay hm (fun k hk e => ?_) (fun k cur hd _ e => hd e)).named (fun _ _ _ _ => trivial)
    obtain ⟨cur, hh, _⟩ := h.mi.obj e
    obtain ⟨cs, ty, hh', ht⟩ := h.cd.type hk
    have := has_type hh hh'
    subst this
    rcases ht with e | e | e <;> exact absurd e (by decide)
  · obtain ⟨cur, hh, _⟩ := own_objM h.om hk
    obtain ⟨cur', hh', _⟩ := h.mi.obj e
    exact absurd (has_type hh hh') (by decide)
end
end Go.Proofs.Ytfgoamfoddkafaa.Sq
