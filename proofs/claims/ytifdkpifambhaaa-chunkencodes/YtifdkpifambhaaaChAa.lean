/-
  All chunks of bytes: what they are; rows of chunks that grow.
  Conditions: as at each lemma.
-/
import Derived.Test.YtifdkpifambhaaaChT
import Derived.Test.YtifdkpifambhaaaChZ
namespace Go.Proofs.Ytifdkpifambhaaa.Chu
open Go.ChangeShapes Go.WideShapes Go.ChangeAt Go.RowKit
open Par (hidden Bytes Row Prm Prms cell_lt)
set_option linter.unusedVariables false

/-- from p to q these chunks stand -/
def Rds (zs : List Int) : Nat → List Ch → Nat → Prop
  | p, [], q => p = q
  | p, y :: l, q => ∃ m, p < zs.length ∧ Dec (zs.drop p) 0 y m ∧ Rds zs (p + m) l q
theorem Rds.snoc {zs : List Int} {l : List Ch} : ∀ {p q m : Nat} {y : Ch}, Rds zs p l q → q < zs.length → Dec (zs.drop q) 0 y m → Rds zs p (l ++ [y]) (q + m) := by
  induction l with
  | nil => intro p q m y h hq hd; cases h; exact ⟨m, hq, hd, rfl⟩
  | cons x l ih =>
    intro p q m y h hq hd
    obtain ⟨k, h1, h2, h3⟩ := h
    exact ⟨k, h1, h2, ih h3 hq hd⟩
/-- there is none behind -/
def Stop (zs : List Int) (q : Nat) : Prop := zs.length ≤ q ∨ ∃ e y m, e ≠ 0 ∧ Dec (zs.drop q) e y m
theorem Stop.not {zs : List Int} {q m : Nat} {y : Ch} (h : Stop zs q) (hq : q < zs.length) (hd : Dec (zs.drop q) 0 y m) : False := by
  rcases h with h | ⟨e, y', m', he, h⟩
  · omega
  · exact he (hd.one h).1.symm
theorem Rds.one {zs : List Int} {l : List Ch} : ∀ {p q q' : Nat} {l' : List Ch}, Rds zs p l q → Rds zs p l' q' → Stop zs q → Stop zs q' → l = l' ∧ q = q' := by
  induction l with
  | nil =>
    intro p q q' l' h h' s s'
    cases h
    cases l' with
    | nil => exact ⟨rfl, h'⟩
    | cons y l' =>
      obtain ⟨m, h1, h2, _⟩ := h'
      exact (s.not h1 h2).elim
  | cons x l ih =>
    intro p q q' l' h h' s s'
    obtain ⟨m, h1, h2, h3⟩ := h
    cases l' with
    | nil =>
      cases h'
      exact (s'.not h1 h2).elim
    | cons y l' =>
      obtain ⟨m', g1, g2, g3⟩ := h'
      obtain ⟨_, e⟩ := h2.one g2
      obtain ⟨rfl, rfl⟩ := e rfl
      obtain ⟨rfl, rfl⟩ := ih h3 g3 s s'
      exact ⟨rfl, rfl⟩
/-- what All tells: the chunks, the place, the error -/
def AllOut (zs : List Int) (l : List Ch) (p : Nat) (e : Int) : Prop :=
  (e = 0 ∧ p = 0 ∧ ∃ q, Rds zs 0 l q ∧ zs.length ≤ q) ∨ (e ≠ 0 ∧ l = [] ∧ ∃ l' y m, Rds zs 0 l' p ∧ p < zs.length ∧ Dec (zs.drop p) e y m)
theorem AllOut.one {zs : List Int} {l l' : List Ch} {p p' : Nat} {e e' : Int} (h : AllOut zs l p e) (h' : AllOut zs l' p' e') : l = l' ∧ p = p' ∧ e = e' := by
  rcases h with ⟨rfl, rfl, q, h1, h2⟩ | ⟨he, rfl, l1, y, m, h1, h2, h3⟩ <;> rcases h' with ⟨rfl, rfl, q', g1, g2⟩ | ⟨he', rfl, l2, y', m', g1, g2, g3⟩
  · obtain ⟨rfl, _⟩ := h1.one g1 (.inl h2) (.inl g2)
    exact ⟨rfl, rfl, rfl⟩
  · obtain ⟨_, rfl⟩ := h1.one g1 (.inl h2) (.inr ⟨_, _, _, he', g3⟩)
    omega
  · obtain ⟨_, rfl⟩ := h1.one g1 (.inr ⟨_, _, _, he, h3⟩) (.inl g2)
    omega
  · obtain ⟨_, rfl⟩ := h1.one g1 (.inr ⟨_, _, _, he, h3⟩) (.inr ⟨_, _, _, he', g3⟩)
    exact ⟨rfl, rfl, (h3.one g3).1⟩
theorem clen_pos (v : Ch) : 4 ≤ clen v := by
  have := Par.fill4_le (4 + vlen v)
  unfold clen
  omega
/-- chunks that may be are read from their bytes -/
theorem rds_enc : ∀ (vs : List Ch) (pre : List Int), (∀ v ∈ vs, VOk v) → (∀ v ∈ vs, chk v = 0) → Rds (pre ++ encA vs) pre.length vs (pre ++ encA vs).length
  | [], pre, _, _ => by simp [Rds, encA]
  | v :: vs, pre, h1, h2 => by
    have hv := h1 v (List.mem_cons_self ..)
    have hk := h2 v (List.mem_cons_self ..)
    have e : encA (v :: vs) = encC v ++ encA vs := by simp [encA]
    have hl := encC_len v (chk_ok hk).2.2.1
    have hp := clen_pos v
    have ih := rds_enc vs (pre ++ encC v) (fun u hu => h1 u (List.mem_cons_of_mem _ hu)) (fun u hu => h2 u (List.mem_cons_of_mem _ hu))
    rw [List.append_assoc, ← e, List.length_append, hl] at ih
    refine ⟨clen v, ?_, ?_, ih⟩
    · rw [e, List.length_append, List.length_append, hl]
      omega
    · rw [List.drop_left, e]
      exact back v hv hk (encA vs)
/-- a list lies elsewhere -/
def Av (row : Option Nat) (a : Option Addr) (n : Nat) : Prop := n = 0 ∨ ∀ b off s, a = some ⟨b, off, s⟩ → some b ≠ row
/-- all that a chunk holds lies elsewhere -/
def AvC (row : Option Nat) (c : Ck) : Prop := Av row c.ga c.gl ∧ Av row c.na c.nl ∧ Av row c.da c.dl ∧ Av row c.ba c.bl ∧ Av row c.pa c.pl ∧ ∀ p ∈ c.ps, Av row p.2.1 p.2.2.1
theorem av_lies {base n : Nat} {w : World} {a : Option Addr} {xs : List Value} {row : Option Nat} (h : Lies base w a xs) (hx : xs = [] → n = 0) (hr : ∀ b u off, base ≤ b → w.cell? ⟨b, off, none⟩ = some u → some b ≠ row) : Av row a n := by
  rcases h with h0 | ⟨b, off, rfl, hb, hc⟩
  · exact .inl (hx h0)
  · cases xs with
    | nil => exact .inl (hx rfl)
    | cons x xs =>
      refine .inr (fun b' off' s e => ?_)
      cases e
      exact hr b x (off + 0) hb (hc 0 x rfl)
theorem av_row {base n : Nat} {w : World} {a : Option Addr} {zs : List Int} {row : Option Nat} (h : Row base w a n zs) (hr : ∀ b u off, base ≤ b → w.cell? ⟨b, off, none⟩ = some u → some b ≠ row) : Av row a n := by
  rcases Nat.eq_zero_or_pos n with h0 | hp
  · exact .inl h0
  · obtain ⟨b, off, rfl, hb, hc⟩ := h.2.2.2.resolve_left (by omega)
    refine .inr (fun b' off' s e => ?_)
    cases e
    exact hr b _ (off + 0) hb (hc 0 hp)
theorem avC_of {base : Nat} {w : World} {c : Ck} {row : Option Nat} (h : Lsts base w c) (hr : ∀ b u off, base ≤ b → w.cell? ⟨b, off, none⟩ = some u → some b ≠ row) : AvC row c := by
  obtain ⟨l1, l2, l3, l4, _, l5⟩ := h
  refine ⟨av_lies l1.2.2.2 (fun e => ?_) hr, av_lies l2.2.2.2 (fun e => ?_) hr, av_lies l3.2.2.2 (fun e => ?_) hr, av_row l4 hr, ?_, fun p hp => av_row (l5.2.2.1 p hp).2.1 hr⟩
  · have := gcs_len c.gs
    rw [e] at this
    have h2 := l1.1
    rw [List.length_nil] at this
    omega
  · have := gcs_len c.ns
    rw [e] at this
    have h2 := l2.1
    rw [List.length_nil] at this
    omega
  · have := congrArg List.length e
    simp [dcs] at this
    have h2 := l3.1
    rw [this] at h2
    simpa using h2.symm
  · rcases l5.2.2.2 with h0 | ⟨b, off, e, hb, hc⟩
    · exact .inl h0
    · rcases Nat.eq_zero_or_pos c.pl with h0 | hp
      · exact .inl h0
      · refine .inr (fun b' off' s e' => ?_)
        rw [e] at e'
        cases e'
        have hl := l5.1
        exact hr b _ _ hb (hc 0 _ (List.getElem?_eq_getElem (by omega))).1
theorem cell_gr {w w' : World} {row : Option Nat} {b off : Nat} {u : Value} (h : w.cell? ⟨b, off, none⟩ = some u) (hg : w.grownBy w' row) (hne : some b ≠ row) : w'.cell? ⟨b, off, none⟩ = some u := by
  obtain ⟨_, _, _, _, a5⟩ := hg
  have e := a5 b (cell_lt h) hne
  simp only [World.cell?, e] at *
  exact h
theorem lies_gr {base n : Nat} {w w' : World} {a : Option Addr} {xs : List Value} {row : Option Nat} (h : Lies base w a xs) (hx : n = 0 → xs = []) (hav : Av row a n) (hg : w.grownBy w' row) : Lies base w' a xs := by
  rcases h with h0 | ⟨b, off, rfl, hb, hc⟩
  · exact .inl h0
  · rcases hav with h0 | h
    · exact .inl (hx h0)
    · exact .inr ⟨b, off, rfl, hb, fun j u hj => cell_gr (hc j u hj) hg (h b off none rfl)⟩
theorem row_gr {base n : Nat} {w w' : World} {a : Option Addr} {zs : List Int} {row : Option Nat} (h : Row base w a n zs) (hav : Av row a n) (hg : w.grownBy w' row) : Row base w' a n zs := by
  obtain ⟨h1, h2, h3, h4⟩ := h
  refine ⟨h1, h2, h3, ?_⟩
  rcases h4 with h0 | ⟨b, off, rfl, hb, hc⟩
  · exact .inl h0
  · rcases hav with h0 | h
    · exact .inl h0
    · exact .inr ⟨b, off, rfl, hb, fun j hj => cell_gr (hc j hj) hg (h b off none rfl)⟩
theorem lsts_gr {base : Nat} {w w' : World} {c : Ck} {row : Option Nat} (h : Lsts base w c) (hav : AvC row c) (hg : w.grownBy w' row) : Lsts base w' c := by
  obtain ⟨l1, l2, l3, l4, l4', l5⟩ := h
  obtain ⟨a1, a2, a3, a4, a5, a6⟩ := hav
  refine ⟨⟨l1.1, l1.2.1, l1.2.2.1, lies_gr l1.2.2.2 (fun e => ?_) a1 hg⟩, ⟨l2.1, l2.2.1, l2.2.2.1, lies_gr l2.2.2.2 (fun e => ?_) a2 hg⟩, ⟨l3.1, l3.2.1, l3.2.2.1, lies_gr l3.2.2.2 (fun e => ?_) a3 hg⟩, row_gr l4 a4 hg, l4', l5.1, l5.2.1, fun p hp => ⟨(l5.2.2.1 p hp).1, row_gr (l5.2.2.1 p hp).2.1 (a6 p hp) hg, (l5.2.2.1 p hp).2.2⟩, ?_⟩
  · have h2 := l1.1
    rw [e] at h2
    rw [nil_of_len h2]
    rfl
  · have h2 := l2.1
    rw [e] at h2
    rw [nil_of_len h2]
    rfl
  · have h2 := l3.1
    rw [e] at h2
    rw [nil_of_len h2]
    rfl
  · rcases l5.2.2.2 with h0 | ⟨b, off, e, hb, hc⟩
    · exact .inl h0
    · rcases a5 with h0 | h
      · exact .inl h0
      · exact .inr ⟨b, off, e, hb, fun j p hj => ⟨cell_gr (hc j p hj).1 hg (h b off none e), cell_gr (hc j p hj).2 hg (h b off none e)⟩⟩
section
variable {P : Program} {w : World}
/-- where an append leaves the row: where it was, or in the next block -/
theorem append_where {base n m c : Nat} {t ty e : TypeId} {i : TypeInfo} {z : Value} (ht : P.underlying t = some (.slice e)) (hi : P.info? e = some i) (hz : i.zero = some z) {v : Value} {xs : List Value} (hown : w.ownsRow base e i.size v n xs)
    {ad : Addr} {news : List Value} (hl : news.length = m * i.size) (hnews : ∀ j u, news[j]? = some u → w.cell? (ad.add j) = some u) (h1 : ∀ u ∈ news, u.oneCell' = true) (hm : 0 < m) (h63 : n + m ≤ maxLen) (hbytes : (n + m) * i.bytes ≤ 140737488355328)
    {v' : Value} {w' : World} (hr : (Builtin.append_ #[t, t] ty #[v, .slice (some ad) m c]).run P w = .ok v' w') : v'.ownBlock = v.ownBlock ∨ v'.ownBlock = some w.heap.size := by
  have h63' : n + m ≤ 9223372036854775807 := by simp only [maxLen] at h63; omega
  rcases hown.2 with ⟨rfl, rfl⟩ | ⟨g, cap, cur, rfl, hbg, hg, hnc, hcm, hcs, htake⟩
  · have hb := hbytes
    rw [Nat.zero_add] at hb
    rw [run_append_nil (P := P) w t ty e i z ht hi hz ad m c news hl hnews hm (by omega) (by omega)] at hr
    cases hr
    exact .inr rfl
  · by_cases hroom : n + m ≤ cap
    · rw [run_append_room (P := P) w t ty e i ht hi g n cap cur hg ad m c news hl hnews h1 hroom (by rw [hl, hcs, ← Nat.add_mul]; exact Nat.mul_le_mul_right _ hroom)] at hr
      cases hr
      exact .inl rfl
    · rw [run_append_grow (P := P) w t ty e i z ht hi hz ⟨g, 0, none⟩ n cap xs hown.1 (hown.cells (g := g) rfl) ad m c news hl hnews (by omega) (by omega) (growslice_fits (by omega) hbytes)] at hr
      cases hr
      exact .inr rfl
theorem wpList_append_at {ops : Array Oper} {rest : List Oper} {o : Oper} {a : Act} {Q : Exit → Act → World → Prop} (hgd : o.guard = none) (s x : Operand) (t : TypeId)
    (ho : o.op = .call { callee := .builtin .append, args := #[s, x], argTypes := #[t, t] })
    (base : Nat) (e : TypeId) (i : TypeInfo) (z : Value) (ht : P.underlying t = some (.slice e)) (hi : P.info? e = some i) (hz : i.zero = some z) (hzs : z.cells.size = i.size) (hsz : 0 < i.size)
    (v : Value) (n : Nat) (xs : List Value) (hs : a.eval s = v) (hown : w.ownsRow base e i.size v n xs)
    (ad : Addr) (m c : Nat) (news : List Value) (hx : a.eval x = .slice (some ad) m c) (hl : news.length = m * i.size) (hnews : ∀ j u, news[j]? = some u → w.cell? (ad.add j) = some u) (h1 : ∀ u ∈ news, u.oneCell' = true)
    (hm : 0 < m) (h63 : n + m ≤ maxLen) (hbytes : (n + m) * i.bytes ≤ 140737488355328) (hbase : base ≤ w.heap.size)
    (h : ∀ v' w', w'.ownsRow base e i.size v' (n + m) (xs ++ news) → w.grownBy w' v.ownBlock → (v'.ownBlock = v.ownBlock ∨ v'.ownBlock = some w.heap.size) → wpList P ops Q rest (a.put o.dst v') w') : wpList P ops Q (o :: rest) a w := by
  obtain ⟨v', w', hr, h2, h3, _⟩ := run_append_own (P := P) w base t o.type e i z i.size i.bytes ht hi hz rfl rfl hzs hsz v n xs hown ad m c news hl hnews h1 h63 hbytes hbase
  have h5 := append_where (ty := o.type) ht hi hz hown hl hnews h1 hm h63 hbytes hr
  refine wpList_plain hgd fun K hK => ?_
  unfold Oper.wp execOp
  simp only [ho, resolve, invoke, builtin, Sem.run_bind, Sem.run_pure, Result.andThen_ok, List.map_toArray, List.map_cons, List.map_nil, hs, hx, hr]
  exact hK _ _ (h v' w' h2 h3 h5)
end
end Go.Proofs.Ytifdkpifambhaaa.Chu
