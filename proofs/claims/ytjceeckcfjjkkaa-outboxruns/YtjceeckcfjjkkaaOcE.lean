/-
  A part is put, on the box as a value; what is told of one path's chunks; blocks appended to a row.
  Conditions: as at each lemma.
-/
import Derived.Test.YtjceeckcfjjkkaaOcB
namespace Go.Proofs.Ytjceeckcfjjkkaa.Ob
open Go.ChangeShapes Go.WideShapes Go.ChangeAt Go.RowKit Go.Shelf
open Ba (hidden Has cell_lt heap_lt)
set_option linter.unusedVariables false
def OkG4 (s e : Int) : Prop := 0 ≤ s ∧ s < 65536 ∧ 0 ≤ e ∧ e < 65536
def chP (nx pa now : Int) (p : Pt) : Ch := ⟨nx, pa, 1, now, 0, false, 1, p⟩
def pushS (S : St) (pa now : Int) (p : Pt) : St := ⟨S.n, S.c, S.L ++ [chP (nextS S) pa now p]⟩
theorem next_push (S : St) (pa now : Int) (p : Pt) : nextS (pushS S pa now p) = (nextS S + 1) % 4294967296 := by
  unfold nextS pushS
  simp only [List.length_append, List.length_cons, List.length_nil]
  omega
theorem Good.push {K : Nat} {S : St} (h : Good K S) (hK : K + 1 ≤ 1000) {pa now : Int} {p : Pt} (hp : 0 ≤ pa ∧ pa < S.n) (hnow : 0 ≤ now ∧ now ≤ 1099511627776) (hd : 1 ≤ p.d.length ∧ p.d.length ≤ 65536) : Good (K + 1) (pushS S pa now p) := by
  have h4 := h.c0
  have h5 := h.c1
  refine ⟨hK, h.n1, h.n8, h.c0, h.c1, ?_, fun x hx => ?_, fun i x hx => ?_⟩
  · simp only [pushS, List.length_append, List.length_cons, List.length_nil]; have := h.len; omega
  · simp only [pushS] at hx
    rcases List.mem_append.1 hx with hx | hx
    · exact (h.ch x hx).mono (Nat.le_succ K)
    · simp only [List.mem_cons, List.not_mem_nil, or_false] at hx
      subst hx
      exact ⟨hp.1, hp.2, Int.le_refl _, by show (1 : Int) ≤ _; omega, hnow.1, hnow.2, Int.le_refl _, by show (0 : Int) ≤ _; omega, fun _ => by show (0 : Int) ≤ 2; decide, by show (1 : Int) ≤ 1; decide, by show (1 : Int) ≤ 4; decide, hd.1, hd.2⟩
  · simp only [pushS] at hx ⊢
    rcases Nat.lt_or_ge i S.L.length with hi | hi
    · rw [List.getElem?_append_left hi] at hx
      exact h.ts i x hx
    · rw [List.getElem?_append_right hi] at hx
      have : i = S.L.length := by
        have := (List.getElem?_eq_some_iff.1 hx).1
        simp at this
        omega
      subst this
      simp at hx
      subst hx
      show nextS S = _
      unfold nextS
      omega
section
variable {D F Q : Nat → Prop} {w w' : World} {t f : Nat} {rv : Value} {P : List CV} {n K : Nat} {L : List Ch} {S : St} {q : Rq} {now : Int}
theorem putS (h : No D w t f rv P (nextS S) S.n S.L (fun k => fl S.L k) (Ob.mk S.L)) (hG : Good K S) (hD : ∀ k, w.heap.size ≤ k → D k) (pa now : Int) (hpa : 0 ≤ pa ∧ pa < S.n) (hnow : 0 ≤ now ∧ now ≤ 1099511627776) (sm sn pr : Int) (un bg en : Bool) (pb po pl pc : Nat) (d : List Int) (hr : Row w (some ⟨pb, po, none⟩) pl d) (h1 : 1 ≤ pl) (h2 : pl ≤ 65536) :
    Calls Try.prog 17 #[.pointer (some ⟨t, 0, none⟩), .int .i64 pa, pv sm sn pr un bg en (some ⟨pb, po, none⟩) pl pc, .int .i64 now] w fun e w' => e = .returned (.tuple #[.int .u32 (nextS S), .int .i64 0]) ∧
      ∃ rv' P', No D w' t f rv' P' (nextS (pushS S pa now ⟨sm, sn, pr, un, d, bg, en⟩)) S.n (pushS S pa now ⟨sm, sn, pr, un, d, bg, en⟩).L (fun k => fl (pushS S pa now ⟨sm, sn, pr, un, d, bg, en⟩).L k) (Ob.mk (pushS S pa now ⟨sm, sn, pr, un, d, bg, en⟩).L) ∧ Mod (FC t f rv) w w' ∧ ∀ k, rv'.ownBlock = some k → rv.ownBlock = some k ∨ w.heap.size ≤ k := by
  have hx := hG.len
  have hk := hG.k
  refine (put_ok h hG.lk (by omega) hD pa now hpa hnow sm sn pr un bg en pb po pl pc d hr h1 h2).mono ?_
  rintro e w' ⟨rfl, rv', P', hN, hm, ho⟩
  refine ⟨rfl, rv', P', ?_, hm, ho⟩
  rw [next_push]
  exact hN
/-- a box whose second path's chunks were never told of -/
structure Spl (ps : Nat → Bool) (S : St) : Prop where
  n2 : S.n = 2
  at_ : ∀ (i : Nat) (x : Ch), S.L[i]? = some x → x.pa = (if ps i then 1 else 0) ∧ (ps i = true → x.st = 1 ∧ x.mi = 0)
/-- a report of the first path's chunks alone -/
structure SpQ (ps : Nat → Bool) (S : St) (q : Rq) : Prop where
  kd : q.kd = 3
  ts : q.tsn = S.c
  gs : ∀ g ∈ q.gs, ∃ k : Nat, 1 ≤ k ∧ k ≤ S.L.length ∧ ps (k - 1) = false ∧ g = ((k : Int), (k : Int))
variable {ps : Nat → Bool}
theorem SpQ.ns (h : SpQ ps S q) : q.ns = [] := by unfold Rq.ns; rw [if_neg (by rw [h.kd]; decide)]
theorem SpQ.up (h : SpQ ps S q) : upS S q = 0 := by unfold upS; rw [h.ts]; simp
theorem SpQ.tl (h : SpQ ps S q) {i : Nat} (ht : tlS S q i = true) : ps i = false := by
  unfold tlS tlV gdV at ht
  rw [h.ns, h.up] at ht
  simp only [ins, List.any_nil, Nat.not_lt_zero, decide_false, Bool.false_or, Bool.or_false] at ht
  obtain ⟨g, hg, h2⟩ := List.any_eq_true.1 ht
  obtain ⟨k, k1, k2, k3, rfl⟩ := h.gs g hg
  simp only [Bool.and_eq_true, decide_eq_true_eq] at h2
  have : k - 1 = i := by omega
  rw [← this]
  exact k3
theorem SpQ.gd (h : SpQ ps S q) (i : Nat) : gdS S q i = false := by
  unfold gdS gdV
  rw [h.ns, h.up]
  simp [ins]
theorem SpQ.nl (h : SpQ ps S q) {i : Nat} (hn : nwl (tlS S q) S.L i = true) : ps i = false := by
  unfold nwl at hn
  cases hx : S.L[i]? with
  | none => rw [hx] at hn; cases hn
  | some x => rw [hx] at hn; exact h.tl (Bool.and_eq_true _ _ ▸ hn : _ ∧ _).1
theorem SpQ.lat (h : SpQ ps S q) (hS : Spl ps S) (i : Nat) (s : Int) : lat (nwl (tlS S q) S.L) S.L i 1 s = false := by
  cases hl : Ob.lat (nwl (tlS S q) S.L) S.L i 1 s with
  | false => rfl
  | true =>
    obtain ⟨j, y, _, hy, hn, hp, _⟩ := lat_iff.1 hl
    have h1 := (hS.at_ j y hy).1
    rw [h.nl hn, hp] at h1
    cases h1
theorem SpQ.err (h : SpQ ps S q) (hL : S.L.length ≤ 1000) (now : Int) : repE S q now = if 0 ≤ now ∧ now ≤ 1099511627776 then 0 else 1 := by
  have h1 : ord (q.gs ++ q.ns) = true := by
    rw [h.ns, List.append_nil]
    refine List.all_eq_true.2 fun g hg => ?_
    obtain ⟨k, k1, k2, k3, rfl⟩ := h.gs g hg
    simp
    omega
  have h2 : far (q.gs ++ q.ns) ≤ S.L.length := by
    rw [h.ns, List.append_nil]
    have : ∀ gs : List (Int × Int), (∀ g ∈ gs, ∃ k : Nat, 1 ≤ k ∧ k ≤ S.L.length ∧ ps (k - 1) = false ∧ g = ((k : Int), (k : Int))) → far gs ≤ S.L.length := by
      intro gs
      induction gs with
      | nil => intro _; simp only [far]; omega
      | cons g gs ih =>
        intro hg
        obtain ⟨k, k1, k2, k3, rfl⟩ := hg g (by simp)
        have := ih (fun g hh => hg g (by simp [hh]))
        simp only [far]
        omega
    exact this q.gs h.gs
  unfold repE
  rw [if_neg (fun e => e.elim (fun e => e (.inl h.kd)) (fun e => by rw [h1] at e; cases e))]
  rw [h.ts]
  simp only [Int.sub_self]
  by_cases hn : 0 ≤ now ∧ now ≤ 1099511627776
  · rw [if_neg (by omega), if_neg (by decide), if_neg (by omega), if_pos hn]
  · rw [if_pos (by omega), if_neg hn]
theorem SpQ.steps (h : SpQ ps S q) (hS : Spl ps S) {i : Nat} {x : Ch} (hx : S.L[i]? = some x) : (f5 (nwl (tlS S q) S.L) S.L i (f4 (nwl (tlS S q) S.L) (gdS S q) i (f3 (tlS S q) i x))).pa = (if ps i then 1 else 0) ∧ (ps i = true → f5 (nwl (tlS S q) S.L) S.L i (f4 (nwl (tlS S q) S.L) (gdS S q) i (f3 (tlS S q) i x)) = x) := by
  obtain ⟨h1, h2⟩ := hS.at_ i x hx
  refine ⟨by rw [(f5_fix ..).2.1, (f4_fix ..).2.1, (f3_fix ..).2.1, h1], fun hp => ?_⟩
  obtain ⟨s1, s2⟩ := h2 hp
  rw [hp] at h1
  have hnl : nwl (tlS S q) S.L i = false := by
    cases hn : nwl (tlS S q) S.L i with
    | false => rfl
    | true => rw [h.nl hn] at hp; cases hp
  have e3 : f3 (tlS S q) i x = x := by unfold f3; rw [if_neg (fun e => by rw [s1] at e; cases e.1)]
  have e4 : f4 (nwl (tlS S q) S.L) (gdS S q) i x = x := by
    unfold f4 f4a
    rw [h.gd, hnl]
    simp
  rw [e3, e4]
  unfold f5
  rw [if_neg]
  rw [show x.pa = 1 from h1, h.lat hS]
  rintro ⟨_, e⟩
  cases e
theorem SpQ.rep (h : SpQ ps S q) (hS : Spl ps S) : Spl ps (repS S q) ∧ (repS S q).c = S.c ∧ (repS S q).L.length = S.L.length := by
  refine ⟨⟨hS.n2, fun i y hy => ?_⟩, h.ts, ?_⟩
  · unfold repS at hy
    simp only [h.up, List.drop_zero] at hy
    rw [L5_at] at hy
    cases hx : S.L[i]? with
    | none => rw [hx] at hy; cases hy
    | some x =>
      rw [hx] at hy
      simp only [Option.map_some, Option.some.injEq] at hy
      subst hy
      obtain ⟨k1, k2⟩ := h.steps hS hx
      refine ⟨k1, fun hp => ?_⟩
      rw [k2 hp]
      exact (hS.at_ i x hx).2 hp
  · unfold repS
    simp only [h.up, List.drop_zero, L5_len]
theorem SpQ.ak (h : SpQ ps S q) (hS : Spl ps S) (now : Int) : akV (tlS S q) (gdS S q) now S.L 1 = ⟨0, false, -1, 0⟩ := by
  have hno : ∀ (i : Nat) (x : Ch), S.L[i]? = some x → ¬ (nwl (tlS S q) S.L i = true ∧ x.pa = 1) := fun i x hx ⟨e1, e2⟩ => by
    have := (hS.at_ i x hx).1
    rw [h.nl e1, e2] at this
    cases this
  have hmv : ∀ k, mvA (nwl (tlS S q) S.L) 1 S.L k = false := by
    intro k
    induction k with
    | zero => rfl
    | succ k ih =>
      simp only [mvA]
      cases hx : S.L[k]? with
      | none => exact ih
      | some x =>
        simp only []
        split
        · rename_i hc
          simp only [Bool.and_eq_true, decide_eq_true_eq] at hc
          cases hn : nwl (tlS S q) S.L k with
          | false => rfl
          | true => exact absurd ⟨hn, hc.1.2⟩ (hno k x hx)
        · exact ih
  have htr : ∀ k, trA (nwl (tlS S q) S.L) now 1 S.L k = -1 := by
    intro k
    induction k with
    | zero => rfl
    | succ k ih =>
      simp only [trA]
      cases hx : S.L[k]? with
      | none => exact ih
      | some x =>
        simp only []
        rw [if_neg (fun e => hno k x hx ⟨e.1, e.2.1⟩)]
        exact ih
  unfold akV
  rw [hmv, htr, sI_zero S.L _ (fun i x _ hx => by unfold byF; rw [if_neg (hno i x hx)]), sI_zero _ _ (fun i x _ hx => by
    unfold loF
    rw [if_neg]
    rintro ⟨_, e1, _, _, e2⟩
    rw [e2, h.lat hS] at e1
    cases e1)]
theorem Spl.push (hS : Spl ps S) {pa now : Int} {p : Pt} (hp : pa = if ps S.L.length then 1 else 0) : Spl ps (pushS S pa now p) := by
  refine ⟨hS.n2, fun i x hx => ?_⟩
  simp only [pushS] at hx
  rcases Nat.lt_or_ge i S.L.length with hi | hi
  · rw [List.getElem?_append_left hi] at hx
    exact hS.at_ i x hx
  · rw [List.getElem?_append_right hi] at hx
    have : i = S.L.length := by
      have := (List.getElem?_eq_some_iff.1 hx).1
      simp at this
      omega
    subst this
    simp at hx
    subst hx
    exact ⟨hp, fun _ => ⟨rfl, rfl⟩⟩
/-- blocks of one's own in a row -/
def GL (base : Nat) (w : World) (v : Value) (gs : List (Int × Int)) : Prop := w.ownsRow base 65 2 v gs.length (gcs gs) ∧ Gn gs
theorem GL.nil (base : Nat) (w : World) : GL base w (.slice none 0 0) [] := ⟨World.ownsRow_nil _ _ _ _, fun g hg => by cases hg⟩
theorem GL.later {base : Nat} {v : Value} {gs : List (Int × Int)} (h : GL base w v gs) (hB : Below w.heap.size w w') : GL base w' v gs := ⟨ownLater h.1 hB, h.2⟩
theorem GL.obj {base : Nat} {v : Value} {gs : List (Int × Int)} (h : GL base w v gs) {k : Nat} (hk : v.ownBlock = some k) : (∃ cur, Has w k cur 65) ∧ base ≤ k := by
  rcases h.1.2 with ⟨rfl, _⟩ | ⟨g, cap, cur, rfl, hb, hg, r⟩
  · cases hk
  · cases hk; exact ⟨⟨cur, hg⟩, hb⟩
theorem GL.gp {base : Nat} {v : Value} {gs : List (Int × Int)} (h : GL base w v gs) (hl : gs.length ≤ 70368744177664) : Gp (fun _ => True) w v gs := by
  rcases h.1.2 with ⟨rfl, h0⟩ | ⟨g, cap, cur, rfl, hb, hg, h1, h2, h3, h4⟩
  · rw [List.eq_nil_of_length_eq_zero h0]
    exact Gp.nil _ _
  · refine ⟨_, cap, rfl, hl, h.2, .inr ⟨g, 0, rfl, trivial, fun j u hj => ?_⟩⟩
    rw [Nat.zero_add]
    refine Has.cell (cs := cur) (t := 65) hg j ?_
    have hjl := (List.getElem?_eq_some_iff.1 hj).1
    rw [gcs_len] at hjl
    rw [← h4, List.getElem?_take, if_pos hjl] at hj
    simpa using hj
theorem app_gap {base : Nat} {v : Value} {gs : List (Int × Int)} {g0 : Nat} {s e : Int} (h : GL base w v gs) (hN : Has w g0 #[.int .u16 s, .int .u16 e] 65) (hb : OkG4 s e) (hl : gs.length ≤ 100000000) (hbase : base ≤ w.heap.size) (ty : TypeId) :
    ∃ v' w2, (Builtin.append_ #[44, 44] ty #[v, .slice (some ⟨g0, 0, none⟩) 1 1]).run Try.prog w = .ok v' w2 ∧ GL base w2 v' (gs ++ [(s, e)]) ∧ w.grownBy w2 v.ownBlock := by
  obtain ⟨v', w2, h1, h2, h3, _⟩ := Ba.append_at (P := Try.prog) (t := 44) (ty := ty) (c := 1) (m := 1) Try.underlying44 info_gap rfl (by decide) h.1 (ad := ⟨g0, 0, none⟩) (news := gcs [(s, e)]) rfl (fun j u hj => by
    rw [add_at, Nat.zero_add]
    refine hN.cell j ?_
    have : gcs [(s, e)] = [.int .u16 s, .int .u16 e] := rfl
    rw [this] at hj
    rw [← hj]
    exact List.getElem?_toArray (xs := [Value.int .u16 s, Value.int .u16 e]) (i := j)) (gcs_one _) (.inl (by decide)) (by unfold maxLen; omega) (by omega) hbase
  refine ⟨v', w2, h1, ⟨by rw [gcs_append, List.length_append]; exact h2, fun g hg => ?_⟩, h3⟩
  rcases List.mem_append.1 hg with hg | hg
  · exact h.2 g hg
  · simp only [List.mem_cons, List.not_mem_nil, or_false] at hg
    subst hg
    exact hb
end
end Go.Proofs.Ytjceeckcfjjkkaa.Ob
