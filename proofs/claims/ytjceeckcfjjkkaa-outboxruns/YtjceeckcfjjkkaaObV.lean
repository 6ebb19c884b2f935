/-
  Chunks that a report passes over, from the last one on.
  Conditions: as at each lemma.
-/
import Derived.Test.YtjceeckcfjjkkaaObU
namespace Go.Proofs.Ytjceeckcfjjkkaa.Ob
open Go.ChangeShapes Go.WideShapes Go.ChangeAt Go.RowKit Go.Shelf
open Ba (hidden Has cell_lt heap_lt)
set_option linter.unusedVariables false
section
variable {D F : Nat → Prop} {w w' X X' : World} {t f : Nat} {rv : Value} {P : List CV} {nx : Int} {n : Nat} {L L' M : List Ch} {i g o : Nat} {x y : Ch} {R ap N tb fb nb B : Nat} {fr rn fr' rn' : Int} {ak ak' : Nat → Ak} {tl gd nl : Nat → Bool} {now : Int} {lt : Nat → Int}
/-- from a place on one of the path is newly told, and was not sent ahead -/
def latK (nl : Nat → Bool) (L : List Ch) (k : Nat) (p s : Int) : Prop := ∃ j y, k ≤ j ∧ L[j]? = some y ∧ nl j = true ∧ y.pa = p ∧ s ≤ y.se
theorem lat_K {p s : Int} : lat nl L i p s = true ↔ latK nl L (i + 1) p s := by
  rw [lat_iff]
  exact ⟨fun ⟨j, y, h, r⟩ => ⟨j, y, h, r⟩, fun ⟨j, y, h, r⟩ => ⟨j, y, h, r⟩⟩
/-- the latest sendings -/
def Lt (nl : Nat → Bool) (L : List Ch) (n k : Nat) (lt : Nat → Int) : Prop := ∀ p, p < n → -1 ≤ lt p ∧ lt p ≤ 1099511627776 ∧ ∀ s, 0 ≤ s → (s ≤ lt p ↔ latK nl L k p s)
theorem Lt.start : Lt nl L n L.length (fun _ => -1) := fun p _ => ⟨by show (-1 : Int) ≤ -1; decide, by show (-1 : Int) ≤ 1099511627776; decide, fun s hs => ⟨fun h => by have h : s ≤ -1 := h; omega, fun ⟨j, y, h1, h2, _⟩ => by have := (List.getElem?_eq_some_iff.1 h2).1; omega⟩⟩
theorem Lt.skip {k : Nat} (h : Lt nl L n (k + 1) lt) (hn : nl k = false) : Lt nl L n k lt := fun p hp => by
  obtain ⟨h1, h2, h3⟩ := h p hp
  refine ⟨h1, h2, fun s hs => (h3 s hs).trans ⟨fun ⟨j, y, q, r⟩ => ⟨j, y, by omega, r⟩, fun ⟨j, y, q, q1, q2, r⟩ => ⟨j, y, ?_, q1, q2, r⟩⟩⟩
  rcases Nat.lt_or_ge k j with e | e
  · exact e
  · obtain rfl : j = k := by omega
    rw [hn] at q2; cases q2
theorem Lt.come {k j : Nat} (h : Lt nl L n (k + 1) lt) (hn : nl k = true) (hx : L[k]? = some x) (hj : x.pa = j) (hs : 0 ≤ x.se ∧ x.se ≤ 1099511627776) : Lt nl L n k (fun p => if p = j then max (lt j) x.se else lt p) := fun p hp => by
  obtain ⟨h1, h2, h3⟩ := h p hp
  dsimp only
  by_cases e : p = j
  · subst e
    rw [if_pos rfl]
    refine ⟨by omega, by omega, fun s hs0 => ⟨fun hm => ?_, fun ⟨j, y, q, q1, q2, q3, q4⟩ => ?_⟩⟩
    · by_cases e1 : s ≤ lt p
      · obtain ⟨j, y, q, r⟩ := (h3 s hs0).1 e1
        exact ⟨j, y, by omega, r⟩
      · exact ⟨k, x, Nat.le_refl _, hx, hn, hj, by omega⟩
    · rcases Nat.lt_or_ge k j with e1 | e1
      · have := (h3 s hs0).2 ⟨j, y, e1, q1, q2, q3, q4⟩
        omega
      · obtain rfl : j = k := by omega
        rw [hx] at q1; cases q1
        omega
  · rw [if_neg e]
    refine ⟨h1, h2, fun s hs => (h3 s hs).trans ⟨fun ⟨j, y, q, r⟩ => ⟨j, y, by omega, r⟩, fun ⟨i, y, q, q1, q2, q3, q4⟩ => ⟨i, y, ?_, q1, q2, q3, q4⟩⟩⟩
    rcases Nat.lt_or_ge k i with e1 | e1
    · exact e1
    · obtain rfl : i = k := by omega
      rw [hx] at q1; cases q1
      omega
/-- while it is counted what was passed over -/
structure Mz (w : World) (D : Nat → Prop) (X : World) (t f : Nat) (rv : Value) (nx : Int) (n : Nat) (L : List Ch) (R ap tb fb nb : Nat) (fr rn : Int) (ak : Nat → Ak) (tl gd nl : Nat → Bool) (B : Nat) (lt : Nat → Int) : Prop where
  cx : Cx D X t f rv nx n L R ap tb fb nb fr rn ak tl gd nl
  md : Mod (fun k => FC t f rv k ∨ k = ap) w X
  bl : ∀ k, FX t f rv R ap k → k < w.heap.size
  lB : w.heap.size ≤ B
  lw : Iw X B n lt
theorem Mz.drew (h : Mz w D X t f rv nx n L R ap tb fb nb fr rn ak tl gd nl B lt) : Mz w D X.drew t f rv nx n L R ap tb fb nb fr rn ak tl gd nl B lt := ⟨h.cx.drew, h.md.drewr, h.bl, h.lB, h.lw⟩
theorem Mz.lst (h : Mz w D X t f rv nx n L R ap tb fb nb fr rn ak tl gd nl B lt) (hL : L = L') (ha : ∀ i, i < n → ak i = ak' i) : Mz w D X t f rv nx n L' R ap tb fb nb fr rn ak' tl gd nl B lt := by
  subst hL
  exact ⟨⟨h.cx.no, h.cx.rd, h.cx.aw.congr ha, h.cx.tb_, h.cx.fb_, h.cx.nb_⟩, h.md, h.bl, h.lB, h.lw⟩
theorem Mz.latest (h : Mz w D X t f rv nx n L R ap tb fb nb fr rn ak tl gd nl B lt) {j : Nat} (hj : j < n) (z : Int) : Mz w D (X.setCell ⟨B, j, none⟩ (.int .i64 z)) t f rv nx n L R ap tb fb nb fr rn ak tl gd nl B (fun p => if p = j then z else lt p) := by
  have hm : Mod (fun k => k = B) X (X.setCell ⟨B, j, none⟩ (.int .i64 z)) := Mod.setCell (F := fun k => k = B) X (p := ⟨B, j, none⟩) rfl _
  obtain ⟨P, hN⟩ := h.cx.no
  have hlB := h.lB
  obtain ⟨cs, hB, _⟩ := h.lw
  have hb : ∀ {b : Nat} {q : Nat → Bool}, Bw X b L.length q → Bw (X.setCell ⟨B, j, none⟩ (.int .i64 z)) b L.length q := fun {b q} hb => by
    obtain ⟨cs', hh⟩ := hb.type
    exact hb.stay hm (fun e => hh.ne hB (by decide) e)
  refine ⟨⟨⟨P, hN.stay hm (fun k hk e => ?_) (fun k cur _ h5 e => by subst e; exact h5.ne hB (by decide) rfl)⟩, hm.has h.cx.rh (fun e => h.cx.rh.ne hB (by decide) e), h.cx.aw.stay hm (fun e => by have := h.bl ap (.inr (.inr rfl)); omega), hb h.cx.tb_, hb h.cx.fb_, hb h.cx.nb_⟩, h.md.trans hm (fun x hx => .inr (by omega)), h.bl, h.lB, h.lw.set hj z⟩
  have := h.bl k (.inl hk)
  omega
theorem Mz.box (h : Mz w D X t f rv nx n L R ap tb fb nb fr rn ak tl gd nl B lt) (hm : Mod (fun k => FC t f rv k ∨ k = ap) X X') (hL : L'.length = L.length) (hN : ∃ P, No D X' t f rv P nx n L' (fun k => fl L' k) (Ob.mk L')) (ha : Aw X' ap n ak') : Mz w D X' t f rv nx n L' R ap tb fb nb fr rn ak' tl gd nl B lt := by
  have hR : ¬ (FC t f rv R ∨ R = ap) := fun e => by
    obtain ⟨P0, hN0⟩ := h.cx.no
    rcases e with e | e
    · obtain ⟨cs', ty', hh', e'⟩ := hN0.type e
      have := has_type h.cx.rh hh'
      rcases e' with rfl | rfl | rfl <;> cases this
    · obtain ⟨cs, hh⟩ := h.cx.aw.type
      exact h.cx.rh.ne hh (by decide) e
  refine ⟨h.cx.turn (hm.mono (fun k hk => hk.elim .inl (fun e => .inr (.inr e)))) hL hN (hm.has h.cx.rh hR) ha, h.md.trans hm (fun x hx => .inl hx), h.bl, h.lB, h.lw.stay hm (fun e => ?_)⟩
  have := h.bl B (e.elim .inl (fun e => .inr (.inr e)))
  have := h.lB
  omega
theorem f5_msC (i : Nat) (x : Ch) : f5 nl L i x = if x.st = 1 ∧ lat nl L i x.pa x.se = true then msC x else x := by
  unfold f5 msC msB
  by_cases h : x.st = 1 ∧ lat nl L i x.pa x.se = true
  · rw [if_pos h, if_pos h]
    by_cases h2 : 3 ≤ x.mi + 1 ∧ x.qu = false
    · rw [if_pos h2, if_pos (by simp [h2.1, h2.2])]
    · rw [if_neg h2, if_neg (by simp only [Bool.and_eq_true, decide_eq_true_eq, Bool.not_eq_true']; exact h2)]
  · rw [if_neg h, if_neg h]
theorem loF_ms (p : Int) (i : Nat) (x : Ch) (h : x.st = 1 ∧ lat nl L i x.pa x.se = true) : loF nl L p i x = if p = x.pa ∧ msB x = true then sz x else 0 := by
  unfold loF msB
  by_cases e : p = x.pa ∧ (decide (3 ≤ x.mi + 1) && !x.qu) = true
  · rw [if_pos e]
    obtain ⟨e1, e2⟩ := e
    simp only [Bool.and_eq_true, decide_eq_true_eq, Bool.not_eq_true'] at e2
    rw [if_pos ⟨h.1, h.2, e2.1, e2.2, e1.symm⟩]
  · rw [if_neg e, if_neg]
    rintro ⟨_, _, e1, e2, e3⟩
    exact e ⟨e3.symm, by simp [e1, e2]⟩
theorem loF_no (p : Int) (i : Nat) (x : Ch) (h : ¬ (x.st = 1 ∧ lat nl L i x.pa x.se = true)) : loF nl L p i x = 0 := by
  unfold loF
  rw [if_neg]
  rintro ⟨h1, h2, _⟩
  exact h ⟨h1, h2⟩
/-- from a place on -/
def loD (nl : Nat → Bool) (L M : List Ch) (p : Int) (k : Nat) : Int := sI (loF nl L p) M M.length - sI (loF nl L p) M k
theorem loD_step {p : Int} {k : Nat} (h : M[k]? = some x) : loD nl L M p k = loD nl L M p (k + 1) + loF nl L p k x := by
  unfold loD
  rw [sI_succ h]
  omega
theorem loD_bound {p : Int} {k : Nat} (hk : Lk n M) (hl : k ≤ M.length) : 0 ≤ loD nl L M p k ∧ loD nl L M p k ≤ 65601536 := by
  have key : ∀ m, m ≤ M.length → k ≤ m → sI (loF nl L p) M k ≤ sI (loF nl L p) M m := by
    intro m
    induction m with
    | zero => intro _ h; obtain rfl : k = 0 := by omega
              exact Int.le_refl _
    | succ m ih =>
      intro h1 h2
      rcases Nat.lt_or_ge m k with e | e
      · obtain rfl : k = m + 1 := by omega
        exact Int.le_refl _
      · have := ih (by omega) e
        rw [sI_succ (List.getElem?_eq_getElem (show m < M.length by omega))]
        have : 0 ≤ loF nl L p m M[m] := by unfold loF; have := sz_nn M[m]; split <;> omega
        omega
  have h1 := key M.length (Nat.le_refl _) hl
  have hb : ∀ m, 0 ≤ sI (loF nl L p) M m ∧ sI (loF nl L p) M m ≤ 65536 * (m : Int) := fun m => sI_bound (by decide) M m (fun i y _ hy => by
    have h1 := (hk.2 y (List.mem_of_getElem? hy)).1
    unfold loF sz
    split <;> omega)
  have h2 := hb M.length
  have h3 := hb k
  have h4 := hk.1
  unfold loD
  omega
theorem f5_two (nl : Nat → Bool) (L : List Ch) (i : Nat) (x : Ch) : (f5 nl L i x).p.d = x.p.d ∧ (f5 nl L i x).pa = x.pa := by
  have := f5_fix nl L i x
  exact ⟨by rw [this.2.2.2.1], this.2.1⟩
theorem Lk.dnk {h : Nat → Ch → Ch} (hk : Lk n L) (k : Nat) (hh : ∀ i x, (h i x).p.d = x.p.d ∧ (h i x).pa = x.pa) : Lk n (dn k h L) := by
  refine ⟨by rw [dn_len]; exact hk.1, fun y hy => ?_⟩
  obtain ⟨j, hj⟩ := List.mem_iff_getElem?.1 hy
  rw [dn_at] at hj
  cases hx : L[j]? with
  | none => rw [hx] at hj; cases hj
  | some x =>
    rw [hx] at hj
    cases hj
    have h1 := hk.2 x (List.mem_of_getElem? hx)
    show (if k ≤ j then h j x else x).p.d.length ≤ _ ∧ _ ≤ (if k ≤ j then h j x else x).pa ∧ (if k ≤ j then h j x else x).pa < _
    by_cases e : k ≤ j
    · rw [if_pos e, (hh j x).1, (hh j x).2]; exact h1
    · rw [if_neg e]; exact h1
set_option maxRecDepth 8000 in
set_option maxHeartbeats 4000000 in
theorem countMissing (h : Cx D w t f rv nx n M R ap tb fb nb fr rn ak tl gd nl) (hk : Lk n M) (h1n : 1 ≤ n) (hn : n ≤ 8) (hl : M.length = L.length)
    (hse : ∀ x ∈ M, 0 ≤ x.se ∧ x.se ≤ 1099511627776) (hmi : ∀ x ∈ M, 0 ≤ x.mi ∧ x.mi ≤ 2000 ∧ (x.qu = false → x.mi ≤ 2)) (hML : ∀ (i : Nat) (x : Ch), M[i]? = some x → ∃ y : Ch, L[i]? = some y ∧ y.pa = x.pa ∧ y.se = x.se) (hnl : ∀ (i : Nat) (x : Ch), M[i]? = some x → nl i = true → x.st ≠ 1) (ha : ∀ i, i < n → (ak i).lo = 0) :
    Calls Try.prog 85 #[.pointer (some ⟨R, 0, none⟩)] w fun e w' => e = .returned (.tuple #[]) ∧ Cx D w' t f rv nx n (M.mapIdx (f5 nl L)) R ap tb fb nb fr rn (fun p => { ak p with lo := sI (loF nl L p) M M.length }) tl gd nl ∧ Mod (fun k => FC t f rv k ∨ k = ap) w w' := by
  have c0 := h.rh.cell 0 rfl
  have c3 := h.rh.cell 3 rfl
  have hRl := h.rh.lt
  obtain ⟨W1, hW1⟩ : ∃ W1, W1 = w.alloc (.cells #[.int .i64 (-1)] 3) := ⟨_, rfl⟩
  have hBw : Below w.heap.size w W1 := by rw [hW1]; exact (Below.refl _ w).alloc (Nat.le_refl _) _
  have hs1 : W1.heap.size = w.heap.size + 1 := by rw [hW1]; simp
  have RP := hidden (repeat_ (w := W1) (g := w.heap.size) n h1n hn (by rw [hW1]; exact Has.new w _ _))
  have HC : Hid (Cx D W1 t f rv nx n M R ap tb fb nb fr rn ak tl gd nl) := h.later hBw
  have HBL : Hid (∀ k, FX t f rv R ap k → k < w.heap.size) := fun k hk => h.lt hk
  have HBW := hidden hBw
  have HS1 := hidden hs1
  have HW1 := hidden hW1
  have HK := hidden hk
  have HA := hidden ha
  have HSE := hidden hse
  have HMI := hidden hmi
  have HML := hidden hML
  have HNL := hidden hnl
  have HL := hidden hl
  have HN8 := hidden (And.intro h1n hn)
  clear h hk hW1 hBw hs1 ha hse hmi hML hnl hl h1n hn
  go_enter Try.func85, Try.ntmps85
  go_wp2_with fail
  rw [← HW1.out]
  refine Calls.mono RP.out ?_
  rintro e W2 ⟨rfl, hI2, hB2⟩
  have hs1 := HS1.out
  rw [hs1] at hI2 hB2
  rw [hs1]
  have HZ : Hid (Mz w D W2 t f rv nx n M R ap tb fb nb fr rn ak tl gd nl (w.heap.size + 1) (fun _ => -1)) :=
    ⟨HC.out.later (by rw [hs1]; exact hB2), Mod.of_below (HBW.out.trans (hB2.mono (by omega))), HBL.out, by omega, hI2⟩
  generalize w.heap.size + 1 = B at *
  obtain ⟨P2, hN2⟩ := HZ.out.cx.no
  have d3 := HZ.out.cx.rh.cell 3 rfl
  have d0 := hN2.q.cell 0 rfl
  obtain ⟨ra, rc, hv, _⟩ := hN2.rw_.slice
  rw [hN2.len] at hv
  have HV := hidden hv
  rw [hv] at d0
  generalize hN : M.length = N at *
  have HN := hidden hN
  have hw1 : IntKind.i64.wrap ((N : Int) - 1) = (N : Int) - 1 := by rw [IntKind.wrap_i64]; have := HK.out.1; rw [HN.out] at this; omega
  clear hN2 hI2 hB2 hN RP c0 c3 hRl hs1 hv
  go_wp2_with fail
  go_loopw [3] (fun i W => ∃ k : Nat, i = .int .i64 ((k : Int) - 1) ∧ k ≤ N ∧ ∃ lt, Mz w D W t f rv nx n (dn k (f5 nl L) M) R ap tb fb nb fr rn (fun p => { ak p with lo := loD nl L M p k }) tl gd nl B lt ∧ Lt nl L n k lt) (fun i _ => ((intOf i) + 1).toNat)
  case atStart =>
    refine ⟨N, rfl, Nat.le_refl _, _, HZ.out.lst ?_ (fun i hi => ?_), ?_⟩
    · rw [← HN.out, dn_end]
    · have h1 := HA.out i hi
      have h2 : loD nl L M i N = 0 := by unfold loD; rw [HN.out]; omega
      rw [h2, ← h1]
    · have := Lt.start (nl := nl) (L := L) (n := n)
      rw [← HL.out] at this
      exact this
  case round =>
    obtain ⟨k1, rfl, hkN, lt, hM, hLt⟩ := hrel
    rcases Nat.eq_zero_or_pos k1 with rfl | hpos
    · have G := hidden hM
      clear hM hLt d3 d0
      go_wp2
      go_end0
      refine ⟨rfl, ?_, G.out.md⟩
      have := G.out.lst (L' := M.mapIdx (f5 nl L)) (ak' := fun p => { ak p with lo := sI (loF nl L p) M M.length }) dn_full (fun i hi => by
        have : loD nl L M i 0 = sI (loF nl L i) M M.length := by unfold loD; simp [sI]
        rw [this])
      exact this.cx
    · obtain ⟨k, rfl⟩ : ∃ k, k1 = k + 1 := ⟨k1 - 1, by omega⟩
      have e1 : ((k + 1 : Nat) : Int) - 1 = (k : Int) := by omega
      rw [e1]
      have hkN2 : k < N := by omega
      have HM := hidden (And.intro hM hLt)
      obtain ⟨P3, hN3⟩ := hM.cx.no
      obtain ⟨x, hx⟩ : ∃ x, M[k]? = some x := ⟨_, List.getElem?_eq_getElem (by rw [HN.out]; exact hkN2)⟩
      have hx3 : (dn (k + 1) (f5 nl L) M)[k]? = some x := dn_here hx
      have hlen : (dn (k + 1) (f5 nl L) M).length = N := by rw [dn_len]; exact HN.out
      obtain ⟨g, oo, cap, hrv⟩ : ∃ g oo cap, rv = .slice (some ⟨g, oo, none⟩) N cap := by
        rcases hN3.row with ⟨_, _, h0⟩ | h0
        · rw [hlen] at h0; omega
        · rw [hlen] at h0; exact h0
      have hp : Pl rv k g (oo + k * 14) := ⟨oo, _, _, hrv, rfl⟩
      have hxx := HK.out.2 x (List.mem_of_getElem? hx)
      have hxs := HSE.out x (List.mem_of_getElem? hx)
      have hxm := HMI.out x (List.mem_of_getElem? hx)
      have hxn := HNL.out k x hx
      have hxl := HML.out k x hx
      obtain ⟨j, hj⟩ : ∃ j : Nat, x.pa = j := ⟨x.pa.toNat, by omega⟩
      have hjn : j < n := by omega
      have hLj := hLt j hjn
      obtain ⟨vx, hcl, _, hgl, _⟩ := hN3.chunk hp hx3
      have CP : Hid (wr.drew.cell? ⟨g, oo + k * 14 + 1, none⟩ = some (.int .i64 (j : Int))) := by rw [← hj]; exact hcl 1 _ rfl
      have CS : Hid (wr.drew.cell? ⟨g, oo + k * 14 + 3, none⟩ = some (.int .i64 x.se)) := hcl 3 _ rfl
      have CA : Hid (wr.drew.cell? ⟨B, j, none⟩ = some (.int .i64 (lt j))) := hM.lw.cell hjn
      have HIB : Hid (∀ w, (Instr.indexAt 78 (.slice (some ⟨B, 0, none⟩) n n) (.int .i64 (j : Int))).run Try.prog w = .ok (.pointer (some ⟨B, j, none⟩)) w) := fun w => ix_ints hjn w
      have FL : Hid (Calls Try.prog 60 #[.pointer (some ⟨g, oo + k * 14, none⟩), .int .i64 (j : Int)] wr.drew fun e w' => e = .returned (.bool (decide (x.st = 1))) ∧ wr.drew = w') := by
        have := flies hN3.drew hp hx3 j
        rw [show decide (x.st = 1 ∧ x.pa = (j : Int)) = decide (x.st = 1) by rw [hj]; simp] at this
        exact this
      have EF : Hid (∀ (args : Array Value) (w : World), (callFunc 60 args).run Try.prog w = .ok (.enter 60 args) w) := enters_of Try.func60 (by kernel_rfl) rfl
      have b0 := hN3.q.cell 0 rfl
      rw [hrv] at b0
      have d3 := hM.cx.rh.cell 3 rfl
      have d6 := hM.cx.rh.cell 6 rfl
      rw [hlen] at d6
      have dnb := hM.cx.nb_.cell (j := k) (by rw [hlen]; exact hkN2)
      have hk' : (k : Int) < (N : Int) := by omega
      have hk2 : IntKind.i64.wrap ((k : Int) - 1) = (k : Int) - 1 := by rw [IntKind.wrap_i64]; have := HK.out.1; have := HN.out; omega
      have HLO := hidden (fun p : Int => loD_step (nl := nl) (L := L) (M := M) (p := p) (k := k) hx)
      have HP := hidden hp
      have HX := hidden (And.intro hx hx3)
      have HLEN := hidden hlen
      have HXX := hidden (And.intro hxx (And.intro hxs (And.intro hxm (And.intro hxn hxl))))
      have HJ := hidden (And.intro hj (And.intro hjn hLj))
      have HCL : Hid (f5 nl L k x = if x.st = 1 ∧ x.se ≤ lt j then msC x else x) := by
        show _ = _
        rw [f5_msC]
        have h1 : lat nl L k x.pa x.se = true ↔ x.se ≤ lt j := by rw [lat_K, hj, hLj.2.2 x.se hxs.1]
        by_cases h2 : x.st = 1 ∧ x.se ≤ lt j
        · rw [if_pos h2, if_pos ⟨h2.1, h1.2 h2.2⟩]
        · rw [if_neg h2, if_neg (fun h => h2 ⟨h.1, h1.1 h.2⟩)]
      have HLF : Hid (∀ p : Int, loF nl L p k x = if x.st = 1 ∧ x.se ≤ lt j then (if p = x.pa ∧ msB x = true then sz x else 0) else 0) := fun p => by
        have h1 : lat nl L k x.pa x.se = true ↔ x.se ≤ lt j := by rw [lat_K, hj, hLj.2.2 x.se hxs.1]
        by_cases h2 : x.st = 1 ∧ x.se ≤ lt j
        · rw [if_pos h2, loF_ms p k x ⟨h2.1, h1.2 h2.2⟩]
        · rw [if_neg h2, loF_no p k x (fun h => h2 ⟨h.1, h1.1 h.2⟩)]
      have stay : ¬ (x.st = 1 ∧ x.se ≤ lt j) → ∀ lt' W', Mz w D W' t f rv nx n (dn (k + 1) (f5 nl L) M) R ap tb fb nb fr rn (fun p => { ak p with lo := loD nl L M p (k + 1) }) tl gd nl B lt' → Mz w D W' t f rv nx n (dn k (f5 nl L) M) R ap tb fb nb fr rn (fun p => { ak p with lo := loD nl L M p k }) tl gd nl B lt' := fun hc lt' W' h => by
        have h3 := HCL.out
        rw [if_neg hc] at h3
        exact h.lst (dn_same HX.out.1 h3).symm (fun i hi => by rw [HLO.out, HLF.out, if_neg hc, Int.add_zero])
      have STAY := hidden stay
      clear stay
      generalize hu : nl k = u at *
      have HU := hidden hu
      have HPA : Hid (x.pa = j) := hj
      clear hM hLt hN3 hx hx3 hlen hrv hp hxx hxs hxm hxn hxl hj hjn hLj hcl hu e1 hkN
      cases u with
      | true =>
        have hxs := HXX.out.2.1
        have hLj := HJ.out.2.2
        generalize hse : x.se = se at *
        generalize ha : lt j = a at *
        obtain ⟨mx, hmx⟩ : ∃ mx, mx = max a se := ⟨_, rfl⟩
        have MX : Hid (∀ (w : World) (ty : TypeId), (Builtin.max_ #[3, 3] ty #[.int .i64 a, .int .i64 se]).run Try.prog w = .ok (.int .i64 mx) w) := fun w ty => by
          by_cases e : a < se
          · have e1 : mx = se := by omega
            simp [Builtin.max_, Builtin.max2, e1, e]
          · have e1 : mx = a := by omega
            simp [Builtin.max_, Builtin.max2, e1, e]
        have HST : Hid ((Instr.storeAt 3 (.pointer (some ⟨B, j, none⟩)) (.int .i64 mx)).run Try.prog wr.drew = .ok () (wr.drew.setCell ⟨B, j, none⟩ (.int .i64 mx))) := st_int (w := wr.drew) mx CA.out (HM.out.1.drew.lw.frozen j)
        have G : Hid (∃ lt, Mz w D (wr.drew.setCell ⟨B, j, none⟩ (.int .i64 mx)) t f rv nx n (dn k (f5 nl L) M) R ap tb fb nb fr rn (fun p => { ak p with lo := loD nl L M p k }) tl gd nl B lt ∧ Lt nl L n k lt) := by
          obtain ⟨y, q1, q2, q3⟩ := HXX.out.2.2.2.2
          refine ⟨_, STAY.out (fun hc => HXX.out.2.2.2.1 rfl hc.1) _ _ (HM.out.1.drew.latest HJ.out.2.1 mx), ?_⟩
          have := HM.out.2.come (j := j) HU.out q1 (by rw [q2]; exact HPA.out) (by rw [q3]; exact hxs)
          rw [ha, q3, ← hmx] at this
          exact this
        clear hxs hLj hse ha hmx STAY
        go_upto_region 6 with fail
        refine Ord.wp_region_ex0 (X := Unit) (by kernel_rfl) 91 (fun x => [(some 43, .slice (some ⟨B, 0, none⟩) n n), (some 44, .pointer (some ⟨g, oo + k * 14, none⟩)), (some 45, .pointer (some ⟨g, oo + k * 14, none⟩)), (some 46, .pointer (some ⟨g, oo + k * 14, none⟩)), (some 47, .pointer (some ⟨g, oo + k * 14 + 1, none⟩)), (some 48, .int .i64 (j : Int)), (some 49, .slice (some ⟨B, 0, none⟩) n n), (some 50, .pointer (some ⟨g, oo + k * 14, none⟩)), (some 51, .pointer (some ⟨g, oo + k * 14, none⟩)), (some 52, .pointer (some ⟨g, oo + k * 14, none⟩)), (some 53, .pointer (some ⟨g, oo + k * 14 + 1, none⟩)), (some 54, .int .i64 (j : Int)), (some 55, .pointer (some ⟨B, j, none⟩)), (some 56, .int .i64 a), (some 57, .pointer (some ⟨g, oo + k * 14, none⟩)), (some 58, .pointer (some ⟨g, oo + k * 14, none⟩)), (some 59, .pointer (some ⟨g, oo + k * 14, none⟩)), (some 60, .pointer (some ⟨g, oo + k * 14 + 3, none⟩)), (some 61, .int .i64 se), (some 62, .int .i64 mx), (some 63, .pointer (some ⟨B, j, none⟩)), (none, undef)]) [some 43, some 44, some 45, some 46, some 47, some 48, some 49, some 50, some 51, some 52, some 53, some 54, some 55, some 56, some 57, some 58, some 59, some 60, some 61, some 62, some 63, none] rfl (fun listed hsz hr => Ord.all_listedC (rank := [0, 1, 2, 3, 4, 5, 6, 7, 8, 9, 10, 11, 12, 13, 14, 15, 16, 17, 18, 19, 20, 21]) (by kernel_rfl) hsz hr) (by rfl) (fun _ => rfl) (by kernel_rfl) (Rg.StM [21] (fun skk sxx w' => (skk = 0 → w' = wr.drew) ∧ (skk = 1 → w' = wr.drew.setCell ⟨B, j, none⟩ (.int .i64 mx)))) (fun _ _ _ _ hL h => h.ext (n := 22) (by decide) hL) ?_ ?_ () ?_
        case refine_1 =>
          intro x Lq iq oq ac w' ho hi hcl hdep hF hW
          have f1 : ac.tmps.size = 91 := hF.1
          match iq, ho, hi, hdep with
          | 0, ho, hi, hdep =>
            cases ho
            have da0 : ac.eval (.tmp 2) = .slice (some ⟨B, 0, none⟩) n n := hF.old 2 rfl
            exact Ord.ex_value x rfl rfl (Rg.mv da0 rfl) rfl (hW.keep (by decide))
          | 1, ho, hi, hdep =>
            cases ho
            have da0 : ac.eval (.tmp 4) = .pointer (some ⟨g, oo + k * 14, none⟩) := hF.old 4 rfl
            exact Ord.ex_value x rfl rfl (Rg.mv da0 rfl) rfl (hW.keep (by decide))
          | 2, ho, hi, hdep =>
            cases ho
            have da0 : ac.eval (.tmp 44) = .pointer (some ⟨g, oo + k * 14, none⟩) := hF.2.2.2 1 44 _ rfl (hdep ⟨1, .data⟩ (by simp) rfl)
            exact Ord.ex_value x rfl rfl (Rg.nilc da0 rfl) rfl (hW.keep (by decide))
          | 3, ho, hi, hdep =>
            cases ho
            have da0 : ac.eval (.tmp 45) = .pointer (some ⟨g, oo + k * 14, none⟩) := hF.2.2.2 2 45 _ rfl (hdep ⟨2, .data⟩ (by simp) rfl)
            exact Ord.ex_value x rfl rfl (Rg.fa da0 rfl (by simp [go_sem])) rfl (hW.keep (by decide))
          | 4, ho, hi, hdep =>
            cases ho
            have da0 : ac.eval (.tmp 46) = .pointer (some ⟨g, oo + k * 14, none⟩) := hF.2.2.2 3 46 _ rfl (hdep ⟨3, .data⟩ (by simp) rfl)
            exact Ord.ex_value x rfl rfl (Rg.fa da0 rfl (by simp [go_sem])) rfl (hW.keep (by decide))
          | 5, ho, hi, hdep =>
            cases ho
            have da0 : ac.eval (.tmp 47) = .pointer (some ⟨g, oo + k * 14 + 1, none⟩) := hF.2.2.2 4 47 _ rfl (hdep ⟨4, .data⟩ (by simp) rfl)
            obtain ⟨kq, hlo, hhi, hA⟩ := hW.range 0 0 (.inl rfl) (.inr ⟨21, rfl, (Rg.no_of (fun h => hcl 21 _ rfl (h) ⟨5, .phase⟩ (by simp) rfl) hi)⟩)
            exact Ord.ex_value x rfl rfl (Rg.load da0 rfl (by rw [hA.1 (by omega)]; simp [go_sem, CP.out])) rfl (hW.keep (by decide))
          | 6, ho, hi, hdep =>
            cases ho
            have da0 : ac.eval (.tmp 2) = .slice (some ⟨B, 0, none⟩) n n := hF.old 2 rfl
            exact Ord.ex_value x rfl rfl (Rg.mv da0 rfl) rfl (hW.keep (by decide))
          | 7, ho, hi, hdep =>
            cases ho
            have da0 : ac.eval (.tmp 4) = .pointer (some ⟨g, oo + k * 14, none⟩) := hF.old 4 rfl
            exact Ord.ex_value x rfl rfl (Rg.mv da0 rfl) rfl (hW.keep (by decide))
          | 8, ho, hi, hdep =>
            cases ho
            have da0 : ac.eval (.tmp 50) = .pointer (some ⟨g, oo + k * 14, none⟩) := hF.2.2.2 7 50 _ rfl (hdep ⟨7, .data⟩ (by simp) rfl)
            exact Ord.ex_value x rfl rfl (Rg.nilc da0 rfl) rfl (hW.keep (by decide))
          | 9, ho, hi, hdep =>
            cases ho
            have da0 : ac.eval (.tmp 51) = .pointer (some ⟨g, oo + k * 14, none⟩) := hF.2.2.2 8 51 _ rfl (hdep ⟨8, .data⟩ (by simp) rfl)
            exact Ord.ex_value x rfl rfl (Rg.fa da0 rfl (by simp [go_sem])) rfl (hW.keep (by decide))
          | 10, ho, hi, hdep =>
            cases ho
            have da0 : ac.eval (.tmp 52) = .pointer (some ⟨g, oo + k * 14, none⟩) := hF.2.2.2 9 52 _ rfl (hdep ⟨9, .data⟩ (by simp) rfl)
            exact Ord.ex_value x rfl rfl (Rg.fa da0 rfl (by simp [go_sem])) rfl (hW.keep (by decide))
          | 11, ho, hi, hdep =>
            cases ho
            have da0 : ac.eval (.tmp 53) = .pointer (some ⟨g, oo + k * 14 + 1, none⟩) := hF.2.2.2 10 53 _ rfl (hdep ⟨10, .data⟩ (by simp) rfl)
            obtain ⟨kq, hlo, hhi, hA⟩ := hW.range 0 0 (.inl rfl) (.inr ⟨21, rfl, (Rg.no_of (fun h => hcl 21 _ rfl (h) ⟨11, .phase⟩ (by simp) rfl) hi)⟩)
            exact Ord.ex_value x rfl rfl (Rg.load da0 rfl (by rw [hA.1 (by omega)]; simp [go_sem, CP.out])) rfl (hW.keep (by decide))
          | 12, ho, hi, hdep =>
            cases ho
            have da0 : ac.eval (.tmp 49) = .slice (some ⟨B, 0, none⟩) n n := hF.2.2.2 6 49 _ rfl (hdep ⟨6, .data⟩ (by simp) rfl)
            have da1 : ac.eval (.tmp 54) = .int .i64 (j : Int) := hF.2.2.2 11 54 _ rfl (hdep ⟨11, .data⟩ (by simp) rfl)
            exact Ord.ex_value x rfl rfl (Rg.ix da0 da1 rfl (HIB.out _)) rfl (hW.keep (by decide))
          | 13, ho, hi, hdep =>
            cases ho
            have da0 : ac.eval (.tmp 55) = .pointer (some ⟨B, j, none⟩) := hF.2.2.2 12 55 _ rfl (hdep ⟨12, .data⟩ (by simp) rfl)
            obtain ⟨kq, hlo, hhi, hA⟩ := hW.range 0 0 (.inl rfl) (.inr ⟨21, rfl, (Rg.no_of (fun h => hcl 21 _ rfl (h) ⟨13, .phase⟩ (by simp) rfl) hi)⟩)
            exact Ord.ex_value x rfl rfl (Rg.load da0 rfl (by rw [hA.1 (by omega)]; simp [go_sem, CA.out])) rfl (hW.keep (by decide))
          | 14, ho, hi, hdep =>
            cases ho
            have da0 : ac.eval (.tmp 4) = .pointer (some ⟨g, oo + k * 14, none⟩) := hF.old 4 rfl
            exact Ord.ex_value x rfl rfl (Rg.mv da0 rfl) rfl (hW.keep (by decide))
          | 15, ho, hi, hdep =>
            cases ho
            have da0 : ac.eval (.tmp 57) = .pointer (some ⟨g, oo + k * 14, none⟩) := hF.2.2.2 14 57 _ rfl (hdep ⟨14, .data⟩ (by simp) rfl)
            exact Ord.ex_value x rfl rfl (Rg.nilc da0 rfl) rfl (hW.keep (by decide))
          | 16, ho, hi, hdep =>
            cases ho
            have da0 : ac.eval (.tmp 58) = .pointer (some ⟨g, oo + k * 14, none⟩) := hF.2.2.2 15 58 _ rfl (hdep ⟨15, .data⟩ (by simp) rfl)
            exact Ord.ex_value x rfl rfl (Rg.fa da0 rfl (by simp [go_sem])) rfl (hW.keep (by decide))
          | 17, ho, hi, hdep =>
            cases ho
            have da0 : ac.eval (.tmp 59) = .pointer (some ⟨g, oo + k * 14, none⟩) := hF.2.2.2 16 59 _ rfl (hdep ⟨16, .data⟩ (by simp) rfl)
            exact Ord.ex_value x rfl rfl (Rg.fa da0 rfl (by simp [go_sem])) rfl (hW.keep (by decide))
          | 18, ho, hi, hdep =>
            cases ho
            have da0 : ac.eval (.tmp 60) = .pointer (some ⟨g, oo + k * 14 + 3, none⟩) := hF.2.2.2 17 60 _ rfl (hdep ⟨17, .data⟩ (by simp) rfl)
            obtain ⟨kq, hlo, hhi, hA⟩ := hW.range 0 0 (.inl rfl) (.inr ⟨21, rfl, (Rg.no_of (fun h => hcl 21 _ rfl (h) ⟨18, .phase⟩ (by simp) rfl) hi)⟩)
            exact Ord.ex_value x rfl rfl (Rg.load da0 rfl (by rw [hA.1 (by omega)]; simp [go_sem, CS.out])) rfl (hW.keep (by decide))
          | 19, ho, hi, hdep =>
            cases ho
            have da0 : ac.eval (.tmp 56) = .int .i64 a := hF.2.2.2 13 56 _ rfl (hdep ⟨13, .data⟩ (by simp) rfl)
            have da1 : ac.eval (.tmp 61) = .int .i64 se := hF.2.2.2 18 61 _ rfl (hdep ⟨18, .data⟩ (by simp) rfl)
            exact Ord.ex_value x rfl rfl (Ob.max_ da0 da1 rfl (MX.out _ _)) rfl (hW.keep (by decide))
          | 20, ho, hi, hdep =>
            cases ho
            have da0 : ac.eval (.tmp 43) = .slice (some ⟨B, 0, none⟩) n n := hF.2.2.2 0 43 _ rfl (hdep ⟨0, .data⟩ (by simp) rfl)
            have da1 : ac.eval (.tmp 48) = .int .i64 (j : Int) := hF.2.2.2 5 48 _ rfl (hdep ⟨5, .data⟩ (by simp) rfl)
            exact Ord.ex_value x rfl rfl (Rg.ix da0 da1 rfl (HIB.out _)) rfl (hW.keep (by decide))
          | 21, ho, hi, hdep =>
            cases ho
            have da0 : ac.eval (.tmp 63) = .pointer (some ⟨B, j, none⟩) := hF.2.2.2 20 63 _ rfl (hdep ⟨20, .data⟩ (by simp) rfl)
            have da1 : ac.eval (.tmp 62) = .int .i64 mx := hF.2.2.2 19 62 _ rfl (hdep ⟨19, .data⟩ (by simp) rfl)
            have hA := hW.at (k := 0) rfl hi (.inl rfl)
            have hw := hA.1 rfl
            subst hw
            exact Rg.ex_skip x rfl rfl (Rg.sto da0 da1 rfl HST.out) rfl (hW.next (k := 0) rfl (by decide) hi (.inl rfl) ⟨fun e => absurd e (by decide), fun _ => rfl⟩)
        case refine_3 => exact Rg.StM.first ⟨fun _ => rfl, fun e => absurd e (by decide)⟩
        case refine_2 =>
          intro v' w2 hW
          have hA := hW.last
          have hw2 := hA.2 rfl
          subst hw2
          clear hW hA
          simp only [Ord.puts, Ord.prs]
          go_simp
          go_wp2
          go_roundw
          case rel => exact ⟨k, by simp, by omega, G.out⟩
          case measure => simp only [intOf]; omega
      | false =>
        have hLj := HJ.out.2.2
        have G0 : Hid (Lt nl L n k lt) := HM.out.2.skip HU.out
        by_cases hst : x.st = 1
        · rw [decide_eq_true hst] at FL
          by_cases hge : x.se ≤ lt j
          · have HGE := hidden (decide_eq_true hge)
            obtain ⟨P4, hN4⟩ := HM.out.1.drew.cx.no
            have hxm := HXX.out.2.2.1
            have MS := hidden (miss hN4 ((HK.out.dnk (k + 1) (fun i x => f5_two nl L i x))) HP.out HX.out.2 ⟨hxm.1, hxm.2.1⟩ hxm.2.2 HM.out.1.drew.cx.rd HM.out.1.drew.cx.aw (fun i hi => by
              have := loD_bound (nl := nl) (L := L) (p := i) (k := k + 1) HK.out (by rw [HN.out]; omega)
              show 0 ≤ loD nl L M i (k + 1) ∧ loD nl L M i (k + 1) ≤ 1099511627776
              omega))
            have HC2 := hidden (And.intro hst hge)
            generalize hse : x.se = se at *
            generalize ha : lt j = a at *
            clear hst hge hN4 hLj hxm hse ha
            go_upto_region 7 with fail
            refine Ord.wp_region_ex0 (X := Unit) (by kernel_rfl) 91 (fun x => [(some 65, .pointer (some ⟨g, oo + k * 14, none⟩)), (some 66, .pointer (some ⟨g, oo + k * 14, none⟩)), (some 67, .pointer (some ⟨g, oo + k * 14, none⟩)), (some 68, .pointer (some ⟨g, oo + k * 14, none⟩)), (some 69, .pointer (some ⟨g, oo + k * 14 + 1, none⟩)), (some 70, .int .i64 (j : Int)), (some 71, .bool true), (some 72, .bool true), (some 73, .slice (some ⟨B, 0, none⟩) n n), (some 74, .pointer (some ⟨g, oo + k * 14, none⟩)), (some 75, .pointer (some ⟨g, oo + k * 14, none⟩)), (some 76, .pointer (some ⟨g, oo + k * 14, none⟩)), (some 77, .pointer (some ⟨g, oo + k * 14 + 1, none⟩)), (some 78, .int .i64 (j : Int)), (some 79, .pointer (some ⟨B, j, none⟩)), (some 80, .int .i64 a), (some 81, .pointer (some ⟨g, oo + k * 14, none⟩)), (some 82, .pointer (some ⟨g, oo + k * 14, none⟩)), (some 83, .pointer (some ⟨g, oo + k * 14, none⟩)), (some 84, .pointer (some ⟨g, oo + k * 14 + 3, none⟩)), (some 85, .int .i64 se), (some 86, .bool true), (some 87, .bool true), (some 64, .bool true)]) [some 65, some 66, some 67, some 68, some 69, some 70, some 71, some 72, some 73, some 74, some 75, some 76, some 77, some 78, some 79, some 80, some 81, some 82, some 83, some 84, some 85, some 86, some 87, some 64] rfl (fun listed hsz hr => Ord.all_listedC (rank := [0, 1, 2, 3, 4, 5, 6, 7, 8, 9, 10, 11, 12, 13, 14, 15, 16, 17, 18, 19, 20, 21, 22, 23]) (by kernel_rfl) hsz hr) (by rfl) (fun _ => rfl) (by kernel_rfl) (Rg.StM [] (fun skk sxx w' => w' = wr.drew)) (fun _ _ _ _ hL h => h.ext (n := 24) (by decide) hL) ?_ ?_ () ?_
            case refine_1 =>
              intro x Lq iq oq ac w' ho hi hcl hdep hF hW
              have f1 : ac.tmps.size = 91 := hF.1
              match iq, ho, hi, hdep with
              | 0, ho, hi, hdep =>
                cases ho
                have da0 : ac.eval (.tmp 4) = .pointer (some ⟨g, oo + k * 14, none⟩) := hF.old 4 rfl
                exact Ord.ex_value x rfl rfl (Rg.mv da0 rfl) rfl (hW.keep (by decide))
              | 1, ho, hi, hdep =>
                cases ho
                have da0 : ac.eval (.tmp 4) = .pointer (some ⟨g, oo + k * 14, none⟩) := hF.old 4 rfl
                exact Ord.ex_value x rfl rfl (Rg.mv da0 rfl) rfl (hW.keep (by decide))
              | 2, ho, hi, hdep =>
                cases ho
                have da0 : ac.eval (.tmp 66) = .pointer (some ⟨g, oo + k * 14, none⟩) := hF.2.2.2 1 66 _ rfl (hdep ⟨1, .data⟩ (by simp) rfl)
                exact Ord.ex_value x rfl rfl (Rg.nilc da0 rfl) rfl (hW.keep (by decide))
              | 3, ho, hi, hdep =>
                cases ho
                have da0 : ac.eval (.tmp 67) = .pointer (some ⟨g, oo + k * 14, none⟩) := hF.2.2.2 2 67 _ rfl (hdep ⟨2, .data⟩ (by simp) rfl)
                exact Ord.ex_value x rfl rfl (Rg.fa da0 rfl (by simp [go_sem])) rfl (hW.keep (by decide))
              | 4, ho, hi, hdep =>
                cases ho
                have da0 : ac.eval (.tmp 68) = .pointer (some ⟨g, oo + k * 14, none⟩) := hF.2.2.2 3 68 _ rfl (hdep ⟨3, .data⟩ (by simp) rfl)
                exact Ord.ex_value x rfl rfl (Rg.fa da0 rfl (by simp [go_sem])) rfl (hW.keep (by decide))
              | 5, ho, hi, hdep =>
                cases ho
                have da0 : ac.eval (.tmp 69) = .pointer (some ⟨g, oo + k * 14 + 1, none⟩) := hF.2.2.2 4 69 _ rfl (hdep ⟨4, .data⟩ (by simp) rfl)
                obtain ⟨kq, hlo, hhi, hA⟩ := hW.range 0 0 (.inl rfl) (.inl rfl)
                exact Ord.ex_value x rfl rfl (Rg.load da0 rfl (by rw [hA]; simp [go_sem, CP.out])) rfl (hW.keep (by decide))
              | 6, ho, hi, hdep =>
                cases ho
                have da0 : ac.eval (.tmp 65) = .pointer (some ⟨g, oo + k * 14, none⟩) := hF.2.2.2 0 65 _ rfl (hdep ⟨0, .data⟩ (by simp) rfl)
                have da1 : ac.eval (.tmp 70) = .int .i64 (j : Int) := hF.2.2.2 5 70 _ rfl (hdep ⟨5, .data⟩ (by simp) rfl)
                obtain ⟨kq, hlo, hhi, hA⟩ := hW.range 0 0 (.inl rfl) (.inl rfl)
                have hw := hA
                subst hw
                exact Rg.ex_call x rfl rfl (Rg.enter (args := #[.pointer (some ⟨g, oo + k * 14, none⟩), .int .i64 (j : Int)]) rfl rfl (by simp [da0, da1]) EF.out) (Calls.mono FL.out (by rintro e w2 ⟨rfl, rfl⟩; exact ⟨rfl, (hW.keep (by decide))⟩))
              | 7, ho, hi, hdep =>
                cases ho
                have da0 : ac.eval (.tmp 71) = .bool true := hF.2.2.2 6 71 _ rfl (hdep ⟨6, .data⟩ (by simp) rfl)
                exact Ord.ex_value x rfl rfl (Rg.mv da0 rfl) rfl (hW.keep (by decide))
              | 8, ho, hi, hdep =>
                cases ho
                have dg : ac.eval (.tmp 72) = .bool true := hF.2.2.2 7 72 _ rfl (hdep ⟨7, .guard⟩ (by simp) rfl)
                have da0 : ac.eval (.tmp 2) = .slice (some ⟨B, 0, none⟩) n n := hF.old 2 rfl
                exact Ord.ex_value x rfl (Ord.wanted_of dg (by rw [f1]; decide) rfl rfl) (Rg.mv da0 rfl) rfl (hW.keep (by decide))
              | 9, ho, hi, hdep =>
                cases ho
                have dg : ac.eval (.tmp 72) = .bool true := hF.2.2.2 7 72 _ rfl (hdep ⟨7, .guard⟩ (by simp) rfl)
                have da0 : ac.eval (.tmp 4) = .pointer (some ⟨g, oo + k * 14, none⟩) := hF.old 4 rfl
                exact Ord.ex_value x rfl (Ord.wanted_of dg (by rw [f1]; decide) rfl rfl) (Rg.mv da0 rfl) rfl (hW.keep (by decide))
              | 10, ho, hi, hdep =>
                cases ho
                have dg : ac.eval (.tmp 72) = .bool true := hF.2.2.2 7 72 _ rfl (hdep ⟨7, .guard⟩ (by simp) rfl)
                have da0 : ac.eval (.tmp 74) = .pointer (some ⟨g, oo + k * 14, none⟩) := hF.2.2.2 9 74 _ rfl (hdep ⟨9, .data⟩ (by simp) rfl)
                exact Ord.ex_value x rfl (Ord.wanted_of dg (by rw [f1]; decide) rfl rfl) (Rg.nilc da0 rfl) rfl (hW.keep (by decide))
              | 11, ho, hi, hdep =>
                cases ho
                have dg : ac.eval (.tmp 72) = .bool true := hF.2.2.2 7 72 _ rfl (hdep ⟨7, .guard⟩ (by simp) rfl)
                have da0 : ac.eval (.tmp 75) = .pointer (some ⟨g, oo + k * 14, none⟩) := hF.2.2.2 10 75 _ rfl (hdep ⟨10, .data⟩ (by simp) rfl)
                exact Ord.ex_value x rfl (Ord.wanted_of dg (by rw [f1]; decide) rfl rfl) (Rg.fa da0 rfl (by simp [go_sem])) rfl (hW.keep (by decide))
              | 12, ho, hi, hdep =>
                cases ho
                have dg : ac.eval (.tmp 72) = .bool true := hF.2.2.2 7 72 _ rfl (hdep ⟨7, .guard⟩ (by simp) rfl)
                have da0 : ac.eval (.tmp 76) = .pointer (some ⟨g, oo + k * 14, none⟩) := hF.2.2.2 11 76 _ rfl (hdep ⟨11, .data⟩ (by simp) rfl)
                exact Ord.ex_value x rfl (Ord.wanted_of dg (by rw [f1]; decide) rfl rfl) (Rg.fa da0 rfl (by simp [go_sem])) rfl (hW.keep (by decide))
              | 13, ho, hi, hdep =>
                cases ho
                have dg : ac.eval (.tmp 72) = .bool true := hF.2.2.2 7 72 _ rfl (hdep ⟨7, .guard⟩ (by simp) rfl)
                have da0 : ac.eval (.tmp 77) = .pointer (some ⟨g, oo + k * 14 + 1, none⟩) := hF.2.2.2 12 77 _ rfl (hdep ⟨12, .data⟩ (by simp) rfl)
                obtain ⟨kq, hlo, hhi, hA⟩ := hW.range 0 0 (.inl rfl) (.inl rfl)
                exact Ord.ex_value x rfl (Ord.wanted_of dg (by rw [f1]; decide) rfl rfl) (Rg.load da0 rfl (by rw [hA]; simp [go_sem, CP.out])) rfl (hW.keep (by decide))
              | 14, ho, hi, hdep =>
                cases ho
                have dg : ac.eval (.tmp 72) = .bool true := hF.2.2.2 7 72 _ rfl (hdep ⟨7, .guard⟩ (by simp) rfl)
                have da0 : ac.eval (.tmp 73) = .slice (some ⟨B, 0, none⟩) n n := hF.2.2.2 8 73 _ rfl (hdep ⟨8, .data⟩ (by simp) rfl)
                have da1 : ac.eval (.tmp 78) = .int .i64 (j : Int) := hF.2.2.2 13 78 _ rfl (hdep ⟨13, .data⟩ (by simp) rfl)
                exact Ord.ex_value x rfl (Ord.wanted_of dg (by rw [f1]; decide) rfl rfl) (Rg.ix da0 da1 rfl (HIB.out _)) rfl (hW.keep (by decide))
              | 15, ho, hi, hdep =>
                cases ho
                have dg : ac.eval (.tmp 72) = .bool true := hF.2.2.2 7 72 _ rfl (hdep ⟨7, .guard⟩ (by simp) rfl)
                have da0 : ac.eval (.tmp 79) = .pointer (some ⟨B, j, none⟩) := hF.2.2.2 14 79 _ rfl (hdep ⟨14, .data⟩ (by simp) rfl)
                obtain ⟨kq, hlo, hhi, hA⟩ := hW.range 0 0 (.inl rfl) (.inl rfl)
                exact Ord.ex_value x rfl (Ord.wanted_of dg (by rw [f1]; decide) rfl rfl) (Rg.load da0 rfl (by rw [hA]; simp [go_sem, CA.out])) rfl (hW.keep (by decide))
              | 16, ho, hi, hdep =>
                cases ho
                have dg : ac.eval (.tmp 72) = .bool true := hF.2.2.2 7 72 _ rfl (hdep ⟨7, .guard⟩ (by simp) rfl)
                have da0 : ac.eval (.tmp 4) = .pointer (some ⟨g, oo + k * 14, none⟩) := hF.old 4 rfl
                exact Ord.ex_value x rfl (Ord.wanted_of dg (by rw [f1]; decide) rfl rfl) (Rg.mv da0 rfl) rfl (hW.keep (by decide))
              | 17, ho, hi, hdep =>
                cases ho
                have dg : ac.eval (.tmp 72) = .bool true := hF.2.2.2 7 72 _ rfl (hdep ⟨7, .guard⟩ (by simp) rfl)
                have da0 : ac.eval (.tmp 81) = .pointer (some ⟨g, oo + k * 14, none⟩) := hF.2.2.2 16 81 _ rfl (hdep ⟨16, .data⟩ (by simp) rfl)
                exact Ord.ex_value x rfl (Ord.wanted_of dg (by rw [f1]; decide) rfl rfl) (Rg.nilc da0 rfl) rfl (hW.keep (by decide))
              | 18, ho, hi, hdep =>
                cases ho
                have dg : ac.eval (.tmp 72) = .bool true := hF.2.2.2 7 72 _ rfl (hdep ⟨7, .guard⟩ (by simp) rfl)
                have da0 : ac.eval (.tmp 82) = .pointer (some ⟨g, oo + k * 14, none⟩) := hF.2.2.2 17 82 _ rfl (hdep ⟨17, .data⟩ (by simp) rfl)
                exact Ord.ex_value x rfl (Ord.wanted_of dg (by rw [f1]; decide) rfl rfl) (Rg.fa da0 rfl (by simp [go_sem])) rfl (hW.keep (by decide))
              | 19, ho, hi, hdep =>
                cases ho
                have dg : ac.eval (.tmp 72) = .bool true := hF.2.2.2 7 72 _ rfl (hdep ⟨7, .guard⟩ (by simp) rfl)
                have da0 : ac.eval (.tmp 83) = .pointer (some ⟨g, oo + k * 14, none⟩) := hF.2.2.2 18 83 _ rfl (hdep ⟨18, .data⟩ (by simp) rfl)
                exact Ord.ex_value x rfl (Ord.wanted_of dg (by rw [f1]; decide) rfl rfl) (Rg.fa da0 rfl (by simp [go_sem])) rfl (hW.keep (by decide))
              | 20, ho, hi, hdep =>
                cases ho
                have dg : ac.eval (.tmp 72) = .bool true := hF.2.2.2 7 72 _ rfl (hdep ⟨7, .guard⟩ (by simp) rfl)
                have da0 : ac.eval (.tmp 84) = .pointer (some ⟨g, oo + k * 14 + 3, none⟩) := hF.2.2.2 19 84 _ rfl (hdep ⟨19, .data⟩ (by simp) rfl)
                obtain ⟨kq, hlo, hhi, hA⟩ := hW.range 0 0 (.inl rfl) (.inl rfl)
                exact Ord.ex_value x rfl (Ord.wanted_of dg (by rw [f1]; decide) rfl rfl) (Rg.load da0 rfl (by rw [hA]; simp [go_sem, CS.out])) rfl (hW.keep (by decide))
              | 21, ho, hi, hdep =>
                cases ho
                have dg : ac.eval (.tmp 72) = .bool true := hF.2.2.2 7 72 _ rfl (hdep ⟨7, .guard⟩ (by simp) rfl)
                have da0 : ac.eval (.tmp 80) = .int .i64 a := hF.2.2.2 15 80 _ rfl (hdep ⟨15, .data⟩ (by simp) rfl)
                have da1 : ac.eval (.tmp 85) = .int .i64 se := hF.2.2.2 20 85 _ rfl (hdep ⟨20, .data⟩ (by simp) rfl)
                exact Ord.ex_value x rfl (Ord.wanted_of dg (by rw [f1]; decide) rfl rfl) (Rg.bin da0 da1 rfl (by simp [go_sem, HGE.out])) rfl (hW.keep (by decide))
              | 22, ho, hi, hdep =>
                cases ho
                have da0 : ac.eval (.tmp 72) = .bool true := hF.2.2.2 7 72 _ rfl (hdep ⟨7, .data⟩ (by simp) rfl)
                have da1 : ac.eval (.tmp 86) = .bool true := hF.2.2.2 21 86 _ rfl (hdep ⟨21, .data⟩ (by simp) rfl)
                exact Ord.ex_value x rfl rfl (Rg.pick_t da0 da1 rfl) rfl (hW.keep (by decide))
              | 23, ho, hi, hdep =>
                cases ho
                have da0 : ac.eval (.tmp 87) = .bool true := hF.2.2.2 22 87 _ rfl (hdep ⟨22, .data⟩ (by simp) rfl)
                exact Ord.ex_value x rfl rfl (Rg.asg da0 rfl) rfl (hW.keep (by decide))
            case refine_3 => exact Rg.StM.first rfl
            case refine_2 =>
              intro v' w2 hW
              have hw2 := hW.last
              subst hw2
              clear hW
              simp only [Ord.puts, Ord.prs]
              go_simp
              go_wp2_with fail
              refine Calls.mono MS.out ?_
              rintro e w4 ⟨rfl, hP4, hA4, hm4⟩
              have G : Hid (∃ lt, Mz w D w4 t f rv nx n (dn k (f5 nl L) M) R ap tb fb nb fr rn (fun p => { ak p with lo := loD nl L M p k }) tl gd nl B lt ∧ Lt nl L n k lt) := by
                have h3 := HCL.out
                rw [if_pos HC2.out] at h3
                rw [← h3, dn_set HX.out.1] at hP4
                refine ⟨lt, (HM.out.1.drew.box hm4 (by rw [dn_len, dn_len]) hP4 hA4).lst rfl (fun i hi => ?_), G0.out⟩
                rw [HLO.out, HLF.out, if_pos HC2.out]
                by_cases e : (i : Int) = x.pa ∧ msB x = true
                · rw [if_pos e, if_pos e]
                · rw [if_neg e, if_neg e, Int.add_zero]
              clear hP4 hA4 hm4
              go_wp2
              go_roundw
              case rel => exact ⟨k, by simp, by omega, G.out⟩
              case measure => simp only [intOf]; omega
          · have HGE := hidden (decide_eq_false hge)
            have G : Hid (∃ lt, Mz w D wr.drew t f rv nx n (dn k (f5 nl L) M) R ap tb fb nb fr rn (fun p => { ak p with lo := loD nl L M p k }) tl gd nl B lt ∧ Lt nl L n k lt) := ⟨lt, STAY.out (fun hc => hge hc.2) _ _ HM.out.1.drew, G0.out⟩
            generalize hse : x.se = se at *
            generalize ha : lt j = a at *
            clear hst hge hLj hse ha STAY
            go_upto_region 7 with fail
            refine Ord.wp_region_ex0 (X := Unit) (by kernel_rfl) 91 (fun x => [(some 65, .pointer (some ⟨g, oo + k * 14, none⟩)), (some 66, .pointer (some ⟨g, oo + k * 14, none⟩)), (some 67, .pointer (some ⟨g, oo + k * 14, none⟩)), (some 68, .pointer (some ⟨g, oo + k * 14, none⟩)), (some 69, .pointer (some ⟨g, oo + k * 14 + 1, none⟩)), (some 70, .int .i64 (j : Int)), (some 71, .bool true), (some 72, .bool true), (some 73, .slice (some ⟨B, 0, none⟩) n n), (some 74, .pointer (some ⟨g, oo + k * 14, none⟩)), (some 75, .pointer (some ⟨g, oo + k * 14, none⟩)), (some 76, .pointer (some ⟨g, oo + k * 14, none⟩)), (some 77, .pointer (some ⟨g, oo + k * 14 + 1, none⟩)), (some 78, .int .i64 (j : Int)), (some 79, .pointer (some ⟨B, j, none⟩)), (some 80, .int .i64 a), (some 81, .pointer (some ⟨g, oo + k * 14, none⟩)), (some 82, .pointer (some ⟨g, oo + k * 14, none⟩)), (some 83, .pointer (some ⟨g, oo + k * 14, none⟩)), (some 84, .pointer (some ⟨g, oo + k * 14 + 3, none⟩)), (some 85, .int .i64 se), (some 86, .bool false), (some 87, .bool false), (some 64, .bool false)]) [some 65, some 66, some 67, some 68, some 69, some 70, some 71, some 72, some 73, some 74, some 75, some 76, some 77, some 78, some 79, some 80, some 81, some 82, some 83, some 84, some 85, some 86, some 87, some 64] rfl (fun listed hsz hr => Ord.all_listedC (rank := [0, 1, 2, 3, 4, 5, 6, 7, 8, 9, 10, 11, 12, 13, 14, 15, 16, 17, 18, 19, 20, 21, 22, 23]) (by kernel_rfl) hsz hr) (by rfl) (fun _ => rfl) (by kernel_rfl) (Rg.StM [] (fun skk sxx w' => w' = wr.drew)) (fun _ _ _ _ hL h => h.ext (n := 24) (by decide) hL) ?_ ?_ () ?_
            case refine_1 =>
              intro x Lq iq oq ac w' ho hi hcl hdep hF hW
              have f1 : ac.tmps.size = 91 := hF.1
              match iq, ho, hi, hdep with
              | 0, ho, hi, hdep =>
                cases ho
                have da0 : ac.eval (.tmp 4) = .pointer (some ⟨g, oo + k * 14, none⟩) := hF.old 4 rfl
                exact Ord.ex_value x rfl rfl (Rg.mv da0 rfl) rfl (hW.keep (by decide))
              | 1, ho, hi, hdep =>
                cases ho
                have da0 : ac.eval (.tmp 4) = .pointer (some ⟨g, oo + k * 14, none⟩) := hF.old 4 rfl
                exact Ord.ex_value x rfl rfl (Rg.mv da0 rfl) rfl (hW.keep (by decide))
              | 2, ho, hi, hdep =>
                cases ho
                have da0 : ac.eval (.tmp 66) = .pointer (some ⟨g, oo + k * 14, none⟩) := hF.2.2.2 1 66 _ rfl (hdep ⟨1, .data⟩ (by simp) rfl)
                exact Ord.ex_value x rfl rfl (Rg.nilc da0 rfl) rfl (hW.keep (by decide))
              | 3, ho, hi, hdep =>
                cases ho
                have da0 : ac.eval (.tmp 67) = .pointer (some ⟨g, oo + k * 14, none⟩) := hF.2.2.2 2 67 _ rfl (hdep ⟨2, .data⟩ (by simp) rfl)
                exact Ord.ex_value x rfl rfl (Rg.fa da0 rfl (by simp [go_sem])) rfl (hW.keep (by decide))
              | 4, ho, hi, hdep =>
                cases ho
                have da0 : ac.eval (.tmp 68) = .pointer (some ⟨g, oo + k * 14, none⟩) := hF.2.2.2 3 68 _ rfl (hdep ⟨3, .data⟩ (by simp) rfl)
                exact Ord.ex_value x rfl rfl (Rg.fa da0 rfl (by simp [go_sem])) rfl (hW.keep (by decide))
              | 5, ho, hi, hdep =>
                cases ho
                have da0 : ac.eval (.tmp 69) = .pointer (some ⟨g, oo + k * 14 + 1, none⟩) := hF.2.2.2 4 69 _ rfl (hdep ⟨4, .data⟩ (by simp) rfl)
                obtain ⟨kq, hlo, hhi, hA⟩ := hW.range 0 0 (.inl rfl) (.inl rfl)
                exact Ord.ex_value x rfl rfl (Rg.load da0 rfl (by rw [hA]; simp [go_sem, CP.out])) rfl (hW.keep (by decide))
              | 6, ho, hi, hdep =>
                cases ho
                have da0 : ac.eval (.tmp 65) = .pointer (some ⟨g, oo + k * 14, none⟩) := hF.2.2.2 0 65 _ rfl (hdep ⟨0, .data⟩ (by simp) rfl)
                have da1 : ac.eval (.tmp 70) = .int .i64 (j : Int) := hF.2.2.2 5 70 _ rfl (hdep ⟨5, .data⟩ (by simp) rfl)
                obtain ⟨kq, hlo, hhi, hA⟩ := hW.range 0 0 (.inl rfl) (.inl rfl)
                have hw := hA
                subst hw
                exact Rg.ex_call x rfl rfl (Rg.enter (args := #[.pointer (some ⟨g, oo + k * 14, none⟩), .int .i64 (j : Int)]) rfl rfl (by simp [da0, da1]) EF.out) (Calls.mono FL.out (by rintro e w2 ⟨rfl, rfl⟩; exact ⟨rfl, (hW.keep (by decide))⟩))
              | 7, ho, hi, hdep =>
                cases ho
                have da0 : ac.eval (.tmp 71) = .bool true := hF.2.2.2 6 71 _ rfl (hdep ⟨6, .data⟩ (by simp) rfl)
                exact Ord.ex_value x rfl rfl (Rg.mv da0 rfl) rfl (hW.keep (by decide))
              | 8, ho, hi, hdep =>
                cases ho
                have dg : ac.eval (.tmp 72) = .bool true := hF.2.2.2 7 72 _ rfl (hdep ⟨7, .guard⟩ (by simp) rfl)
                have da0 : ac.eval (.tmp 2) = .slice (some ⟨B, 0, none⟩) n n := hF.old 2 rfl
                exact Ord.ex_value x rfl (Ord.wanted_of dg (by rw [f1]; decide) rfl rfl) (Rg.mv da0 rfl) rfl (hW.keep (by decide))
              | 9, ho, hi, hdep =>
                cases ho
                have dg : ac.eval (.tmp 72) = .bool true := hF.2.2.2 7 72 _ rfl (hdep ⟨7, .guard⟩ (by simp) rfl)
                have da0 : ac.eval (.tmp 4) = .pointer (some ⟨g, oo + k * 14, none⟩) := hF.old 4 rfl
                exact Ord.ex_value x rfl (Ord.wanted_of dg (by rw [f1]; decide) rfl rfl) (Rg.mv da0 rfl) rfl (hW.keep (by decide))
              | 10, ho, hi, hdep =>
                cases ho
                have dg : ac.eval (.tmp 72) = .bool true := hF.2.2.2 7 72 _ rfl (hdep ⟨7, .guard⟩ (by simp) rfl)
                have da0 : ac.eval (.tmp 74) = .pointer (some ⟨g, oo + k * 14, none⟩) := hF.2.2.2 9 74 _ rfl (hdep ⟨9, .data⟩ (by simp) rfl)
                exact Ord.ex_value x rfl (Ord.wanted_of dg (by rw [f1]; decide) rfl rfl) (Rg.nilc da0 rfl) rfl (hW.keep (by decide))
              | 11, ho, hi, hdep =>
                cases ho
                have dg : ac.eval (.tmp 72) = .bool true := hF.2.2.2 7 72 _ rfl (hdep ⟨7, .guard⟩ (by simp) rfl)
                have da0 : ac.eval (.tmp 75) = .pointer (some ⟨g, oo + k * 14, none⟩) := hF.2.2.2 10 75 _ rfl (hdep ⟨10, .data⟩ (by simp) rfl)
                exact Ord.ex_value x rfl (Ord.wanted_of dg (by rw [f1]; decide) rfl rfl) (Rg.fa da0 rfl (by simp [go_sem])) rfl (hW.keep (by decide))
              | 12, ho, hi, hdep =>
                cases ho
                have dg : ac.eval (.tmp 72) = .bool true := hF.2.2.2 7 72 _ rfl (hdep ⟨7, .guard⟩ (by simp) rfl)
                have da0 : ac.eval (.tmp 76) = .pointer (some ⟨g, oo + k * 14, none⟩) := hF.2.2.2 11 76 _ rfl (hdep ⟨11, .data⟩ (by simp) rfl)
                exact Ord.ex_value x rfl (Ord.wanted_of dg (by rw [f1]; decide) rfl rfl) (Rg.fa da0 rfl (by simp [go_sem])) rfl (hW.keep (by decide))
              | 13, ho, hi, hdep =>
                cases ho
                have dg : ac.eval (.tmp 72) = .bool true := hF.2.2.2 7 72 _ rfl (hdep ⟨7, .guard⟩ (by simp) rfl)
                have da0 : ac.eval (.tmp 77) = .pointer (some ⟨g, oo + k * 14 + 1, none⟩) := hF.2.2.2 12 77 _ rfl (hdep ⟨12, .data⟩ (by simp) rfl)
                obtain ⟨kq, hlo, hhi, hA⟩ := hW.range 0 0 (.inl rfl) (.inl rfl)
                exact Ord.ex_value x rfl (Ord.wanted_of dg (by rw [f1]; decide) rfl rfl) (Rg.load da0 rfl (by rw [hA]; simp [go_sem, CP.out])) rfl (hW.keep (by decide))
              | 14, ho, hi, hdep =>
                cases ho
                have dg : ac.eval (.tmp 72) = .bool true := hF.2.2.2 7 72 _ rfl (hdep ⟨7, .guard⟩ (by simp) rfl)
                have da0 : ac.eval (.tmp 73) = .slice (some ⟨B, 0, none⟩) n n := hF.2.2.2 8 73 _ rfl (hdep ⟨8, .data⟩ (by simp) rfl)
                have da1 : ac.eval (.tmp 78) = .int .i64 (j : Int) := hF.2.2.2 13 78 _ rfl (hdep ⟨13, .data⟩ (by simp) rfl)
                exact Ord.ex_value x rfl (Ord.wanted_of dg (by rw [f1]; decide) rfl rfl) (Rg.ix da0 da1 rfl (HIB.out _)) rfl (hW.keep (by decide))
              | 15, ho, hi, hdep =>
                cases ho
                have dg : ac.eval (.tmp 72) = .bool true := hF.2.2.2 7 72 _ rfl (hdep ⟨7, .guard⟩ (by simp) rfl)
                have da0 : ac.eval (.tmp 79) = .pointer (some ⟨B, j, none⟩) := hF.2.2.2 14 79 _ rfl (hdep ⟨14, .data⟩ (by simp) rfl)
                obtain ⟨kq, hlo, hhi, hA⟩ := hW.range 0 0 (.inl rfl) (.inl rfl)
                exact Ord.ex_value x rfl (Ord.wanted_of dg (by rw [f1]; decide) rfl rfl) (Rg.load da0 rfl (by rw [hA]; simp [go_sem, CA.out])) rfl (hW.keep (by decide))
              | 16, ho, hi, hdep =>
                cases ho
                have dg : ac.eval (.tmp 72) = .bool true := hF.2.2.2 7 72 _ rfl (hdep ⟨7, .guard⟩ (by simp) rfl)
                have da0 : ac.eval (.tmp 4) = .pointer (some ⟨g, oo + k * 14, none⟩) := hF.old 4 rfl
                exact Ord.ex_value x rfl (Ord.wanted_of dg (by rw [f1]; decide) rfl rfl) (Rg.mv da0 rfl) rfl (hW.keep (by decide))
              | 17, ho, hi, hdep =>
                cases ho
                have dg : ac.eval (.tmp 72) = .bool true := hF.2.2.2 7 72 _ rfl (hdep ⟨7, .guard⟩ (by simp) rfl)
                have da0 : ac.eval (.tmp 81) = .pointer (some ⟨g, oo + k * 14, none⟩) := hF.2.2.2 16 81 _ rfl (hdep ⟨16, .data⟩ (by simp) rfl)
                exact Ord.ex_value x rfl (Ord.wanted_of dg (by rw [f1]; decide) rfl rfl) (Rg.nilc da0 rfl) rfl (hW.keep (by decide))
              | 18, ho, hi, hdep =>
                cases ho
                have dg : ac.eval (.tmp 72) = .bool true := hF.2.2.2 7 72 _ rfl (hdep ⟨7, .guard⟩ (by simp) rfl)
                have da0 : ac.eval (.tmp 82) = .pointer (some ⟨g, oo + k * 14, none⟩) := hF.2.2.2 17 82 _ rfl (hdep ⟨17, .data⟩ (by simp) rfl)
                exact Ord.ex_value x rfl (Ord.wanted_of dg (by rw [f1]; decide) rfl rfl) (Rg.fa da0 rfl (by simp [go_sem])) rfl (hW.keep (by decide))
              | 19, ho, hi, hdep =>
                cases ho
                have dg : ac.eval (.tmp 72) = .bool true := hF.2.2.2 7 72 _ rfl (hdep ⟨7, .guard⟩ (by simp) rfl)
                have da0 : ac.eval (.tmp 83) = .pointer (some ⟨g, oo + k * 14, none⟩) := hF.2.2.2 18 83 _ rfl (hdep ⟨18, .data⟩ (by simp) rfl)
                exact Ord.ex_value x rfl (Ord.wanted_of dg (by rw [f1]; decide) rfl rfl) (Rg.fa da0 rfl (by simp [go_sem])) rfl (hW.keep (by decide))
              | 20, ho, hi, hdep =>
                cases ho
                have dg : ac.eval (.tmp 72) = .bool true := hF.2.2.2 7 72 _ rfl (hdep ⟨7, .guard⟩ (by simp) rfl)
                have da0 : ac.eval (.tmp 84) = .pointer (some ⟨g, oo + k * 14 + 3, none⟩) := hF.2.2.2 19 84 _ rfl (hdep ⟨19, .data⟩ (by simp) rfl)
                obtain ⟨kq, hlo, hhi, hA⟩ := hW.range 0 0 (.inl rfl) (.inl rfl)
                exact Ord.ex_value x rfl (Ord.wanted_of dg (by rw [f1]; decide) rfl rfl) (Rg.load da0 rfl (by rw [hA]; simp [go_sem, CS.out])) rfl (hW.keep (by decide))
              | 21, ho, hi, hdep =>
                cases ho
                have dg : ac.eval (.tmp 72) = .bool true := hF.2.2.2 7 72 _ rfl (hdep ⟨7, .guard⟩ (by simp) rfl)
                have da0 : ac.eval (.tmp 80) = .int .i64 a := hF.2.2.2 15 80 _ rfl (hdep ⟨15, .data⟩ (by simp) rfl)
                have da1 : ac.eval (.tmp 85) = .int .i64 se := hF.2.2.2 20 85 _ rfl (hdep ⟨20, .data⟩ (by simp) rfl)
                exact Ord.ex_value x rfl (Ord.wanted_of dg (by rw [f1]; decide) rfl rfl) (Rg.bin da0 da1 rfl (by simp [go_sem, HGE.out])) rfl (hW.keep (by decide))
              | 22, ho, hi, hdep =>
                cases ho
                have da0 : ac.eval (.tmp 72) = .bool true := hF.2.2.2 7 72 _ rfl (hdep ⟨7, .data⟩ (by simp) rfl)
                have da1 : ac.eval (.tmp 86) = .bool false := hF.2.2.2 21 86 _ rfl (hdep ⟨21, .data⟩ (by simp) rfl)
                exact Ord.ex_value x rfl rfl (Rg.pick_t da0 da1 rfl) rfl (hW.keep (by decide))
              | 23, ho, hi, hdep =>
                cases ho
                have da0 : ac.eval (.tmp 87) = .bool false := hF.2.2.2 22 87 _ rfl (hdep ⟨22, .data⟩ (by simp) rfl)
                exact Ord.ex_value x rfl rfl (Rg.asg da0 rfl) rfl (hW.keep (by decide))
            case refine_3 => exact Rg.StM.first rfl
            case refine_2 =>
              intro v' w2 hW
              have hw2 := hW.last
              subst hw2
              clear hW
              simp only [Ord.puts, Ord.prs]
              go_simp
              go_wp2
              go_roundw
              case rel => exact ⟨k, by simp, by omega, G.out⟩
              case measure => simp only [intOf]; omega
        · rw [decide_eq_false hst] at FL
          have G : Hid (∃ lt, Mz w D wr.drew t f rv nx n (dn k (f5 nl L) M) R ap tb fb nb fr rn (fun p => { ak p with lo := loD nl L M p k }) tl gd nl B lt ∧ Lt nl L n k lt) := ⟨lt, STAY.out (fun hc => hst hc.1) _ _ HM.out.1.drew, G0.out⟩
          generalize hse : x.se = se at *
          generalize ha : lt j = a at *
          clear hst hLj hse ha STAY
          go_upto_region 7 with fail
          refine Ord.wp_region_ex0 (X := Unit) (by kernel_rfl) 91 (fun x => [(some 65, .pointer (some ⟨g, oo + k * 14, none⟩)), (some 66, .pointer (some ⟨g, oo + k * 14, none⟩)), (some 67, .pointer (some ⟨g, oo + k * 14, none⟩)), (some 68, .pointer (some ⟨g, oo + k * 14, none⟩)), (some 69, .pointer (some ⟨g, oo + k * 14 + 1, none⟩)), (some 70, .int .i64 (j : Int)), (some 71, .bool false), (some 72, .bool false), (some 73, undef), (some 74, undef), (some 75, undef), (some 76, undef), (some 77, undef), (some 78, undef), (some 79, undef), (some 80, undef), (some 81, undef), (some 82, undef), (some 83, undef), (some 84, undef), (some 85, undef), (some 86, undef), (some 87, .bool false), (some 64, .bool false)]) [some 65, some 66, some 67, some 68, some 69, some 70, some 71, some 72, some 73, some 74, some 75, some 76, some 77, some 78, some 79, some 80, some 81, some 82, some 83, some 84, some 85, some 86, some 87, some 64] rfl (fun listed hsz hr => Ord.all_listedC (rank := [0, 1, 2, 3, 4, 5, 6, 7, 8, 9, 10, 11, 12, 13, 14, 15, 16, 17, 18, 19, 20, 21, 22, 23]) (by kernel_rfl) hsz hr) (by rfl) (fun _ => rfl) (by kernel_rfl) (Rg.StM [] (fun skk sxx w' => w' = wr.drew)) (fun _ _ _ _ hL h => h.ext (n := 24) (by decide) hL) ?_ ?_ () ?_
          case refine_1 =>
            intro x Lq iq oq ac w' ho hi hcl hdep hF hW
            have f1 : ac.tmps.size = 91 := hF.1
            match iq, ho, hi, hdep with
            | 0, ho, hi, hdep =>
              cases ho
              have da0 : ac.eval (.tmp 4) = .pointer (some ⟨g, oo + k * 14, none⟩) := hF.old 4 rfl
              exact Ord.ex_value x rfl rfl (Rg.mv da0 rfl) rfl (hW.keep (by decide))
            | 1, ho, hi, hdep =>
              cases ho
              have da0 : ac.eval (.tmp 4) = .pointer (some ⟨g, oo + k * 14, none⟩) := hF.old 4 rfl
              exact Ord.ex_value x rfl rfl (Rg.mv da0 rfl) rfl (hW.keep (by decide))
            | 2, ho, hi, hdep =>
              cases ho
              have da0 : ac.eval (.tmp 66) = .pointer (some ⟨g, oo + k * 14, none⟩) := hF.2.2.2 1 66 _ rfl (hdep ⟨1, .data⟩ (by simp) rfl)
              exact Ord.ex_value x rfl rfl (Rg.nilc da0 rfl) rfl (hW.keep (by decide))
            | 3, ho, hi, hdep =>
              cases ho
              have da0 : ac.eval (.tmp 67) = .pointer (some ⟨g, oo + k * 14, none⟩) := hF.2.2.2 2 67 _ rfl (hdep ⟨2, .data⟩ (by simp) rfl)
              exact Ord.ex_value x rfl rfl (Rg.fa da0 rfl (by simp [go_sem])) rfl (hW.keep (by decide))
            | 4, ho, hi, hdep =>
              cases ho
              have da0 : ac.eval (.tmp 68) = .pointer (some ⟨g, oo + k * 14, none⟩) := hF.2.2.2 3 68 _ rfl (hdep ⟨3, .data⟩ (by simp) rfl)
              exact Ord.ex_value x rfl rfl (Rg.fa da0 rfl (by simp [go_sem])) rfl (hW.keep (by decide))
            | 5, ho, hi, hdep =>
              cases ho
              have da0 : ac.eval (.tmp 69) = .pointer (some ⟨g, oo + k * 14 + 1, none⟩) := hF.2.2.2 4 69 _ rfl (hdep ⟨4, .data⟩ (by simp) rfl)
              obtain ⟨kq, hlo, hhi, hA⟩ := hW.range 0 0 (.inl rfl) (.inl rfl)
              exact Ord.ex_value x rfl rfl (Rg.load da0 rfl (by rw [hA]; simp [go_sem, CP.out])) rfl (hW.keep (by decide))
            | 6, ho, hi, hdep =>
              cases ho
              have da0 : ac.eval (.tmp 65) = .pointer (some ⟨g, oo + k * 14, none⟩) := hF.2.2.2 0 65 _ rfl (hdep ⟨0, .data⟩ (by simp) rfl)
              have da1 : ac.eval (.tmp 70) = .int .i64 (j : Int) := hF.2.2.2 5 70 _ rfl (hdep ⟨5, .data⟩ (by simp) rfl)
              obtain ⟨kq, hlo, hhi, hA⟩ := hW.range 0 0 (.inl rfl) (.inl rfl)
              have hw := hA
              subst hw
              exact Rg.ex_call x rfl rfl (Rg.enter (args := #[.pointer (some ⟨g, oo + k * 14, none⟩), .int .i64 (j : Int)]) rfl rfl (by simp [da0, da1]) EF.out) (Calls.mono FL.out (by rintro e w2 ⟨rfl, rfl⟩; exact ⟨rfl, (hW.keep (by decide))⟩))
            | 7, ho, hi, hdep =>
              cases ho
              have da0 : ac.eval (.tmp 71) = .bool false := hF.2.2.2 6 71 _ rfl (hdep ⟨6, .data⟩ (by simp) rfl)
              exact Ord.ex_value x rfl rfl (Rg.mv da0 rfl) rfl (hW.keep (by decide))
            | 8, ho, hi, hdep =>
              cases ho
              have dg : ac.eval (.tmp 72) = .bool false := hF.2.2.2 7 72 _ rfl (hdep ⟨7, .guard⟩ (by simp) rfl)
              exact Cw.ex_not x rfl (Ord.wanted_no (bv := true) dg (by rw [f1]; decide) rfl rfl) rfl (hW.keep (by decide))
            | 9, ho, hi, hdep =>
              cases ho
              have dg : ac.eval (.tmp 72) = .bool false := hF.2.2.2 7 72 _ rfl (hdep ⟨7, .guard⟩ (by simp) rfl)
              exact Cw.ex_not x rfl (Ord.wanted_no (bv := true) dg (by rw [f1]; decide) rfl rfl) rfl (hW.keep (by decide))
            | 10, ho, hi, hdep =>
              cases ho
              have dg : ac.eval (.tmp 72) = .bool false := hF.2.2.2 7 72 _ rfl (hdep ⟨7, .guard⟩ (by simp) rfl)
              exact Cw.ex_not x rfl (Ord.wanted_no (bv := true) dg (by rw [f1]; decide) rfl rfl) rfl (hW.keep (by decide))
            | 11, ho, hi, hdep =>
              cases ho
              have dg : ac.eval (.tmp 72) = .bool false := hF.2.2.2 7 72 _ rfl (hdep ⟨7, .guard⟩ (by simp) rfl)
              exact Cw.ex_not x rfl (Ord.wanted_no (bv := true) dg (by rw [f1]; decide) rfl rfl) rfl (hW.keep (by decide))
            | 12, ho, hi, hdep =>
              cases ho
              have dg : ac.eval (.tmp 72) = .bool false := hF.2.2.2 7 72 _ rfl (hdep ⟨7, .guard⟩ (by simp) rfl)
              exact Cw.ex_not x rfl (Ord.wanted_no (bv := true) dg (by rw [f1]; decide) rfl rfl) rfl (hW.keep (by decide))
            | 13, ho, hi, hdep =>
              cases ho
              have dg : ac.eval (.tmp 72) = .bool false := hF.2.2.2 7 72 _ rfl (hdep ⟨7, .guard⟩ (by simp) rfl)
              exact Cw.ex_not x rfl (Ord.wanted_no (bv := true) dg (by rw [f1]; decide) rfl rfl) rfl (hW.keep (by decide))
            | 14, ho, hi, hdep =>
              cases ho
              have dg : ac.eval (.tmp 72) = .bool false := hF.2.2.2 7 72 _ rfl (hdep ⟨7, .guard⟩ (by simp) rfl)
              exact Cw.ex_not x rfl (Ord.wanted_no (bv := true) dg (by rw [f1]; decide) rfl rfl) rfl (hW.keep (by decide))
            | 15, ho, hi, hdep =>
              cases ho
              have dg : ac.eval (.tmp 72) = .bool false := hF.2.2.2 7 72 _ rfl (hdep ⟨7, .guard⟩ (by simp) rfl)
              exact Cw.ex_not x rfl (Ord.wanted_no (bv := true) dg (by rw [f1]; decide) rfl rfl) rfl (hW.keep (by decide))
            | 16, ho, hi, hdep =>
              cases ho
              have dg : ac.eval (.tmp 72) = .bool false := hF.2.2.2 7 72 _ rfl (hdep ⟨7, .guard⟩ (by simp) rfl)
              exact Cw.ex_not x rfl (Ord.wanted_no (bv := true) dg (by rw [f1]; decide) rfl rfl) rfl (hW.keep (by decide))
            | 17, ho, hi, hdep =>
              cases ho
              have dg : ac.eval (.tmp 72) = .bool false := hF.2.2.2 7 72 _ rfl (hdep ⟨7, .guard⟩ (by simp) rfl)
              exact Cw.ex_not x rfl (Ord.wanted_no (bv := true) dg (by rw [f1]; decide) rfl rfl) rfl (hW.keep (by decide))
            | 18, ho, hi, hdep =>
              cases ho
              have dg : ac.eval (.tmp 72) = .bool false := hF.2.2.2 7 72 _ rfl (hdep ⟨7, .guard⟩ (by simp) rfl)
              exact Cw.ex_not x rfl (Ord.wanted_no (bv := true) dg (by rw [f1]; decide) rfl rfl) rfl (hW.keep (by decide))
            | 19, ho, hi, hdep =>
              cases ho
              have dg : ac.eval (.tmp 72) = .bool false := hF.2.2.2 7 72 _ rfl (hdep ⟨7, .guard⟩ (by simp) rfl)
              exact Cw.ex_not x rfl (Ord.wanted_no (bv := true) dg (by rw [f1]; decide) rfl rfl) rfl (hW.keep (by decide))
            | 20, ho, hi, hdep =>
              cases ho
              have dg : ac.eval (.tmp 72) = .bool false := hF.2.2.2 7 72 _ rfl (hdep ⟨7, .guard⟩ (by simp) rfl)
              exact Cw.ex_not x rfl (Ord.wanted_no (bv := true) dg (by rw [f1]; decide) rfl rfl) rfl (hW.keep (by decide))
            | 21, ho, hi, hdep =>
              cases ho
              have dg : ac.eval (.tmp 72) = .bool false := hF.2.2.2 7 72 _ rfl (hdep ⟨7, .guard⟩ (by simp) rfl)
              exact Cw.ex_not x rfl (Ord.wanted_no (bv := true) dg (by rw [f1]; decide) rfl rfl) rfl (hW.keep (by decide))
            | 22, ho, hi, hdep =>
              cases ho
              have da0 : ac.eval (.tmp 72) = .bool false := hF.2.2.2 7 72 _ rfl (hdep ⟨7, .data⟩ (by simp) rfl)
              have da1 : ac.eval (.tmp 86) = undef := hF.2.2.2 21 86 _ rfl (hdep ⟨21, .data⟩ (by simp) rfl)
              exact Ord.ex_value x rfl rfl (Rg.pick_f da0 rfl rfl) rfl (hW.keep (by decide))
            | 23, ho, hi, hdep =>
              cases ho
              have da0 : ac.eval (.tmp 87) = .bool false := hF.2.2.2 22 87 _ rfl (hdep ⟨22, .data⟩ (by simp) rfl)
              exact Ord.ex_value x rfl rfl (Rg.asg da0 rfl) rfl (hW.keep (by decide))
          case refine_3 => exact Rg.StM.first rfl
          case refine_2 =>
            intro v' w2 hW
            have hw2 := hW.last
            subst hw2
            clear hW
            simp only [Ord.puts, Ord.prs]
            go_simp
            go_wp2
            go_roundw
            case rel => exact ⟨k, by simp, by omega, G.out⟩
            case measure => simp only [intOf]; omega
end
end Go.Proofs.Ytjceeckcfjjkkaa.Ob
