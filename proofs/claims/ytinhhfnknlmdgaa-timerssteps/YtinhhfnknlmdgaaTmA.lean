/-
  Timers in memory: a map of numbers, a row of timers, a heap, a table; the smallest functions.
  Conditions: as at each lemma.
-/
import Derived.Test.YtinhhfnknlmdgaaTmM
import Derived.Test.YtinhhfnknlmdgaaRg
import Derived.OpenShut
import Derived.Deep.OwnRows
namespace Go.Proofs.Ytinhhfnknlmdgaa.Tm
open Go.ChangeShapes Go.WideShapes Go.ChangeAt Go.RowKit
open Ba (hidden Only In Has own_ne own_stay own_len own_some own_mono cell_lt heap_lt)
set_option linter.unusedVariables false

/-- an int -/
def I64 (n : Int) : Prop := -9223372036854775808 ≤ n ∧ n ≤ 9223372036854775807
theorem wf64 {n : Int} (h : I64 n) : (Lit.int .i64 n).wf = true := by
  unfold I64 at h
  simp [Lit.wf, IntKind.min, IntKind.max, IntKind.signed, IntKind.bits]
  omega
theorem of_wf64 {n : Int} (h : (Lit.int .i64 n).wf = true) : I64 n := by
  simp [Lit.wf, IntKind.min, IntKind.max, IntKind.signed, IntKind.bits] at h
  unfold I64
  omega

/-- a map of numbers in block b, with n entries -/
def Mp (w : World) (b : Nat) (f : Int → Option Int) (n : Nat) : Prop :=
  ∃ Dm : DataW Unit, w.ownsMap Try.prog 3 (plainElem Try.prog 3) b n Dm ∧ Maps.size Dm = n ∧
    ∀ k, I64 k → (f k = none → Maps.has Dm (.int .i64 k) = false) ∧ ∀ v, f k = some v → Maps.has Dm (.int .i64 k) = true ∧ ∀ z, Dm.atKey (.int .i64 k) z = .lit (.int .i64 v)
theorem Mp.lt {w : World} {b n : Nat} {f : Int → Option Int} (h : Mp w b f n) : b < w.heap.size := by
  obtain ⟨Dm, h1, _⟩ := h; exact h1.lt
theorem Mp.of_block {w w' : World} {b n : Nat} {f : Int → Option Int} (h : Mp w b f n) (hb : w'.heap[b]? = w.heap[b]?) : Mp w' b f n := by
  obtain ⟨Dm, ⟨es, clock, e1, r⟩, h2⟩ := h
  exact ⟨Dm, ⟨es, clock, hb.trans e1, r⟩, h2⟩
theorem Mp.stay {w w' : World} {b n : Nat} {f : Int → Option Int} {F : List Nat} (h : Mp w b f n) (ho : Only F w w') (hn : b ∉ F) : Mp w' b f n := h.of_block (ho.block b h.lt hn)
theorem Mp.ne {w : World} {b b' n : Nat} {f : Int → Option Int} {cs : Array Value} {t : TypeId} (h : Mp w b f n) (h' : Has w b' cs t) : b ≠ b' := fun e => by
  subst e
  obtain ⟨Dm, ⟨es, clock, e1, _⟩, _⟩ := h
  have e2 : w.heap[b]? = some (.cells cs t (0, 0)) := h'
  rw [e1] at e2
  cases e2
theorem Mp.ne_own {w : World} {b n base E s m : Nat} {f : Int → Option Int} {v : Value} {xs : List Value} (h : Mp w b f n) (h' : w.ownsRow base E s v m xs) : ∀ k, v.ownBlock = some k → b ≠ k := by
  intro k hk e
  subst e
  obtain ⟨Dm, ⟨es, clock, e1, _⟩, _⟩ := h
  rcases h'.2 with ⟨rfl, _⟩ | ⟨g, cap, cur, rfl, _, hg, _⟩
  · cases hk
  · cases hk
    rw [e1] at hg
    cases hg
theorem mp_made (w : World) : Mp (w.alloc (.map #[] 0)) w.heap.size (fun _ => none) 0 :=
  ⟨.map [], World.ownsMap_made w _ _ _, rfl, fun k _ => ⟨fun _ => rfl, fun v h => by cases h⟩⟩
theorem keyed : Maps.Keyed Try.prog 3 := Maps.int_keyed Try.underlying3
theorem mp_look {w : World} {b n : Nat} {f : Int → Option Int} (h : Mp w b f n) {k : Int} (hk : I64 k) : (Instr.lookup 64 (.map (some b)) (.int .i64 k) true).run Try.prog w = .ok (.tuple #[.int .i64 ((f k).getD 0), .bool (f k).isSome]) w := by
  obtain ⟨Dm, h1, h2, h3⟩ := h
  obtain ⟨v, ps, hr, hv⟩ := h1.look_ok keyed Try.underlying64 (zd := .lit (.int .i64 0)) (zp := []) (z := .int .i64 0) (by rfl) (plainElem_int Try.underlying3 (by decide)) (Maps.keyOf_int_mk Try.underlying3 (wf64 hk))
  obtain ⟨c, rfl, hc, _⟩ := plainElem_int_inv Try.underlying3 hv
  rw [hr]
  cases hf : f k with
  | none =>
    have hh := (h3 k hk).1 hf
    have := congrArg Prod.fst hc
    simp only [Maps.atKey_of_not_has hh] at this
    cases this
    rw [hh]; rfl
  | some u =>
    obtain ⟨g1, g2⟩ := (h3 k hk).2 u hf
    have := congrArg Prod.fst hc
    simp only [g2] at this
    cases this
    rw [g1]; rfl
theorem mp_store {w : World} {b n : Nat} {f : Int → Option Int} (h : Mp w b f n) {k v : Int} (hk : I64 k) (hv : I64 v) (hn : n < 1000000) : ∃ w', (Instr.mapUpdate 64 (.map (some b)) (.int .i64 k) (.int .i64 v)).run Try.prog w = .ok () w' ∧ Mp w' b (upd f k v) (if (f k).isSome then n else n + 1) ∧ w.mapTurned w' b := by
  obtain ⟨Dm, h1, h2, h3⟩ := h
  obtain ⟨w', hr, g1, g2⟩ := h1.store keyed Try.underlying64 (by unfold maxLen; omega) (Maps.keyOf_int_mk Try.underlying3 (wf64 hk)) (plainElem_int Try.underlying3 (wf64 hv))
  have hkl : WideAt.IsKeyLit (.int .i64 k) := keyed.key (Maps.keyOf_int_mk Try.underlying3 (wf64 hk))
  have hhas : Maps.has Dm (.int .i64 k) = (f k).isSome := by
    cases hf : f k with
    | none => exact (h3 k hk).1 hf
    | some u => exact ((h3 k hk).2 u hf).1
  have hsz := Maps.size_put (k := .int .i64 k) (h1.tidy keyed) (.lit (.int .i64 v))
  rw [hhas, h2] at hsz
  refine ⟨w', hr, ⟨Dm.put (.int .i64 k) (.lit (.int .i64 v)), ?_, hsz, fun x hx => ?_⟩, g2⟩
  · obtain ⟨es, clock, e1, e2, e3, e4⟩ := g1
    refine ⟨es, clock, e1, e2, ?_, e4⟩
    rw [← hsz, e4]
    simp [Maps.size, length_sorted]
  · by_cases e : x = k
    · subst e
      refine ⟨fun h0 => by simp [upd] at h0, fun u hu => ?_⟩
      simp [upd] at hu
      subst hu
      exact ⟨Maps.has_put_same h1.isMap hkl _, fun z => Maps.atKey_put_same h1.isMap hkl _ _⟩
    · have e' : (Lit.int .i64 x) ≠ Lit.int .i64 k := fun h => e (by cases h; rfl)
      rw [Maps.has_put_other e']
      unfold upd
      rw [if_neg e]
      exact ⟨(h3 x hx).1, fun u hu => ⟨((h3 x hx).2 u hu).1, fun z => (Maps.atKey_put_other e' _ _).trans (((h3 x hx).2 u hu).2 z)⟩⟩
theorem mp_drop {w : World} {b n : Nat} {f : Int → Option Int} (h : Mp w b f (n + 1)) {k v : Int} (hk : I64 k) (hf : f k = some v) (ty : TypeId) : ∃ w', (Builtin.delete_ #[64, 3] ty #[.map (some b), .int .i64 k]).run Try.prog w = .ok (.tuple #[]) w' ∧ Mp w' b (del f k) n ∧ w.mapTurned w' b := by
  obtain ⟨Dm, h1, h2, h3⟩ := h
  obtain ⟨w', hr, g1, g2⟩ := h1.drop keyed Try.underlying64 (Maps.keyOf_int_mk Try.underlying3 (wf64 hk)) ty
  have hsz := Maps.size_del (k := .int .i64 k) (h1.tidy keyed)
  rw [((h3 k hk).2 v hf).1, h2] at hsz
  have hsz : Maps.size (Dm.del (.int .i64 k)) = n := by simpa using hsz
  refine ⟨w', hr, ⟨Dm.del (.int .i64 k), ?_, hsz, fun x hx => ?_⟩, g2⟩
  · obtain ⟨es, clock, e1, e2, e3, e4⟩ := g1
    refine ⟨es, clock, e1, e2, ?_, e4⟩
    rw [← hsz, e4]
    simp [Maps.size, length_sorted]
  · by_cases e : x = k
    · subst e
      exact ⟨fun _ => Maps.has_del_same, fun u hu => by simp [del] at hu⟩
    · have e' : (Lit.int .i64 x) ≠ Lit.int .i64 k := fun h => e (by cases h; rfl)
      rw [Maps.has_del_other e']
      unfold del
      rw [if_neg e]
      exact ⟨(h3 x hx).1, fun u hu => ⟨((h3 x hx).2 u hu).1, fun z => (Maps.atKey_del_other e' _).trans (((h3 x hx).2 u hu).2 z)⟩⟩

/-- a timer's cells -/
def dc (d : D) : List Value := [.int .i64 d.1, .int .i64 d.2]
def dv (d : D) : Value := .agg #[.int .i64 d.1, .int .i64 d.2]
def dcs (X : List D) : List Value := X.flatMap dc
theorem dcs_len (X : List D) : (dcs X).length = X.length * 2 := by
  induction X with
  | nil => rfl
  | cons d X ih => simp only [dcs, List.flatMap_cons, List.length_append] at ih ⊢; rw [ih]; simp [dc]; omega
theorem dcs_app (X Y : List D) : dcs (X ++ Y) = dcs X ++ dcs Y := List.flatMap_append
theorem dcs_at : ∀ (X : List D) (j : Nat), j < X.length → (dcs X)[j * 2]? = some (.int .i64 (at_ X j).1) ∧ (dcs X)[j * 2 + 1]? = some (.int .i64 (at_ X j).2)
  | [], j, h => by simp at h
  | d :: r, 0, _ => by simp [dcs, dc, at_]
  | d :: r, j + 1, h => by
    have ih := dcs_at r j (by simpa using h)
    have e : dcs (d :: r) = dc d ++ dcs r := List.flatMap_cons
    rw [e, List.getElem?_append_right (by simp [dc]; omega), List.getElem?_append_right (by simp [dc]; omega)]
    rw [show (j + 1) * 2 - (dc d).length = j * 2 by simp [dc]; omega, show (j + 1) * 2 + 1 - (dc d).length = j * 2 + 1 by simp [dc]; omega]
    simpa [at_] using ih
theorem dcs_set : ∀ (X : List D) (j : Nat) (d : D), j < X.length → ((dcs X).set (j * 2) (.int .i64 d.1)).set (j * 2 + 1) (.int .i64 d.2) = dcs (X.set j d)
  | [], j, d, h => by simp at h
  | x :: r, 0, d, _ => by simp [dcs, dc]
  | x :: r, j + 1, d, h => by
    have ih := dcs_set r j d (by simpa using h)
    have e : dcs (x :: r) = dc x ++ dcs r := List.flatMap_cons
    have e2 : dcs ((x :: r).set (j + 1) d) = dc x ++ dcs (r.set j d) := by rw [List.set_cons_succ]; exact List.flatMap_cons
    rw [e, e2, ← ih, List.set_append_right _ _ (by simp [dc]; omega), List.set_append_right _ _ (by simp [dc]; omega)]
    rw [show (j + 1) * 2 - (dc x).length = j * 2 by simp [dc]; omega, show (j + 1) * 2 + 1 - (dc x).length = j * 2 + 1 by simp [dc]; omega]
theorem dcs_take (X : List D) (n : Nat) : (dcs X).take (n * 2) = dcs (X.take n) := by
  induction X generalizing n with
  | nil => simp [dcs]
  | cons d X ih =>
    cases n with
    | zero => simp [dcs]
    | succ n =>
      have e : dcs (d :: X) = .int .i64 d.1 :: .int .i64 d.2 :: dcs X := by simp [dcs, dc]
      have e2 : dcs ((d :: X).take (n + 1)) = .int .i64 d.1 :: .int .i64 d.2 :: dcs (X.take n) := by simp [dcs, dc]
      rw [e, e2, show (n + 1) * 2 = n * 2 + 1 + 1 by omega, List.take_succ_cons, List.take_succ_cons, ih]

/-- a row of timers of one's own -/
def Own (w : World) (v : Value) (X : List D) : Prop := w.ownsRow 0 43 2 v X.length (dcs X)
/-- the heap's functions -/
def fkey : Value := .func (.func 20) #[] #[]
def ford : Value := .func (.func 22) #[] #[]
/-- a heap in block b: its items, where numbers stand -/
def Hp (w : World) (b : Nat) (v : Value) (m : Nat) (X : List D) (f : Int → Option Int) (n : Nat) : Prop :=
  Has w b #[v, .map (some m), fkey, ford] 66 ∧ Own w v X ∧ Mp w m f n
theorem Hp.has {w : World} {b m n : Nat} {v : Value} {X : List D} {f : Int → Option Int} (h : Hp w b v m X f n) : Has w b #[v, .map (some m), fkey, ford] 66 := h.1
/-- its blocks -/
def hfoot (v : Value) (b m : Nat) : List Nat := b :: m :: v.ownBlock.toList
theorem Hp.lt {w : World} {b m n : Nat} {v : Value} {X : List D} {f : Int → Option Int} (h : Hp w b v m X f n) : ∀ k ∈ hfoot v b m, k < w.heap.size := by
  intro k hk
  simp only [hfoot, List.mem_cons] at hk
  rcases hk with rfl | rfl | hk
  · exact h.1.lt
  · exact h.2.2.lt
  · exact (h.2.1.lt k (by simpa using hk)).2
theorem Hp.stay {w w' : World} {b m n : Nat} {v : Value} {X : List D} {f : Int → Option Int} {F : List Nat} (h : Hp w b v m X f n) (ho : Only F w w') (hn : ∀ k ∈ hfoot v b m, k ∉ F) : Hp w' b v m X f n :=
  ⟨h.1.stay ho (hn b (by simp [hfoot])), own_stay h.2.1 ho (fun k hk => hn k (by simp [hfoot, hk])), h.2.2.stay ho (hn m (by simp [hfoot]))⟩
theorem Hp.later {w w' : World} {b m n : Nat} {v : Value} {X : List D} {f : Int → Option Int} (h : Hp w b v m X f n) (hB : Below w.heap.size w w') : Hp w' b v m X f n :=
  h.stay (F := []) (Only.of_below hB) (by simp)
/-- an item's cells -/
theorem Own.get {w : World} {v : Value} {X : List D} (h : Own w v X) {i : Nat} (hi : i < X.length) : ∃ g cap, v = .slice (some ⟨g, 0, none⟩) X.length cap ∧ g < w.heap.size ∧ X.length ≤ cap ∧ cap ≤ maxLen := by
  obtain ⟨g, cap, h1, _, h2, h3, h4⟩ := own_some h (by omega)
  exact ⟨g, cap, h1, h2, h3, h4⟩
theorem Own.cell {w : World} {g cap l : Nat} {X : List D} (h : Own w (.slice (some ⟨g, 0, none⟩) l cap) X) {i : Nat} (hi : i < X.length) : w.cell? ⟨g, i * 2, none⟩ = some (.int .i64 (at_ X i).1) ∧ w.cell? ⟨g, i * 2 + 1, none⟩ = some (.int .i64 (at_ X i).2) ∧ ∀ j, w.frozen? ⟨g, j, none⟩ = false := by
  obtain ⟨h1, h2⟩ := dcs_at X i hi
  have hl := dcs_len X
  have hc := h.cells (g := g) rfl
  have e : ∀ j, (⟨g, 0, none⟩ : Addr).add j = ⟨g, j, none⟩ := fun j => by unfold Addr.add; split <;> simp_all
  refine ⟨by rw [← e]; exact hc _ _ h1, by rw [← e]; exact hc _ _ h2, fun j => ?_⟩
  rcases h.2 with ⟨e, _⟩ | ⟨g', cap', cur, e, _, hg, _⟩
  · cases e
  · cases e
    simp [World.frozen?, hg]
theorem Own.set {w : World} {g cap l : Nat} {X : List D} (h : Own w (.slice (some ⟨g, 0, none⟩) l cap) X) {i : Nat} (hi : i < X.length) (d : D) : Own ((w.setCell ⟨g, i * 2, none⟩ (.int .i64 d.1)).setCell ⟨g, i * 2 + 1, none⟩ (.int .i64 d.2)) (.slice (some ⟨g, 0, none⟩) l cap) (X.set i d) := by
  unfold Own at h ⊢
  have hlen := h.1
  rcases h.2 with ⟨e, _⟩ | ⟨g', cap', cur, e, _, hg, h1, h2, h3, h4⟩
  · cases e
  · cases e
    have hs : (w.setCell ⟨g, i * 2, none⟩ (.int .i64 d.1)).heap[g]? = some (.cells (cur.setIfInBounds (i * 2) (.int .i64 d.1)) 43 (0, 0)) := Has.set (w := w) (cs := cur) hg (i * 2) _
    have hs2 : ((w.setCell ⟨g, i * 2, none⟩ (.int .i64 d.1)).setCell ⟨g, i * 2 + 1, none⟩ (.int .i64 d.2)).heap[g]? = some (.cells ((cur.setIfInBounds (i * 2) (.int .i64 d.1)).setIfInBounds (i * 2 + 1) (.int .i64 d.2)) 43 (0, 0)) := Has.set hs (i * 2 + 1) _
    refine ⟨by rw [dcs_len], .inr ⟨g, cap, _, by rw [List.length_set], Nat.zero_le _, hs2, by rw [List.length_set]; exact h1, h2, by simpa using h3, ?_⟩⟩
    rw [List.length_set, ← dcs_set X i d hi, ← h4]
    simp only [Array.toList_setIfInBounds]
    rw [List.take_set, List.take_set]
theorem Own.pop {w : World} {g cap l n : Nat} {X : List D} (h : Own w (.slice (some ⟨g, 0, none⟩) l cap) X) (hn : n ≤ X.length) : Own w (.slice (some ⟨g, 0, none⟩) n cap) (X.take n) := by
  unfold Own at h ⊢
  rcases h.2 with ⟨e, _⟩ | ⟨g', cap', cur, e, _, hg, h1, h2, h3, h4⟩
  · cases e
  · cases e
    have hl : (X.take n).length = n := by rw [List.length_take]; omega
    refine ⟨by rw [dcs_len], .inr ⟨g, cap, cur, by rw [hl], Nat.zero_le _, hg, by rw [hl]; omega, h2, h3, ?_⟩⟩
    rw [hl, ← dcs_take, ← h4, List.take_take]
    congr 1
    omega
end Go.Proofs.Ytinhhfnknlmdgaa.Tm
