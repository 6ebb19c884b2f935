/-
  The document's queue in memory; what turns in it.
  Conditions: as at each lemma.
-/
import Derived.Test.YtfgoamfoddkafaaSqQ
namespace Go.Proofs.Ytfgoamfoddkafaa.Sq
open Go.ChangeShapes Go.WideShapes Go.ChangeAt Go.RowKit
open Ba (hidden Has Only cell_lt heap_lt)
set_option linter.unusedVariables false

def ec (e : Ent) : List Value := [.int .u16 e.st, .int .u16 e.sn, .int .u32 e.pr, .bool e.un, e.v, .int .i64 (e.at_ : Int)]
def ecs (Q : List Ent) : List Value := Q.flatMap ec
theorem ec_len (e : Ent) : (ec e).length = 6 := rfl
theorem ecs_len (Q : List Ent) : (ecs Q).length = Q.length * 6 := flat_len ec_len Q
theorem ecs_app (A B : List Ent) : ecs (A ++ B) = ecs A ++ ecs B := by unfold ecs; rw [List.flatMap_append]
theorem infoEn : (Try.prog.info? 78).map (fun i => (i.zero, i.size, i.bytes)) = some (some (.agg #[.int .u16 0, .int .u16 0, .int .u32 0, .bool false, .slice none 0 0, .int .i64 0]), 6, 48) := by kernel_rfl
/-- the document's own blocks -/
def Gr (base : Nat) (w : World) (k : Nat) : Prop := base ≤ k ∧ ∃ cs ty, Has w k cs ty ∧ (ty = 65 ∨ ty = 78 ∨ ty = 32)
theorem gr_trans {base : Nat} {a b c : World} (h : Mod (Gr base a) a b) (k : Mod (Gr base b) b c) : Mod (Gr base a) a c := by
  refine h.trans k (fun x hx => ?_)
  rcases Nat.lt_or_ge x a.heap.size with hl | hl
  · by_cases hg : Gr base a x
    · exact .inl hg
    · obtain ⟨h1, cs, ty, h2, h3⟩ := hx
      have := h.block x hl hg
      exact .inl ⟨h1, cs, ty, by unfold Has; rw [← this]; exact h2, h3⟩
  · exact .inr hl
theorem gr_set {base : Nat} {w : World} {b : Nat} {cs : Array Value} {ty : TypeId} (h : Has w b cs ty) (hb : base ≤ b) (ht : ty = 65 ∨ ty = 78 ∨ ty = 32) (i : Nat) (u : Value) : Mod (Gr base w) w (w.setCell ⟨b, i, none⟩ u) :=
  Mod.setCell w (p := ⟨b, i, none⟩) ⟨hb, cs, ty, h, ht⟩ u
theorem gr_below {base : Nat} {w w' : World} (h : Mod (Gr base w) w w') (hb : base ≤ w.heap.size) : Below base w w' := h.below hb (fun k hk => hk.1)
/-- the document's queue, its parts named -/
structure Ro (base : Nat) (w : World) (r bs : Nat) (vL : Value) (S : St) (Q : List Ent) (rl : Int) : Prop where
  q : Has w r #[.int .i64 (S.n : Int), .int .i64 S.lim, vL, .slice (some ⟨bs, 0, none⟩) S.n S.n, .int .i64 rl, .int .i64 S.tk] 65
  hs : ∃ cs, Has w bs cs 32 ∧ ∀ i, i < S.n → cs[i]? = some (.int .u16 (S.sn i))
  om : w.ownsRow base 78 6 vL Q.length (ecs Q)
  by_ : ∀ e ∈ Q, By (fun _ => True) w e.v e.d
  rb : base ≤ r
  sb : base ≤ bs
  rel : Rel S Q rl
  gd : Good S
section
variable {base : Nat} {w w' : World} {r bs : Nat} {vL : Value} {S : St} {Q : List Ent} {rl : Int}
theorem Ro.stay {F : Nat → Prop} (h : Ro base w r bs vL S Q rl) (hm : Mod F w w') (hF : ∀ k cs ty, Has w k cs ty → (ty = 65 ∨ ty = 78 ∨ ty = 32 ∨ ty = 5) → ¬ F k) : Ro base w' r bs vL S Q rl := by
  obtain ⟨cs, hc, hl⟩ := h.hs
  refine ⟨hm.has h.q (hF _ _ _ h.q (.inl rfl)), ⟨cs, hm.has hc (hF _ _ _ hc (.inr (.inr (.inl rfl)))), hl⟩, ?_, fun e he => (h.by_ e he).stay hm (fun k cur _ hh => hF k cur 5 hh (.inr (.inr (.inr rfl)))), h.rb, h.sb, h.rel, h.gd⟩
  refine ⟨h.om.1, ?_⟩
  rcases h.om.2 with h0 | ⟨g, cap, cur, rfl, hb, hg, rr⟩
  · exact .inl h0
  · exact .inr ⟨g, cap, cur, rfl, hb, hm.has (b := g) hg (hF _ _ _ hg (.inr (.inl rfl))), rr⟩
theorem Ro.later (h : Ro base w r bs vL S Q rl) (hB : Below w.heap.size w w') : Ro base w' r bs vL S Q rl :=
  h.stay (F := fun k => w.heap.size ≤ k) (Mod.of_below hB) (fun k cs ty hh _ hf => by have := hh.lt; omega)
/-- calls of the code's queue leave it -/
theorem Ro.code {D F : Nat → Prop} {t : Nat} {S' : St} (h : Ro base w r bs vL S Q rl) (hc : Cd D w t S' F) (hm : Mod F w w') : Ro base w' r bs vL S Q rl :=
  h.stay hm (fun k cs ty hh ht hf => by
    obtain ⟨cs', ty', hh', ht'⟩ := hc.type hf
    have := has_type hh hh'
    subst this
    rcases ht with e | e | e | e <;> rcases ht' with e' | e' | e' <;> rw [e] at e' <;> exact absurd e' (by decide))
/-- calls of the document's queue leave the code's -/
theorem Cd.doc {D F : Nat → Prop} {t : Nat} {S' : St} (hc : Cd D w t S' F) (hm : Mod (Gr base w) w w') : Cd D w' t S' F := by
  refine hc.stay hm (fun k hk hg => ?_) (fun k cur _ hh hg => ?_)
  · obtain ⟨cs', ty', hh', ht'⟩ := hc.type hk
    obtain ⟨_, cs, ty, hh, ht⟩ := hg
    have := has_type hh hh'
    subst this
    rcases ht with e | e | e <;> rcases ht' with e' | e' | e' <;> rw [e] at e' <;> exact absurd e' (by decide)
  · obtain ⟨_, cs, ty, hh', ht⟩ := hg
    have := has_type hh hh'
    subst this
    rcases ht with e | e | e <;> exact absurd e (by decide)
theorem Ro.slice (h : Ro base w r bs vL S Q rl) : ∃ a cap, vL = .slice a Q.length cap := Ba.own_len h.om
theorem Ro.at (h : Ro base w r bs vL S Q rl) {j : Nat} {e : Ent} (hj : Q[j]? = some e) : ∃ g cap cur, vL = .slice (some ⟨g, 0, none⟩) Q.length cap ∧ Has w g cur 78 ∧ base ≤ g ∧ ∀ c u, (ec e)[c]? = some u → cur[j * 6 + c]? = some u := by
  have hjl := (List.getElem?_eq_some_iff.1 hj).1
  rcases h.om.2 with ⟨_, h0⟩ | ⟨g, cap, cur, rfl, hb, hg, h1, h2, h3, h4⟩
  · omega
  · refine ⟨g, cap, cur, rfl, hg, hb, fun c u hu => ?_⟩
    have hc := (List.getElem?_eq_some_iff.1 hu).1
    rw [ec_len] at hc
    have e1 : (ecs Q)[j * 6 + c]? = some u := by unfold ecs; rw [flat_at ec_len Q hj hc]; exact hu
    rw [← h4, List.getElem?_take] at e1
    split at e1
    · simpa using e1
    · cases e1
theorem Ro.same {v : World} (h : Ro base w r bs vL S Q rl) (hv : v.heap = w.heap) : Ro base v r bs vL S Q rl := by
  have hh : ∀ {b : Nat} {cs : Array Value} {t : TypeId}, Has w b cs t → Has v b cs t := fun h => by unfold Has; rw [hv]; exact h
  obtain ⟨cs, hc, hl⟩ := h.hs
  refine ⟨hh h.q, ⟨cs, hh hc, hl⟩, ⟨h.om.1, ?_⟩, fun e he => ?_, h.rb, h.sb, h.rel, h.gd⟩
  · rcases h.om.2 with h0 | ⟨g, cap, cur, rfl, hb, hg, rr⟩
    · exact .inl h0
    · exact .inr ⟨g, cap, cur, rfl, hb, hh (b := g) hg, rr⟩
  · obtain ⟨g, off, cap, cur, e1, hd, hg, rr⟩ := h.by_ e he
    exact ⟨g, off, cap, cur, e1, hd, hh hg, rr⟩
theorem Ro.len (h : Ro base w r bs vL S Q rl) : (Q.length : Int) ≤ 1073741824 := by
  have h1 : Q.length ≤ sE Q := by
    have : ∀ L : List Ent, (∀ e ∈ L, OkE S.n e) → L.length ≤ sE L := by
      intro L
      induction L with
      | nil => intro _; exact Nat.zero_le _
      | cons a l ih =>
        intro hh
        have h1 := (hh a (List.mem_cons_self ..)).a
        have h2 := ih (fun r hr => hh r (List.mem_cons_of_mem _ hr))
        rw [sE_cons, List.length_cons]
        unfold lE
        omega
    exact this Q h.rel.k
  have := h.rel.w
  have := h.gd.h
  have := h.gd.t0
  have := h.gd.l2
  omega
end
def Rf (base : Nat) (w : World) (r : Nat) (S : St) : Prop := ∃ bs vL Q rl, Ro base w r bs vL S Q rl
theorem rnew_no (n lim : Int) (h : ¬ (1 ≤ n ∧ n ≤ 1024 ∧ 1 ≤ lim ∧ lim ≤ 1073741824)) (w : World) : Calls Try.prog 10 #[.int .i64 n, .int .i64 lim] w fun e w' => e = .returned (.tuple #[.pointer none, .int .i64 1]) ∧ w = w' := by
  by_cases h1 : n < 1
  · clear h
    go_enter Try.func10, Try.ntmps10
    go_wp2
    go_ret2
    exact ⟨rfl, rfl⟩
  · by_cases h2 : 1024 < n
    · clear h
      go_enter Try.func10, Try.ntmps10
      go_wp2
      go_ret2
      exact ⟨rfl, rfl⟩
    · by_cases h3 : lim < 1
      · clear h
        go_enter Try.func10, Try.ntmps10
        go_wp2
        go_ret2
        exact ⟨rfl, rfl⟩
      · have h4 : 1073741824 < lim := by omega
        clear h
        go_enter Try.func10, Try.ntmps10
        go_wp2
        go_ret2
        exact ⟨rfl, rfl⟩
theorem info16 : (Try.prog.info? 32).map (fun i => (i.zero, i.size, i.bytes)) = some (some (.int .u16 0), 1, 2) := by kernel_rfl
theorem rnew (n lim : Int) (h1 : 1 ≤ n) (h2 : n ≤ 1024) (h3 : 1 ≤ lim) (h4 : lim ≤ 1073741824) (w : World) :
    Calls Try.prog 10 #[.int .i64 n, .int .i64 lim] w fun e w' => ∃ r, e = .returned (.tuple #[.pointer (some ⟨r, 0, none⟩), .int .i64 0]) ∧ Rf w.heap.size w' r (newS n.toNat lim) ∧ Below w.heap.size w w' := by
  obtain ⟨mk, k1, k2, k3, k4⟩ := make_wide (P := Try.prog) Try.underlying62 info16 n.toNat (by omega) (by omega)
  have hn : ((n.toNat : Nat) : Int) = n := Int.toNat_of_nonneg (by omega)
  rw [hn] at k1
  have H2 := hidden k2
  have H3 := hidden k3
  have H4 := hidden k4
  have HN := hidden hn
  clear k2 k3 k4 hn
  go_enter Try.func10, Try.ntmps10
  go_wp2
  go_ret2
  have hl := H2.out w
  have hs := H4.out w
  have hB : Below (mk w).heap.size (mk w) ((mk w).alloc (.cells #[.int .i64 n, .int .i64 lim, .slice none 0 0, .slice (some ⟨w.heap.size, 0, none⟩) n.toNat n.toNat, .int .i64 (-1), .int .i64 0] 65)) := (Below.refl _ _).alloc (Nat.le_refl _) _
  have hq : Has ((mk w).alloc (.cells #[.int .i64 n, .int .i64 lim, .slice none 0 0, .slice (some ⟨w.heap.size, 0, none⟩) n.toNat n.toNat, .int .i64 (-1), .int .i64 0] 65)) (mk w).heap.size #[.int .i64 ((newS n.toNat lim).n : Int), .int .i64 lim, .slice none 0 0, .slice (some ⟨w.heap.size, 0, none⟩) n.toNat n.toNat, .int .i64 (-1), .int .i64 0] 65 := by
    have := Has.new (mk w) #[.int .i64 n, .int .i64 lim, .slice none 0 0, .slice (some ⟨w.heap.size, 0, none⟩) n.toNat n.toNat, .int .i64 (-1), .int .i64 0] 65
    have e : ((newS n.toNat lim).n : Int) = n := HN.out
    rw [e]
    exact this
  refine ⟨_, rfl, ⟨w.heap.size, .slice none 0 0, [], -1, hq, ⟨_, hl.later hB, fun i hi => ?_⟩, ⟨rfl, .inl ⟨rfl, rfl⟩⟩, (fun e he => by cases he), by omega, Nat.le_refl _, Rel.new (by omega) lim, Good.new (by omega) (by omega) h3 h4⟩, (H3.out w).trans (hB.mono (by omega))⟩
  change i < n.toNat at hi
  rw [made_at _ (by omega)]
  show some (_[i % 1]!) = _
  rw [Nat.mod_one]
  rfl
end Go.Proofs.Ytfgoamfoddkafaa.Sq
