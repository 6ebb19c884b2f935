/-
  Chunks that are kept no more; a report while it is taken, in memory.
  Conditions: as at each lemma.
-/
import Derived.Test.YtjceeckcfjjkkaaObK
namespace Go.Proofs.Ytjceeckcfjjkkaa.Ob
open Go.ChangeShapes Go.WideShapes Go.ChangeAt Go.RowKit Go.Shelf
open Ba (hidden Has cell_lt heap_lt)
set_option linter.unusedVariables false

theorem zero_kp (w : World) : (zeroValue 108).run Try.prog w = .ok (.agg zO) w := by kernel_rfl
/-- clear, over fourteen cells each -/
theorem run_clear {w : World} {b o n c : Nat} {cur : Array Value} (hh : Has w b cur 108) (hn : 0 < n) (hs : o + n * 14 ≤ cur.size) (ty : TypeId) :
    (Builtin.clear_ #[77] ty #[.slice (some ⟨b, o, none⟩) n c]).run Try.prog w = .ok (.tuple #[]) (w.setCells b o (Builtin.zeroCells zO n).toList) := by
  have hlen : (Builtin.zeroCells zO n).toList.length = n * 14 := by
    rw [Array.length_toList, size_zeroCells]; rfl
  have h1 : ∀ v ∈ (Builtin.zeroCells zO n).toList, v.oneCell' = true := by
    intro v hv
    simp only [Builtin.zeroCells, Array.toList_map, List.mem_map] at hv
    obtain ⟨j, _, rfl⟩ := hv
    have : j % zO.size < 14 := Nat.mod_lt _ (by decide)
    generalize j % zO.size = q at this
    rcases (show q = 0 ∨ q = 1 ∨ q = 2 ∨ q = 3 ∨ q = 4 ∨ q = 5 ∨ q = 6 ∨ q = 7 ∨ q = 8 ∨ q = 9 ∨ q = 10 ∨ q = 11 ∨ q = 12 ∨ q = 13 by omega) with rfl | rfl | rfl | rfl | rfl | rfl | rfl | rfl | rfl | rfl | rfl | rfl | rfl | rfl <;> rfl
  have hst := run_storeCells_cells (P := Try.prog) b o (Builtin.zeroCells zO n).toList 0 w
    (fun j hj => by rw [hlen] at hj; rw [Nat.add_zero, hh.cell (o + j) (Array.getElem?_eq_getElem (by omega))]; rfl) (fun j hj => hh.frozen _) h1
  simp only [Nat.add_zero] at hst
  obtain ⟨n', rfl⟩ : ∃ n', n = n' + 1 := ⟨n - 1, by omega⟩
  unfold zO at hst
  simp [Builtin.clear_, Value.cells, hst, zO]
section
variable {D F : Nat → Prop} {w w' : World} {t f : Nat} {rv : Value} {P : List CV} {nx : Int} {n : Nat} {L : List Ch} {fs : Nat → Int} {m : Int} {i g o : Nat} {x y : Ch}
theorem Rw.cut {E : TypeId} {v : Value} {ps : List CV} {g oo cap u : Nat} (h : Rw E w (.slice (some ⟨g, oo, none⟩) ps.length cap) ps) (hu : u ≤ ps.length) : Rw E w (.slice (some ⟨g, oo + u * 14, none⟩) (ps.length - u) (cap - u)) (ps.drop u) := by
  rcases h with ⟨e, _⟩ | ⟨g', oo', cap', cur, e, hh, h1, h2, h3, hc⟩
  · cases e
  · cases e
    refine .inr ⟨g, oo + u * 14, cap - u, cur, by rw [List.length_drop], hh, by rw [List.length_drop]; omega, by omega, by omega, fun j z hz => ?_⟩
    have e2 : ccs (ps.drop u) = (ccs ps).drop (u * 14) := by
      have h4 : ccs ps = ccs (ps.take u) ++ ccs (ps.drop u) := by
        conv => lhs; rw [← List.take_append_drop u ps]
        unfold ccs
        rw [List.flatMap_append]
      have h5 : (ccs (ps.take u)).length = u * 14 := by rw [ccs_len, List.length_take, Nat.min_eq_left hu]
      rw [h4, ← h5, List.drop_left]
    rw [e2, List.getElem?_drop] at hz
    have := hc _ _ hz
    rw [Nat.add_assoc]
    exact this
/-- what is left when the first chunks are wiped out -/
theorem Rw.wipe {E : TypeId} {ps : List CV} {g oo cap u : Nat} {vs : List Value} (h : Rw E w (.slice (some ⟨g, oo, none⟩) ps.length cap) ps) (hu : u ≤ ps.length) (hv : vs.length = u * 14) : Rw E (w.setCells g oo vs) (.slice (some ⟨g, oo + u * 14, none⟩) (ps.length - u) (cap - u)) (ps.drop u) := by
  have hcut := h.cut (v := .bool false) hu
  rcases h with ⟨e, _⟩ | ⟨g', oo', cap', cur, e, hh, h1, h2, h3, hc⟩
  · cases e
  · cases e
    obtain ⟨cur', k1, k2, k3, k4⟩ := has_cells g E vs oo w cur hh (by rw [hv]; omega)
    rcases hcut with ⟨e, _⟩ | ⟨g', oo', cap', cur2, e, hh2, q1, q2, q3, qc⟩
    · cases e
    · simp only [Value.slice.injEq, Option.some.injEq, Addr.mk.injEq] at e
      obtain ⟨⟨rfl, rfl, _⟩, _, rfl⟩ := e
      have e3 : cur2 = cur := by have := hh.symm.trans hh2; cases this; rfl
      subst e3
      refine .inr ⟨g, oo + u * 14, cap - u, cur', by rw [List.length_drop], k1, by rw [List.length_drop]; omega, by rw [k2]; omega, by omega, fun j z hz => ?_⟩
      rw [k3 _ (.inr (by rw [hv]; omega))]
      exact qc j z hz
theorem clear_run {g oo cap u : Nat} (h : Rw 108 w (.slice (some ⟨g, oo, none⟩) P.length cap) P) (hu : u ≤ P.length) : ∃ W1, (∀ ty, (Builtin.clear_ #[77] ty #[.slice (some ⟨g, oo, none⟩) u cap]).run Try.prog w = .ok (.tuple #[]) W1) ∧ Rw 108 W1 (.slice (some ⟨g, oo + u * 14, none⟩) (P.length - u) (cap - u)) (P.drop u) ∧ Mod (fun k => k = g) w W1 := by
  rcases Nat.eq_zero_or_pos u with rfl | hp
  · exact ⟨w, fun ty => by simp [Builtin.clear_], h.cut (v := .bool false) hu, Mod.refl _ _⟩
  · have h' := h
    rcases h with ⟨e, _⟩ | ⟨g', oo', cap', cur, e, hh, h1, h2, h3, hc⟩
    · cases e
    · cases e
      exact ⟨_, fun ty => run_clear hh hp (by omega) ty, h'.wipe hu (by rw [Array.length_toList, size_zeroCells]; rfl), mod_cells (fun k => k = g) g rfl _ _ _⟩
theorem drop_fin {W1 X : World} {rv' : Value} {P' : List CV} {Ld : List Ch} (h : No D w t f rv P nx n L fs m) (hm : Mod (fun k => rv.ownBlock = some k) w W1) (hr : Rw 108 W1 rv' P') (hP : ∀ p ∈ P', p ∈ P) (hL : P'.map (·.x) = Ld) (hq : Has X t #[rv', .int .u32 nx, .slice (some ⟨f, 0, none⟩) n n, .int .i64 m] 80) (hmX : Mod (fun k => k = t) W1 X) (ho : ∀ k, rv'.ownBlock = some k → rv.ownBlock = some k) :
    (∃ rv', (∃ P', No D X t f rv' P' nx n Ld fs m) ∧ ∀ k, rv'.ownBlock = some k → rv.ownBlock = some k) ∧ Mod (FC t f rv) w X := by
  have hM : Mod (fun k => k = t ∨ rv.ownBlock = some k) w X := (hm.mono (fun k hk => .inr hk)).trans hmX (fun x hx => .inl (.inl hx))
  have hq1 := hm.has h.q (fun e => h.nt t e rfl)
  refine ⟨⟨rv', ⟨P', ?_⟩, ho⟩, hM.mono (fun k hk => hk.elim (fun e => .inl e) (fun e => .inr (.inr e)))⟩
  rw [← hL]
  refine h.turn hM hq (hr.stay hmX (fun k hk e => ?_)) (fun p hp => (h.by_ p (hP p hp)).stay hM (fun k cur _ hh e => ?_))
  · obtain ⟨cur, hu⟩ := hr.obj hk
    exact hu.ne hq1 (by decide) e
  · exact h.bytes hh (e.elim (fun e => .inl e) (fun e => .inr (.inr e)))
theorem has_box {W1 : World} {rv0 rv' : Value} (h : Has W1 t #[rv0, .int .u32 nx, .slice (some ⟨f, 0, none⟩) n n, .int .i64 m] 80) : Has (W1.setCell ⟨t, 0, none⟩ rv') t #[rv', .int .u32 nx, .slice (some ⟨f, 0, none⟩) n n, .int .i64 m] 80 := h.set 0 rv'
theorem mod_box (W1 : World) (v : Value) : Mod (fun k => k = t) W1 (W1.setCell ⟨t, 0, none⟩ v) := Mod.setCell (F := fun k => k = t) W1 (p := ⟨t, 0, none⟩) rfl v
set_option maxHeartbeats 1000000 in
theorem drop (h : No D w t f rv P nx n L fs m) (hl : L.length ≤ 100000) (u : Nat) (hu : u ≤ L.length) : Calls Try.prog 59 #[.pointer (some ⟨t, 0, none⟩), .int .i64 (u : Int)] w fun e w' => e = .returned (.tuple #[]) ∧ (∃ rv', (∃ P', No D w' t f rv' P' nx n (L.drop u) fs m) ∧ ∀ k, rv'.ownBlock = some k → rv.ownBlock = some k) ∧ Mod (FC t f rv) w w' := by
  have H := hidden h
  have c0 := h.q.cell 0 rfl
  have r0 := h.q.frozen 0
  have htl := h.q.lt
  have hlen := h.len
  rcases h.rw_ with ⟨rfl, rfl⟩ | ⟨g, oo, cap, cur, rfl, hh, h1, h2, h3, hc⟩
  · have hL : L = [] := List.eq_nil_of_length_eq_zero (by simpa using hlen.symm)
    subst hL
    obtain rfl : u = 0 := by simpa using hu
    have hcl : ∀ (w : World) (ty : TypeId), (Builtin.clear_ #[77] ty #[.slice none 0 0]).run Try.prog w = .ok (.tuple #[]) w := fun w ty => by simp [Builtin.clear_]
    clear h
    go_enter Try.func59, Try.ntmps59
    go_wp2
    go_end0
    refine ⟨rfl, drop_fin (P' := []) (W1 := w) H.out (Mod.refl _ _) Rw.nil (fun p hp => by cases hp) (by simp) (by first | exact has_box H.out.q | exact has_box (has_box H.out.q) | exact H.out.q) (by first | exact mod_box _ _ | exact (mod_box _ _).then (mod_box _ _) | exact Mod.refl _ _) (fun k hk => by cases hk)⟩
  · have hg : g ≠ t := h.nt g rfl
    obtain ⟨W1, hcl, hR, hm⟩ := clear_run (P := P) h.rw_ (u := u) (by omega)
    have c1 := hm.cell c0 (fun e => hg e.symm)
    have q1 := (hm.has h.q (fun e => hg e.symm)).frozen 0
    have l1 := (hm.has h.q (fun e => hg e.symm)).lt
    have HH := hidden (And.intro hR (And.intro hm hg))
    rw [hlen] at c0 c1
    have h1' : L.length ≤ cap := by omega
    generalize hN : L.length = N at *
    have HN := hidden hN
    have hul : (u : Int) ≤ (N : Int) := by omega
    have huc : (u : Int) ≤ (cap : Int) := by omega
    clear h hh hR hm hN hc hlen h1
    rcases Nat.lt_or_ge u N with hlt | hge
    · have hlt2 : u < cap := by omega
      go_enter Try.func59, Try.ntmps59
      go_wp2
      go_end0
      refine ⟨rfl, drop_fin (P' := P.drop u) (W1 := W1) H.out (HH.out.2.1.mono (fun k hk => by rw [hk]; rfl)) HH.out.1 (fun p hp => List.mem_of_mem_drop hp) (by rw [List.map_drop, H.out.pr]) ?_ ?_ (fun k hk => hk)⟩
      · have hb := has_box (rv' := .slice (some ⟨g, oo + u * 14, none⟩) (P.length - u) (cap - u)) (HH.out.2.1.has H.out.q (fun e => HH.out.2.2 e.symm))
        rw [H.out.len, HN.out] at hb ⊢
        first | exact hb | skip
      · first | exact mod_box _ _ | exact (mod_box _ _).then (mod_box _ _)
    · obtain rfl : u = N := by omega
      rcases Nat.lt_or_ge u cap with hlt2 | hge2
      · have hlt3 : 0 < cap - u := by omega
        go_enter Try.func59, Try.ntmps59
        go_wp2
        go_end0
        refine ⟨rfl, drop_fin (P' := []) (W1 := W1) H.out (HH.out.2.1.mono (fun k hk => by rw [hk]; rfl)) Rw.nil (fun p hp => by cases hp) (by rw [List.drop_of_length_le (by have := HN.out; omega)]; rfl) ?_ ?_ (fun k hk => by cases hk)⟩
        · first | exact has_box (HH.out.2.1.has H.out.q (fun e => HH.out.2.2 e.symm)) | exact has_box (has_box (HH.out.2.1.has H.out.q (fun e => HH.out.2.2 e.symm)))
        · first | exact mod_box _ _ | exact (mod_box _ _).then (mod_box _ _)
      · obtain rfl : cap = u := by omega
        go_enter Try.func59, Try.ntmps59
        go_wp2
        go_end0
        refine ⟨rfl, drop_fin (P' := []) (W1 := W1) H.out (HH.out.2.1.mono (fun k hk => by rw [hk]; rfl)) Rw.nil (fun p hp => by cases hp) (by rw [List.drop_of_length_le (by have := HN.out; omega)]; rfl) ?_ ?_ (fun k hk => by cases hk)⟩
        · first | exact has_box (HH.out.2.1.has H.out.q (fun e => HH.out.2.2 e.symm)) | exact has_box (has_box (HH.out.2.1.has H.out.q (fun e => HH.out.2.2 e.symm)))
        · first | exact mod_box _ _ | exact (mod_box _ _).then (mod_box _ _)
end
end Go.Proofs.Ytjceeckcfjjkkaa.Ob
