/-
  A table of timers and a row of what was set: what each call leaves of both.
  Conditions: both lie in memory, apart.
-/
import Derived.Test.YtinhhfnknlmdgaaTmT
namespace Go.Proofs.Ytinhhfnknlmdgaa.Tm
open Go.RowKit Go.Sort Go.ChangeShapes Go.WideShapes Go.ChangeAt
open Ba (hidden Only In Has own_ne own_stay own_len own_some own_mono cell_lt heap_lt)
set_option linter.unusedVariables false

theorem info3 : (Try.prog.info? 3).map (fun i => (i.zero, i.size, i.bytes)) = some (some (.int .i64 0), 1, 8) := by kernel_rfl
def mkE (w : World) : World := w.alloc (.cells (madeCells #[.int .i64 0] 4096) 3)
theorem make_run (w : World) : (Instr.makeSlice 34 (.int .i64 4096) (.int .i64 4096)).run Try.prog w = .ok (.slice (some ⟨w.heap.size, 0, none⟩) 4096 4096) (mkE w) :=
  run_make_row' 34 3 (.int .i64 0) 8 Try.underlying34 info3 rfl .i64 .i64 4096 (by omega) (by omega) w
/-- a row of numbers that may be written -/
def Edg (W : World) (m : Nat) (f : Nat → Int) : Prop := m < W.heap.size ∧ ∀ k, k < 4096 → W.cell? ⟨m, k, none⟩ = some (.int .i64 (f k)) ∧ W.frozen? ⟨m, k, none⟩ = false
def pat (f : Nat → Int) (i : Nat) (v : Int) : Nat → Int := fun k => if k = i then v else f k
theorem Edg.set {W : World} {m : Nat} {f : Nat → Int} (h : Edg W m f) (i : Nat) (v : Int) : Edg (W.setCell ⟨m, i, none⟩ (.int .i64 v)) m (pat f i v) := by
  refine ⟨by simpa [World.setCell] using h.1, fun k hk => ?_⟩
  by_cases e : k = i
  · subst e
    rw [World.frozen?_setCell, show pat f k v k = v from if_pos rfl]
    exact ⟨World.cell?_setCell_same _ _ _ (h.2 k hk).1, (h.2 k hk).2⟩
  · have hne : (⟨m, i, none⟩ : Addr) ≠ ⟨m, k, none⟩ := fun h => e (by cases h; rfl)
    rw [World.frozen?_setCell, show pat f i v k = f k from if_neg e, World.cell?_setCell_other _ _ _ _ hne]
    exact h.2 k hk
theorem Edg.stay {W W' : World} {m : Nat} {F : List Nat} {f : Nat → Int} (h : Edg W m f) (hO : Only F W W') (hn : m ∉ F) : Edg W' m f := by
  have hb := hO.block m h.1 hn
  refine ⟨Nat.lt_of_lt_of_le h.1 hO.size, fun k hk => ?_⟩
  have h1 : W'.cell? ⟨m, k, none⟩ = W.cell? ⟨m, k, none⟩ := by simp [World.cell?, hb]
  have h2 : W'.frozen? ⟨m, k, none⟩ = W.frozen? ⟨m, k, none⟩ := by simp [World.frozen?, hb]
  rw [h1, h2]
  exact h.2 k hk
theorem mkE_edg (w : World) : Edg (mkE w) w.heap.size (fun _ => 0) := by
  have hh : (mkE w).heap[w.heap.size]? = some (.cells (madeCells #[.int .i64 0] 4096) 3 (0, 0)) := heap_alloc_new w _
  refine ⟨(Array.getElem?_eq_some_iff.1 hh).1, fun k hk => ?_⟩
  have hk2 : (madeCells #[Value.int .i64 0] 4096)[k]? = some (.int .i64 0) := by
    unfold madeCells
    rw [Array.getElem?_map, Array.getElem?_range, if_pos hk]
    simp [Nat.mod_one]
  exact ⟨by simp [World.cell?, hh, hk2], by simp [World.frozen?, hh]⟩
/-- the same with no name for the new world: the walk can't open it -/
theorem make_any : ∃ mk : World → World, (∀ w : World, (Instr.makeSlice 34 (.int .i64 4096) (.int .i64 4096)).run Try.prog w = .ok (.slice (some ⟨w.heap.size, 0, none⟩) 4096 4096) (mk w)) ∧
    (∀ w : World, Edg (mk w) w.heap.size (fun _ => 0)) ∧ ∀ w : World, Below w.heap.size w (mk w) := ⟨mkE, make_run, mkE_edg, fun w => (Below.refl _ w).alloc (Nat.le_refl _) _⟩

/-- the table and the row, since W -/
def On (W : World) (F0 : List Nat) (w : World) (t m : Nat) (S : List D) (l : Int) (f : Nat → Int) : Prop :=
  ∃ F, Tb w t S l F ∧ Edg w m f ∧ m ∉ F ∧ Only F0 W w ∧ In F0 (m :: F) W
section
variable {W w : World} {F0 : List Nat} {t m : Nat} {S : List D} {l : Int} {f : Nat → Int}
theorem On.later {w' : World} (h : On W F0 w t m S l f) (hB : Below w.heap.size w w') : On W F0 w' t m S l f := by
  obtain ⟨F, h1, h2, h3, h4, h5⟩ := h
  exact ⟨F, h1.later hB, h2.stay (F := []) (Only.of_below hB) (by simp), h3, h4.then (Only.of_below hB), h5⟩
theorem on_tb {w' : World} {S' : List D} {l' : Int} {F F' : List Nat} (h1 : Tb w t S l F) (h2 : Edg w m f) (h3 : m ∉ F) (h4 : Only F0 W w) (h5 : In F0 (m :: F) W) (g1 : Tb w' t S' l' F') (g2 : Only F w w') (g3 : In F F' w) : Edg w' m f ∧ m ∉ F' ∧ Only F0 W w' ∧ In F0 (m :: F') W := by
  refine ⟨h2.stay g2 h3, fun hm => ?_, h4.trans g2 (fun k hk => h5 k (List.mem_cons_of_mem _ hk)), fun k hk => ?_⟩
  · rcases g3 m hm with e | e
    · exact h3 e
    · have := h2.1; omega
  · rcases List.mem_cons.1 hk with rfl | hk
    · exact h5 _ List.mem_cons_self
    · rcases g3 k hk with e | e
      · exact h5 k (List.mem_cons_of_mem _ e)
      · exact .inr (Nat.le_trans h4.size e)
theorem On.set (h : On W F0 w t m S l f) (id due : Int) : Calls Try.prog 10 #[.pointer (some ⟨t, 0, none⟩), .int .i64 id, .int .i64 due] w fun e w' => e = .returned (.int .i64 (setE id due)) ∧ On W F0 w' t m (setS id due S) l f := by
  obtain ⟨F, h1, h2, h3, h4, h5⟩ := h
  refine (tset h1 id due).mono ?_
  rintro e w' ⟨rfl, F', g1, g2, g3⟩
  obtain ⟨k1, k2, k3, k4⟩ := on_tb h1 h2 h3 h4 h5 g1 g2 g3
  exact ⟨rfl, F', g1, k1, k2, k3, k4⟩
theorem On.stop (h : On W F0 w t m S l f) (id : Int) (hi : I64 id) : Calls Try.prog 12 #[.pointer (some ⟨t, 0, none⟩), .int .i64 id] w fun e w' => e = .returned (.tuple #[.bool (stopB id S), .int .i64 (stopE id)]) ∧ On W F0 w' t m (stopS id S) l f := by
  obtain ⟨F, h1, h2, h3, h4, h5⟩ := h
  refine (tstop h1 id hi).mono ?_
  rintro e w' ⟨rfl, F', g1, g2, g3⟩
  obtain ⟨k1, k2, k3, k4⟩ := on_tb h1 h2 h3 h4 h5 g1 g2 g3
  exact ⟨rfl, F', g1, k1, k2, k3, k4⟩
/-- .. and a row that was told -/
def OnT (W : World) (F0 : List Nat) (w : World) (t m : Nat) (S : List D) (l : Int) (f : Nat → Int) (tv : Value) (T : List D) : Prop :=
  ∃ F, Tb w t S l F ∧ Edg w m f ∧ m ∉ F ∧ Only F0 W w ∧ In F0 (m :: F) W ∧ Own w tv T ∧ (∀ k, tv.ownBlock = some k → k ∉ F ∧ k ≠ m) ∧ T.length ≤ 4096
theorem OnT.on {tv : Value} {T : List D} (h : OnT W F0 w t m S l f tv T) : On W F0 w t m S l f := by
  obtain ⟨F, h1, h2, h3, h4, h5, _⟩ := h
  exact ⟨F, h1, h2, h3, h4, h5⟩
theorem OnT.later {w' : World} {tv : Value} {T : List D} (h : OnT W F0 w t m S l f tv T) (hB : Below w.heap.size w w') : OnT W F0 w' t m S l f tv T := by
  obtain ⟨F, h1, h2, h3, h4, h5, h6, h7, h8⟩ := h
  exact ⟨F, h1.later hB, h2.stay (F := []) (Only.of_below hB) (by simp), h3, h4.then (Only.of_below hB), h5, own_stay (F := []) h6 (Only.of_below hB) (by simp), h7, h8⟩
theorem On.due (h : On W F0 w t m S l f) (now : Int) : Calls Try.prog 13 #[.pointer (some ⟨t, 0, none⟩), .int .i64 now] w fun e w' => ∃ tv, e = .returned (.tuple #[tv, .int .i64 (dueE now l)]) ∧ OnT W F0 w' t m (dS now l S) (dL now l) f tv (dT now l S) := by
  obtain ⟨F, h1, h2, h3, h4, h5⟩ := h
  have hlen := h1.ok.2.2.2
  refine (tdue h1 now).mono ?_
  rintro e w' ⟨tv, T, rfl, q1, F', q2, q3, g2, g3⟩
  have hTS : T = dT now l S ∧ Tb w' t (dS now l S) (dL now l) F' := by
    unfold dT dS dL
    rcases q3 with ⟨e, rfl, hh⟩ | ⟨e, rfl, hh⟩
    · rw [e]; exact ⟨rfl, hh⟩
    · rw [e]; exact ⟨rfl, hh⟩
  obtain ⟨rfl, g1⟩ := hTS
  obtain ⟨k1, k2, k3, k4⟩ := on_tb h1 h2 h3 h4 h5 g1 g2 g3
  refine ⟨tv, rfl, F', g1, k1, k2, k3, k4, own_mono q1 (fun k _ => Nat.zero_le _), fun k hk => ⟨q2 k hk, fun hg => ?_⟩, dT_len _ _ hlen⟩
  have a1 := (q1.lt k hk).1
  have a2 := h2.1
  omega
theorem On.put (h : On W F0 w t m S l f) (i : Nat) (v : Int) : On W F0 (w.setCell ⟨m, i, none⟩ (.int .i64 v)) t m S l (pat f i v) := by
  obtain ⟨F, h1, h2, h3, h4, h5⟩ := h
  have hO : Only [m] w (w.setCell ⟨m, i, none⟩ (.int .i64 v)) := Only.setCell w (by simp) _
  refine ⟨F, h1.stay hO (fun k hk e => ?_), h2.set i v, h3, h4.trans hO (fun k hk => h5 k (by simp at hk; simp [hk])), h5⟩
  simp at e
  subst e
  exact h3 hk
theorem OnT.put {tv : Value} {T : List D} (h : OnT W F0 w t m S l f tv T) (i : Nat) (v : Int) : OnT W F0 (w.setCell ⟨m, i, none⟩ (.int .i64 v)) t m S l (pat f i v) tv T := by
  obtain ⟨F, h1, h2, h3, h4, h5, h6, h7, h8⟩ := h
  have hO : Only [m] w (w.setCell ⟨m, i, none⟩ (.int .i64 v)) := Only.setCell w (by simp) _
  refine ⟨F, h1.stay hO (fun k hk e => ?_), h2.set i v, h3, h4.trans hO (fun k hk => h5 k (by simp at hk; simp [hk])), h5, own_stay h6 hO (fun k hk e => ?_), h7, h8⟩
  · simp at e
    subst e
    exact h3 hk
  · simp at e
    exact (h7 k hk).2 e
theorem On.cell (h : On W F0 w t m S l f) {k : Nat} (hk : k < 4096) : w.cell? ⟨m, k, none⟩ = some (.int .i64 (f k)) ∧ w.frozen? ⟨m, k, none⟩ = false := by
  obtain ⟨F, h1, h2, _⟩ := h
  exact h2.2 k hk
theorem On.ok (h : On W F0 w t m S l f) : Sd S ∧ (∀ d ∈ S, Ok d) ∧ (S.map (·.1)).Nodup ∧ S.length ≤ 4096 := by
  obtain ⟨F, h1, _⟩ := h
  exact h1.ok
theorem On.last (h : On W F0 w t m S l f) : okTime l = true := by
  obtain ⟨F, h1, _⟩ := h
  obtain ⟨b, mm, v, X, ff, _, _, _, _, _, _, _, hh⟩ := h1
  exact hh
theorem On.len (h : On W F0 w t m S l f) : Calls Try.prog 14 #[.pointer (some ⟨t, 0, none⟩)] w fun e w' => e = .returned (.int .i64 (S.length : Int)) ∧ w = w' := by
  obtain ⟨F, h1, _⟩ := h
  exact tlen h1
theorem On.below {w0 : World} (hF : ∀ k ∈ F0, w0.heap.size ≤ k) (hB : Below w0.heap.size w0 W) (h : On W F0 w t m S l f) : Below w0.heap.size w0 w := by
  obtain ⟨_, _, _, _, ho, _⟩ := h
  exact hB.trans (ho.below hB.size hF)
theorem OnT.row {tv : Value} {T : List D} (h : OnT W F0 w t m S l f tv T) : ∃ a cap, tv = .slice a T.length cap ∧ T.length ≤ 4096 ∧ ∀ k, k < T.length → ∃ g, a = some ⟨g, 0, none⟩ ∧ w.cell? ⟨g, k * 2, none⟩ = some (.int .i64 (at_ T k).1) ∧ w.cell? ⟨g, k * 2 + 1, none⟩ = some (.int .i64 (at_ T k).2) := by
  obtain ⟨F, h1, h2, h3, h4, h5, h6, h7, h8⟩ := h
  obtain ⟨a, cap, rfl⟩ := own_len h6
  refine ⟨a, cap, rfl, h8, fun k hk => ?_⟩
  obtain ⟨g, cap', e, _, _, _⟩ := h6.get hk
  cases e
  exact ⟨g, rfl, (h6.cell hk).1, (h6.cell hk).2.1⟩
end

/-- the row holds what is set, and -1 elsewhere -/
def Vl (S : List D) (f : Nat → Int) : Prop := ∀ k : Nat, k < 4096 → (((k : Int), f k) ∈ S) ∨ ((∀ d ∈ S, d.1 ≠ (k : Int)) ∧ f k = -1)
theorem Vl.nil {f : Nat → Int} (h : ∀ k, k < 4096 → f k = -1) : Vl [] f := fun k hk => .inr ⟨by simp, h k hk⟩
theorem Vl.set {S : List D} {f : Nat → Int} {id tm : Int} (h : Vl S f) (hi : okId id = true) (ht : okTime tm = true) : Vl (setS id tm S) (pat f id.toNat tm) := by
  have hm : ∀ d, d ∈ setS id tm S ↔ d = (id, tm) ∨ (d ∈ S ∧ d.1 ≠ id) := fun d => by
    unfold setS
    rw [hi, ht]
    simp only [Bool.and_self, if_true]
    rw [(ins_perm _ _).mem_iff, List.mem_cons, mem_rm]
  unfold okId at hi
  simp at hi
  intro k hk
  unfold pat
  by_cases e : k = id.toNat
  · left
    rw [if_pos e, hm]
    left
    rw [e, Int.toNat_of_nonneg hi.1]
  · rw [if_neg e]
    have hne : (k : Int) ≠ id := fun e2 => e (by omega)
    rcases h k hk with h | ⟨h, h'⟩
    · exact .inl ((hm _).2 (.inr ⟨h, hne⟩))
    · refine .inr ⟨fun d hd => ?_, h'⟩
      rcases (hm d).1 hd with rfl | ⟨hd, _⟩
      · exact fun e2 => hne e2.symm
      · exact h d hd
theorem Vl.stop {S : List D} {f : Nat → Int} {id : Int} (h : Vl S f) (hi : okId id = true) : Vl (stopS id S) (pat f id.toNat (-1)) := by
  unfold stopS
  rw [hi]
  simp only [if_true]
  unfold okId at hi
  simp at hi
  intro k hk
  unfold pat
  by_cases e : k = id.toNat
  · right
    rw [if_pos e]
    refine ⟨fun d hd => ?_, rfl⟩
    have := (mem_rm.1 hd).2
    intro e2
    exact this (by omega)
  · rw [if_neg e]
    have hne : (k : Int) ≠ id := fun e2 => e (by omega)
    rcases h k hk with h | ⟨h, h'⟩
    · exact .inl (mem_rm.2 ⟨h, hne⟩)
    · exact .inr ⟨fun d hd => h d (mem_rm.1 hd).1, h'⟩
theorem Vl.head {S : List D} {f : Nat → Int} {d : D} (h : Vl (d :: S) f) (hn : ((d :: S).map (·.1)).Nodup) (hd : Ok d) : f d.1.toNat = d.2 := by
  obtain ⟨⟨h1, h2⟩, h3, h4⟩ := hd
  rcases h d.1.toNat (by omega) with hh | ⟨hh, _⟩
  · rw [Int.toNat_of_nonneg h1] at hh
    rcases List.mem_cons.1 hh with hh | hh
    · exact congrArg Prod.snd hh
    · have := (List.nodup_cons.1 hn).1
      exact absurd (List.mem_map.2 ⟨_, hh, rfl⟩) this
  · exact absurd (Int.toNat_of_nonneg h1).symm (hh d List.mem_cons_self)
theorem Vl.tail {S : List D} {f : Nat → Int} {d : D} (h : Vl (d :: S) f) (hn : ((d :: S).map (·.1)).Nodup) (hd : Ok d) : Vl S (pat f d.1.toNat (-1)) := by
  obtain ⟨⟨h1, h2⟩, h3, h4⟩ := hd
  intro k hk
  unfold pat
  by_cases e : k = d.1.toNat
  · right
    rw [if_pos e]
    refine ⟨fun x hx e2 => ?_, rfl⟩
    have := (List.nodup_cons.1 hn).1
    exact this (List.mem_map.2 ⟨x, hx, by show x.1 = d.1; omega⟩)
  · rw [if_neg e]
    rcases h k hk with hh | ⟨hh, h'⟩
    · rcases List.mem_cons.1 hh with hh | hh
      · have := congrArg Prod.fst hh
        exact absurd this (fun e2 => e (by simp at e2; omega))
      · exact .inl hh
    · exact .inr ⟨fun x hx => hh x (List.mem_cons_of_mem _ hx), h'⟩
/-- how many are set below n -/
def cnt (f : Nat → Int) : Nat → Nat
  | 0 => 0
  | n + 1 => cnt f n + (if 0 ≤ f n then 1 else 0)
theorem cnt_le (f : Nat → Int) : ∀ n, cnt f n ≤ n
  | 0 => Nat.le_refl _
  | n + 1 => by
    have := cnt_le f n
    unfold cnt
    split <;> omega
theorem below_succ (n : Nat) : ∀ S : List D, S.countP (fun d => decide (d.1 < ((n + 1 : Nat) : Int))) = S.countP (fun d => decide (d.1 < (n : Int))) + S.countP (fun d => decide (d.1 = (n : Int)))
  | [] => rfl
  | d :: S => by
    have ih := below_succ n S
    simp only [List.countP_cons, ih, decide_eq_true_eq]
    have hh : (d.1 < ((n + 1 : Nat) : Int)) ↔ (d.1 < (n : Int) ∨ d.1 = (n : Int)) := by omega
    by_cases a : d.1 < (n : Int)
    · rw [if_pos (hh.2 (.inl a)), if_pos a, if_neg (by omega)]; omega
    · by_cases b : d.1 = (n : Int)
      · rw [if_pos (hh.2 (.inr b)), if_neg a, if_pos b]; omega
      · rw [if_neg (fun c => (hh.1 c).elim a b), if_neg a, if_neg b]; omega
theorem one_of (x : Int) : ∀ S : List D, (S.map (·.1)).Nodup → S.countP (fun d => decide (d.1 = x)) = if ∃ d ∈ S, d.1 = x then 1 else 0
  | [], _ => by simp
  | d :: S, h => by
    rw [List.map_cons, List.nodup_cons] at h
    have ih := one_of x S h.2
    simp only [List.countP_cons, ih, decide_eq_true_eq]
    by_cases b : d.1 = x
    · have hn : ¬ ∃ e ∈ S, e.1 = x := fun ⟨e, he, e2⟩ => h.1 (List.mem_map.2 ⟨e, he, e2.trans b.symm⟩)
      rw [if_neg hn, if_pos b, if_pos ⟨d, List.mem_cons_self, b⟩]
    · rw [if_neg b]
      have : (∃ e ∈ d :: S, e.1 = x) ↔ ∃ e ∈ S, e.1 = x := ⟨fun ⟨e, he, e2⟩ => by
        rcases List.mem_cons.1 he with rfl | he
        · exact absurd e2 b
        · exact ⟨e, he, e2⟩, fun ⟨e, he, e2⟩ => ⟨e, List.mem_cons_of_mem _ he, e2⟩⟩
      simp only [this]
      rfl
theorem cnt_eq {S : List D} {f : Nat → Int} (h : Vl S f) (hn : (S.map (·.1)).Nodup) (hk : ∀ d ∈ S, Ok d) : ∀ n, n ≤ 4096 → cnt f n = S.countP (fun d => decide (d.1 < (n : Int)))
  | 0, _ => by
    symm
    show _ = 0
    rw [List.countP_eq_zero]
    intro d hd
    have := (hk d hd).1.1
    simp; omega
  | n + 1, hl => by
    have ih := cnt_eq h hn hk n (by omega)
    unfold cnt
    rw [below_succ, one_of _ _ hn, ih]
    congr 1
    rcases h n (by omega) with hh | ⟨hh, h'⟩
    · have := (hk _ hh).2.1
      rw [if_pos this, if_pos ⟨_, hh, rfl⟩]
    · rw [if_neg (by omega), if_neg (fun ⟨d, hd, e⟩ => hh d hd e)]
theorem cnt_all {S : List D} {f : Nat → Int} (h : Vl S f) (hn : (S.map (·.1)).Nodup) (hk : ∀ d ∈ S, Ok d) : cnt f 4096 = S.length := by
  rw [cnt_eq h hn hk 4096 (Nat.le_refl _), List.countP_eq_length]
  intro d hd
  have := (hk d hd).1.2
  simp; omega
theorem due_max {l : Int} (h : okTime l = true) : dueE 1099511627776 l = 0 := by
  unfold okTime at h
  simp at h
  unfold dueE okTime
  rw [if_pos]
  simp [h.2]
theorem told_max {S : List D} (hk : ∀ d ∈ S, Ok d) : told 1099511627776 S = S ∧ rest 1099511627776 S = [] := by
  have := split_due (now := 1099511627776) (T := S) (S := []) (fun x hx => (hk x hx).2.2) (by simp)
  simpa using this
theorem dTS (now l : Int) (S : List D) : dT now l S ++ dS now l S = S := by
  unfold dT dS told rest
  split
  · exact List.takeWhile_append_dropWhile
  · rfl
theorem dT_le (now l : Int) (S : List D) : ∀ d ∈ dT now l S, d.2 ≤ now := by
  unfold dT told
  split
  · intro d hd
    simpa using takeWhile_all _ _ d hd
  · simp
/-- the k-th that is told -/
theorem told_at {T R : List D} {k : Nat} (hk : k < T.length) : (T ++ R).drop k = at_ T k :: (T ++ R).drop (k + 1) := by
  have h1 : k < (T ++ R).length := by simp; omega
  rw [List.drop_eq_getElem_cons h1]
  congr 1
  rw [List.getElem_append_left hk]
  have := at_get hk
  rw [List.getElem?_eq_getElem hk] at this
  exact Option.some.inj this
end Go.Proofs.Ytinhhfnknlmdgaa.Tm
