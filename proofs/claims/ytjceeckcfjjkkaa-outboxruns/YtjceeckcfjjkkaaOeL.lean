/-
  While the document's box takes a report: what lies in memory, and what the steps come to as values.
  Conditions: as at each lemma.
-/
import Derived.Test.YtjceeckcfjjkkaaOdK
import Derived.Test.YtjceeckcfjjkkaaOdH
import Derived.Test.YtjceeckcfjjkkaaOeB
import Derived.Test.YtjceeckcfjjkkaaOeM
import Derived.Test.YtjceeckcfjjkkaaObW
namespace Go.Proofs.Ytjceeckcfjjkkaa.Ob
open Go.ChangeShapes Go.WideShapes Go.ChangeAt Go.RowKit
open Ba (hidden Has cell_lt heap_lt)
set_option linter.unusedVariables false
section
variable {S : St} {q : Rq} {K : Nat} {now : Int}
/-- told of a chunk at a place -/
theorem tl_at (hG : Good K S) (ht : 0 ≤ q.tsn ∧ q.tsn < 4294967296) (he : repE S q now = 0) {i : Nat} {x : Ch} (hx : S.L[i]? = some x) : tlD q (Ser.dist 4294967296 q.tsn x.ts) = tlS S q i ∧ gdD q (Ser.dist 4294967296 q.tsn x.ts) = gdS S q i := by
  obtain ⟨h1, h2, _⟩ := repE_up he
  have hts := hG.ts i x hx
  have hi := (List.getElem?_eq_some_iff.1 hx).1
  have hl := hG.len
  have hk := hG.k
  have hc := hG.c0
  have hc1 := hG.c1
  have hd : Ser.dist 4294967296 q.tsn x.ts = (i : Int) + 1 - (upS S q : Nat) := by
    rw [hts]
    unfold Ser.dist
    split <;> omega
  rw [hd]
  have e : decide ((i : Int) + 1 - (upS S q : Nat) ≤ 0) = decide (i < upS S q) := by
    by_cases h : i < upS S q
    · rw [decide_eq_true h, decide_eq_true (by omega)]
    · rw [decide_eq_false h, decide_eq_false (by omega)]
  unfold tlD gdD tlS gdS tlV gdV
  rw [e]
  exact ⟨rfl, rfl⟩
theorem far_mem : ∀ gs : List (Int × Int), far gs = 0 ∨ ∃ g ∈ gs, far gs = g.2
  | [] => .inl rfl
  | g :: gs => by
    simp only [far]
    rcases far_mem gs with h | ⟨g', h1, h2⟩
    · rcases Int.le_total g.2 0 with h0 | h0
      · exact .inl (by omega)
      · exact .inr ⟨g, by simp, by omega⟩
    · rcases Int.le_total g.2 (far gs) with h0 | h0
      · exact .inr ⟨g', by simp [h1], by omega⟩
      · exact .inr ⟨g, by simp, by omega⟩
theorem pastV_iff {nx tsn : Int} {gs : List (Int × Int)} : pastV nx tsn gs = true ↔ (∃ g ∈ gs, 0 ≤ Ser.dist 4294967296 nx ((tsn + g.2) % 4294967296)) ∨ 0 ≤ Ser.dist 4294967296 nx tsn := by
  unfold pastV
  rw [Bool.or_eq_true, List.any_eq_true]
  simp
/-- a report tells of what was not sent -/
theorem past_both (hG : Good K S) (ht : 0 ≤ q.tsn ∧ q.tsn < 4294967296) (h : ¬ 2147483648 < (q.tsn - S.c) % 4294967296) (h1 : Gn q.gs) (h2 : Gn q.ns) :
    (pastV (nextS S) q.tsn q.gs = true ∨ pastV (nextS S) q.tsn q.ns = true) ↔ (S.L.length : Int) < (q.tsn - S.c) % 4294967296 + far (q.gs ++ q.ns) := by
  have hl : S.L.length ≤ 1001 := by have := hG.len; have := hG.k; omega
  have P := fun d hd => past_up (S := S) (q := q) ⟨hG.c0, hG.c1⟩ ht h hl d hd
  have hn : Gn (q.gs ++ q.ns) := fun g hg => (List.mem_append.1 hg).elim (h1 g) (h2 g)
  have hf0 := far_nn (q.gs ++ q.ns)
  have hf1 := far_lt (q.gs ++ q.ns) hn
  rw [pastV_iff, pastV_iff]
  constructor
  · intro hp
    have hor : (∃ g ∈ q.gs ++ q.ns, 0 ≤ Ser.dist 4294967296 (nextS S) ((q.tsn + g.2) % 4294967296)) ∨ 0 ≤ Ser.dist 4294967296 (nextS S) q.tsn := by
      rcases hp with (⟨g, hg, e⟩ | e) | (⟨g, hg, e⟩ | e)
      · exact .inl ⟨g, List.mem_append.2 (.inl hg), e⟩
      · exact .inr e
      · exact .inl ⟨g, List.mem_append.2 (.inr hg), e⟩
      · exact .inr e
    rcases hor with ⟨g, hg, e⟩ | e
    · have hb := hn g hg
      have := (P g.2 ⟨hb.2.2.1, hb.2.2.2⟩).1 (.inr e)
      have := far_ge _ hg
      omega
    · have := (P 0 (by omega)).1 (.inl e)
      omega
  · intro hlt
    rcases far_mem (q.gs ++ q.ns) with h0 | ⟨g, hg, h0⟩
    · rw [h0] at hlt
      have := (P 0 (by omega)).2 hlt
      rw [Int.add_zero, Int.emod_eq_of_lt ht.1 ht.2] at this
      exact .inl (.inr (by omega))
    · have hb := hn g hg
      rw [h0] at hlt
      rcases (P g.2 ⟨hb.2.2.1, hb.2.2.2⟩).2 hlt with e | e
      · exact .inl (.inr e)
      · rcases List.mem_append.1 hg with hg | hg
        · exact .inl (.inl ⟨g, hg, e⟩)
        · exact .inr (.inl ⟨g, hg, e⟩)
theorem lat_congr {nl : Nat → Bool} {L M : List Ch} (hl : M.length = L.length) (h : ∀ (j : Nat) (x y : Ch), L[j]? = some x → M[j]? = some y → y.pa = x.pa ∧ y.se = x.se) (i : Nat) (p s : Int) : lat nl M i p s = lat nl L i p s := by
  unfold lat
  rw [hl]
  congr 1
  funext j
  cases hx : L[j]? with
  | none =>
    have : M[j]? = none := List.getElem?_eq_none (by rw [hl]; exact List.getElem?_eq_none_iff.1 hx)
    rw [this]
  | some x =>
    obtain ⟨y, hy⟩ : ∃ y, M[j]? = some y := ⟨_, List.getElem?_eq_getElem (by rw [hl]; exact (List.getElem?_eq_some_iff.1 hx).1)⟩
    rw [hy]
    simp only []
    rw [(h j x y hx hy).1, (h j x y hx hy).2]
end
/-- rows of what is told of paths -/
def akc1 (a : Ak) : List Value := [.int .i64 a.by_, .bool a.mv, .int .i64 a.tr, .int .i64 a.lo]
def akc (ak : Nat → Ak) (n : Nat) : List Value := (List.range n).flatMap fun i => akc1 (ak i)
theorem akc_succ (ak : Nat → Ak) (n : Nat) : akc ak (n + 1) = akc ak n ++ akc1 (ak n) := by
  unfold akc
  rw [List.range_succ, List.flatMap_append]
  simp
theorem akc_len (ak : Nat → Ak) (n : Nat) : (akc ak n).length = n * 4 := by
  have := flat_len (f := fun i => akc1 (ak i)) (k := 4) (fun _ => rfl) (List.range n)
  rw [List.length_range] at this
  exact this
theorem run_bsAk (a : Ak) (w : World) : (Instr.buildSlice 32 1 #[(0, .agg #[.int .i64 a.by_, .bool a.mv, .int .i64 a.tr, .int .i64 a.lo])]).run Try.prog w = .ok (.slice (some ⟨w.heap.size, 0, none⟩) 1 1) (w.alloc (.cells (akc1 a).toArray 69)) := by
  obtain ⟨b, m, t, l⟩ := a
  kernel_rfl
theorem Aw.of_own {w : World} {base n : Nat} {v : Value} {ak : Nat → Ak} (h : w.ownsRow base 69 4 v n (akc ak n)) (hn : 0 < n) : ∃ ap cap, v = .slice (some ⟨ap, 0, none⟩) n cap ∧ n ≤ cap ∧ base ≤ ap ∧ Aw w ap n ak := by
  rcases h.2 with ⟨_, h0⟩ | ⟨g, cap, cur, rfl, hg, hh, hcap, hcm, hsz, htake⟩
  · omega
  · refine ⟨g, cap, rfl, hcap, hg, cur, hh, fun i hi => ?_⟩
    have key : ∀ c, c < 4 → cur[i * 4 + c]? = (akc1 (ak i))[c]? := fun c hc => by
      have e := congrArg (fun t => t[i * 4 + c]?) htake
      simp only [List.getElem?_take] at e
      rw [if_pos (by omega)] at e
      have e2 := flat_at (f := fun i => akc1 (ak i)) (k := 4) (fun _ => rfl) (List.range n) (j := i) (x := i) (by simp [hi]) hc
      rw [← e2]
      simpa [akc] using e
    have k0 := key 0 (by decide)
    rw [Nat.add_zero] at k0
    exact ⟨k0.trans rfl, (key 1 (by decide)).trans rfl, (key 2 (by decide)).trans rfl, (key 3 (by decide)).trans rfl⟩
/-- worlds while what is told of one path is appended -/
structure PhA (W : World) (b8 : Nat) (pv : Value) (ak : Nat → Ak) (k0 base : Nat) (k : Nat) (x : Nat × Value) (w' : World) : Prop where
  b : k ≤ 2 → Below W.heap.size W w'
  n : k = 2 → W.heap.size ≤ x.1 ∧ Has w' x.1 (akc1 (ak k0)).toArray 69
  r : 3 ≤ k → w'.ownsRow base 69 4 x.2 (k0 + 1) (akc ak (k0 + 1)) ∧ Mod (fun j => pv.ownBlock = some j ∨ j = b8) W w'
  h : k = 3 → Has w' b8 #[pv, .int .i64 0, .int .i64 0] 34
  f : k = 4 → Has w' b8 #[x.2, .int .i64 0, .int .i64 0] 34
section
variable {W w' w2 : World} {b8 k0 base : Nat} {pv u : Value} {ak : Nat → Ak} {x : Nat × Value}
theorem PhA.first (W : World) (b8 : Nat) (pv : Value) (ak : Nat → Ak) (k0 base : Nat) (x : Nat × Value) : PhA W b8 pv ak k0 base 0 x W.drew :=
  ⟨fun _ => (Below.refl _ _).drew, fun e => absurd e (by decide), fun e => absurd e (by decide), fun e => absurd e (by decide), fun e => absurd e (by decide)⟩
theorem PhA.one (h : PhA W b8 pv ak k0 base 0 x w') (hB : Below w'.heap.size w' w2) : PhA W b8 pv ak k0 base (0 + 1) x w2 :=
  ⟨fun _ => (h.b (by decide)).trans (hB.mono (h.b (by decide)).size), fun e => absurd e (by decide), fun e => absurd e (by decide), fun e => absurd e (by decide), fun e => absurd e (by decide)⟩
theorem PhA.two (h : PhA W b8 pv ak k0 base 1 x w') : PhA W b8 pv ak k0 base (1 + 1) (w'.heap.size, x.2) (w'.alloc (.cells (akc1 (ak k0)).toArray 69)) :=
  ⟨fun _ => (h.b (by decide)).alloc (h.b (by decide)).size _, fun _ => ⟨(h.b (by decide)).size, Has.new _ _ _⟩, fun e => absurd e (by decide), fun e => absurd e (by decide), fun e => absurd e (by decide)⟩
theorem PhA.three (h : PhA W b8 pv ak k0 base 2 x w') (ho : W.ownsRow base 69 4 pv k0 (akc ak k0)) (h8 : Has W b8 #[pv, .int .i64 0, .int .i64 0] 34) (hk : k0 ≤ 8) (hbase : base ≤ W.heap.size) (ty : TypeId) :
    ∃ v' w2, (Builtin.append_ #[32, 32] ty #[pv, .slice (some ⟨x.1, 0, none⟩) 1 1]).run Try.prog w' = .ok v' w2 ∧ PhA W b8 pv ak k0 base (2 + 1) (x.1, v') w2 := by
  obtain ⟨i, hi, hz, hs, hb⟩ := info_parts info_ak
  have hB := h.b (by decide)
  obtain ⟨hx, hN⟩ := h.n rfl
  have how := ownLater ho hB
  have hnews : ∀ j u, (akc1 (ak k0))[j]? = some u → w'.cell? ((⟨x.1, 0, none⟩ : Addr).add j) = some u := fun j u hj => by
    rw [add_at, Nat.zero_add]
    exact hN.cell j (by rw [← hj]; exact List.getElem?_toArray (xs := akc1 (ak k0)) (i := j))
  have h1 : ∀ u ∈ akc1 (ak k0), u.oneCell' = true := fun u hu => by
    simp only [akc1, List.mem_cons, List.not_mem_nil, or_false] at hu
    rcases hu with rfl | rfl | rfl | rfl <;> rfl
  obtain ⟨v', w2, q1, q2, q3, _⟩ := run_append_own (P := Try.prog) w' base 32 ty 69 i _ 4 32 Try.underlying32 hi hz hs hb rfl (by decide) pv k0 (akc ak k0) how ⟨x.1, 0, none⟩ 1 1 (akc1 (ak k0)) rfl hnews h1 (by unfold maxLen; omega) (by omega) (Nat.le_trans hbase hB.size)
  rw [← akc_succ] at q2
  have hm : Mod (fun j => pv.ownBlock = some j) w' w2 := Mod.grown q3 (fun k hk => hk)
  refine ⟨v', w2, q1, fun e => absurd e (by decide), fun e => absurd e (by decide), fun _ => ⟨q2, (Mod.of_below (F := fun j => pv.ownBlock = some j ∨ j = b8) hB).trans hm (fun j hj => .inl (.inl hj))⟩, fun _ => hm.has (h8.later hB) (fun e => Ba.own_ne ho h8 (by decide) b8 e rfl), fun e => absurd e (by decide)⟩
theorem st_aks {w : World} {b : Nat} {v c d : Value} (a : Option Addr) (l cp : Nat) (hc : ∃ a l c, v = .slice a l c) (h : Has w b #[v, c, d] 34) : (Instr.storeAt 32 (.pointer (some ⟨b, 0, none⟩)) (.slice a l cp)).run Try.prog w = .ok () (w.setCell ⟨b, 0, none⟩ (.slice a l cp)) := by
  obtain ⟨a', l', c', rfl⟩ := hc
  simp [go_sem, h.cell 0 rfl, h.frozen 0]
theorem PhA.four (h : PhA W b8 pv ak k0 base 3 x w') (hp : ∃ a l c, pv = .slice a l c) : (Instr.storeAt 32 (.pointer (some ⟨b8, 0, none⟩)) x.2).run Try.prog w' = .ok () (w'.setCell ⟨b8, 0, none⟩ x.2) ∧ PhA W b8 pv ak k0 base (3 + 1) x (w'.setCell ⟨b8, 0, none⟩ x.2) := by
  obtain ⟨q2, hm⟩ := h.r (by decide)
  have h8 := h.h rfl
  obtain ⟨a, cp, hx⟩ := Ba.own_len q2
  have hs : Mod (fun j => j = b8) w' (w'.setCell ⟨b8, 0, none⟩ x.2) := Mod.setCell (F := fun j => j = b8) w' (p := ⟨b8, 0, none⟩) rfl _
  refine ⟨by rw [hx]; exact st_aks _ _ _ hp h8, fun e => absurd e (by decide), fun e => absurd e (by decide), fun _ => ⟨?_, hm.trans hs (fun j hj => .inl (.inr hj))⟩, fun e => absurd e (by decide), fun _ => h8.set 0 x.2⟩
  refine Ba.own_stay (F := [b8]) q2 ⟨hs.os, hs.tape, hs.output, hs.size, fun k hk hn => hs.block k hk (by simpa using hn)⟩ (fun k hk hn => ?_)
  simp at hn
  subst hn
  exact Ba.own_ne q2 h8 (by decide) k hk rfl
end
/-- a row of one's own is a row -/
theorem Rw.of_own {w : World} {base : Nat} {v : Value} {ps : List CV} (h : w.ownsRow base 59 14 v ps.length (ccs ps)) : Rw 59 w v ps ∧ ∀ k, v.ownBlock = some k → base ≤ k := by
  rcases h.2 with ⟨rfl, h0⟩ | ⟨g, cap, cur, rfl, hg, hh, hcap, hcm, hsz, htake⟩
  · exact ⟨.inl ⟨rfl, List.eq_nil_of_length_eq_zero h0⟩, fun k hk => by cases hk⟩
  · refine ⟨.inr ⟨g, 0, cap, cur, rfl, hh, hcap, by omega, by simpa [maxLen] using hcm, fun j u hj => ?_⟩, fun k hk => by cases hk; exact hg⟩
    rw [← htake, List.getElem?_take] at hj
    split at hj
    · rw [Nat.zero_add]; simpa using hj
    · cases hj
/-- worlds while the box takes a report -/
structure Lp (D Q : Nat → Prop) (w X : World) (r : Nat) (v : Value) (n : Nat) (c0 : Int) (c : Ck) (q : Rq) (M : List Ch) (b8 ap cap : Nat) (ak : Nat → Ak) (nb N : Nat) (nlf : Nat → Bool) (fr rn : Int) : Prop where
  ro : ∃ P, Ro D X r v P n c0 M
  md : Mod (FD r v) w X
  hc : Has X w.heap.size (kcs c) 48
  hz : Has X (w.heap.size + 1) #[.slice none 0 0, .int .i64 0, .int .i64 0] 34
  h8 : Has X b8 #[.slice (some ⟨ap, 0, none⟩) n cap, .int .i64 fr, .int .i64 rn] 34
  aw : Aw X ap n ak
  nw : Bw X nb N nlf
  rp : Rp Q X c q
  l8 : w.heap.size + 1 < b8
  la : w.heap.size ≤ ap
  ln : w.heap.size ≤ nb
  fdl : ∀ k, FD r v k → k < w.heap.size
  qf : ∀ k, Q k → k < w.heap.size ∧ ¬ FD r v k
section
variable {D Q : Nat → Prop} {w X X' : World} {r : Nat} {v : Value} {n : Nat} {c0 : Int} {c : Ck} {q : Rq} {M : List Ch} {b8 ap cap : Nat} {ak : Nat → Ak} {nb N : Nat} {nlf : Nat → Bool} {fr rn : Int} {i g o : Nat} {x y : Ch}
theorem Lp.later (h : Lp D Q w X r v n c0 c q M b8 ap cap ak nb N nlf fr rn) (hB : Below X.heap.size X X') : Lp D Q w X' r v n c0 c q M b8 ap cap ak nb N nlf fr rn := by
  obtain ⟨P, hP⟩ := h.ro
  exact ⟨⟨P, hP.later hB⟩, h.md.trans (Mod.of_below (F := fun _ => False) hB) (fun _ h => h.elim), h.hc.later hB, h.hz.later hB, h.h8.later hB, h.aw.later hB, h.nw.later hB, h.rp.later hB, h.l8, h.la, h.ln, h.fdl, h.qf⟩
/-- another block has turned -/
theorem Lp.far (h : Lp D Q w X r v n c0 c q M b8 ap cap ak nb N nlf fr rn) {b : Nat} (hb : w.heap.size ≤ b) {cs : Array Value} {t : TypeId} (hh : Has X b cs t) (h5 : t ≠ 5) (hm : Mod (fun k => k = b) X X') : (∃ P, Ro D X' r v P n c0 M) ∧ Mod (FD r v) w X' ∧ Rp Q X' c q := by
  obtain ⟨P, hP⟩ := h.ro
  refine ⟨⟨P, hP.stay hm (fun k hk e => by have := h.fdl k hk; omega) (fun k cur _ hk e => by subst e; exact hk.ne hh (fun e => h5 e.symm) rfl)⟩, h.md.trans hm (fun k hk => .inr (by omega)), h.rp.stay hm (fun k hk e => by have := (h.qf k hk).1; omega)⟩
theorem Lp.s8 (h : Lp D Q w X r v n c0 c q M b8 ap cap ak nb N nlf fr rn) {j : Nat} {u : Value} {fr' rn' : Int} (hj : (#[.slice (some ⟨ap, 0, none⟩) n cap, .int .i64 fr, .int .i64 rn] : Array Value).setIfInBounds j u = #[.slice (some ⟨ap, 0, none⟩) n cap, .int .i64 fr', .int .i64 rn']) : Lp D Q w (X.setCell ⟨b8, j, none⟩ u) r v n c0 c q M b8 ap cap ak nb N nlf fr' rn' := by
  have hm : Mod (fun k => k = b8) X (X.setCell ⟨b8, j, none⟩ u) := Mod.setCell (F := fun k => k = b8) X (p := ⟨b8, j, none⟩) rfl u
  have hl := h.l8
  obtain ⟨h1, h2, h3⟩ := h.far (by omega) h.h8 (by decide) hm
  obtain ⟨ca, ha, _⟩ := h.aw
  obtain ⟨cn, hn⟩ := h.nw.type
  have e8 := h.h8.set j u
  rw [hj] at e8
  exact ⟨h1, h2, hm.has h.hc (fun e => by omega), hm.has h.hz (fun e => by omega), e8, h.aw.stay hm (fun e => ha.ne h.h8 (by decide) e), h.nw.stay hm (fun e => hn.ne h.h8 (by decide) e), h3, h.l8, h.la, h.ln, h.fdl, h.qf⟩
theorem Lp.sN (h : Lp D Q w X r v n c0 c q M b8 ap cap ak nb N nlf fr rn) {j : Nat} (hj : j < N) (z : Bool) : Lp D Q w (X.setCell ⟨nb, j, none⟩ (.bool z)) r v n c0 c q M b8 ap cap ak nb N (fun k => if k = j then z else nlf k) fr rn := by
  have hm : Mod (fun k => k = nb) X (X.setCell ⟨nb, j, none⟩ (.bool z)) := Mod.setCell (F := fun k => k = nb) X (p := ⟨nb, j, none⟩) rfl _
  obtain ⟨cn, hn⟩ := h.nw.type
  obtain ⟨h1, h2, h3⟩ := h.far h.ln hn (by decide) hm
  obtain ⟨ca, ha, _⟩ := h.aw
  exact ⟨h1, h2, hm.has h.hc (fun e => h.hc.ne hn (by decide) e), hm.has h.hz (fun e => h.hz.ne hn (by decide) e), hm.has h.h8 (fun e => h.h8.ne hn (by decide) e), h.aw.stay hm (fun e => ha.ne hn (by decide) e), h.nw.set hj z, h3, h.l8, h.la, h.ln, h.fdl, h.qf⟩
theorem Lp.sA (h : Lp D Q w X r v n c0 c q M b8 ap cap ak nb N nlf fr rn) {j : Nat} (hj : j < n) (z : Int) : Lp D Q w (X.setCell ⟨ap, j * 4 + 3, none⟩ (.int .i64 z)) r v n c0 c q M b8 ap cap (fun k => if k = j then { ak j with lo := z } else ak k) nb N nlf fr rn := by
  have hm : Mod (fun k => k = ap) X (X.setCell ⟨ap, j * 4 + 3, none⟩ (.int .i64 z)) := Mod.setCell (F := fun k => k = ap) X (p := ⟨ap, j * 4 + 3, none⟩) rfl _
  obtain ⟨cn, hn⟩ := h.nw.type
  obtain ⟨ca, ha, _⟩ := h.aw
  obtain ⟨h1, h2, h3⟩ := h.far h.la ha (by decide) hm
  exact ⟨h1, h2, hm.has h.hc (fun e => h.hc.ne ha (by decide) e), hm.has h.hz (fun e => h.hz.ne ha (by decide) e), hm.has h.h8 (fun e => h.h8.ne ha (by decide) e), h.aw.set hj (c := 3) (by decide) { ak j with lo := z } rfl rfl rfl rfl, h.nw.stay hm (fun e => hn.ne ha (by decide) e), h3, h.l8, h.la, h.ln, h.fdl, h.qf⟩
theorem Lp.setC (h : Lp D Q w X r v n c0 c q M b8 ap cap ak nb N nlf fr rn) (hp : Pl v i g o) (hi : M[i]? = some x) {cc_ : Nat} {u : Value} (hc : cc_ < 14) (hs : ∀ v, (cc ⟨x, v⟩).set cc_ u = cc ⟨y, v⟩) (hd : y.p.d = x.p.d) : Lp D Q w (X.setCell ⟨g, o + cc_, none⟩ u) r v n c0 c q (M.set i y) b8 ap cap ak nb N nlf fr rn := by
  obtain ⟨P, hP⟩ := h.ro
  have hg := hp.own
  have hgl := h.fdl g (.inr hg)
  have hm : Mod (fun k => k = g) X (X.setCell ⟨g, o + cc_, none⟩ u) := Mod.setCell (F := fun k => k = g) X (p := ⟨g, o + cc_, none⟩) rfl u
  have l8 := h.l8
  have la := h.la
  have ln := h.ln
  exact ⟨hP.setC hp hi hc hs hd, h.md.trans hm (fun k hk => .inl (.inr (hk ▸ hg))), hm.has h.hc (fun e => by omega), hm.has h.hz (fun e => by omega), hm.has h.h8 (fun e => by omega), h.aw.stay hm (fun e => by omega), h.nw.stay hm (fun e => by omega), h.rp.stay hm (fun k hk e => (h.qf k hk).2 (.inr (e ▸ hg))), h.l8, h.la, h.ln, h.fdl, h.qf⟩
theorem Lp.congr {M' : List Ch} {ak' : Nat → Ak} {nlf' : Nat → Bool} {fr' rn' : Int} (h : Lp D Q w X r v n c0 c q M b8 ap cap ak nb N nlf fr rn) (hM : M = M') (ha : ∀ i, i < n → ak i = ak' i) (hn : ∀ i, i < N → nlf i = nlf' i) (hf : fr = fr') (hr : rn = rn') : Lp D Q w X r v n c0 c q M' b8 ap cap ak' nb N nlf' fr' rn' := by
  subst hM hf hr
  exact ⟨h.ro, h.md, h.hc, h.hz, h.h8, h.aw.congr ha, h.nw.congr hn, h.rp, h.l8, h.la, h.ln, h.fdl, h.qf⟩
/-- the chunk at a place -/
theorem Lp.open (h : Lp D Q w X r v n c0 c q M b8 ap cap ak nb N nlf fr rn) (hi : M[i]? = some x) : ∃ g oo cp a1 c1, v = .slice (some ⟨g, oo, none⟩) M.length cp ∧ Pl v i g (oo + i * 14) ∧ Cells X g (oo + i * 14) ⟨x, .slice (some a1) x.p.d.length c1⟩ ∧ ∀ c, X.frozen? ⟨g, c, none⟩ = false := by
  obtain ⟨P, hP⟩ := h.ro
  obtain ⟨g, oo, cp, a1, c1, e, hc, _, hf⟩ := hP.open hi
  exact ⟨g, oo, cp, a1, c1, e, ⟨oo, _, _, e, rfl⟩, hc, hf⟩
theorem Lp.rq (h : Lp D Q w X r v n c0 c q M b8 ap cap ak nb N nlf fr rn) : Has X r #[.int .i64 (n : Int), .int .u32 c0, v] 91 := by
  obtain ⟨P, hP⟩ := h.ro
  exact hP.q
end
theorem ccs_drop (ps : List CV) (u : Nat) : ccs (ps.drop u) = (ccs ps).drop (u * 14) := by
  induction u generalizing ps with
  | zero => simp
  | succ u ih =>
    cases ps with
    | nil => simp [ccs]
    | cons p ps =>
      rw [List.drop_succ_cons, ih]
      have e : ccs (p :: ps) = cc p ++ ccs ps := by unfold ccs; rw [List.flatMap_cons]
      rw [e, show (u + 1) * 14 = (cc p).length + u * 14 by rw [cc_len]; omega, List.drop_append]
      simp
/-- the chunks from a place on, in a row of their own -/
theorem drop_row {X : World} {g oo cp u base : Nat} {ps : List CV} {ad : Addr} (h : Rw 59 X (.slice (some ⟨g, oo, none⟩) ps.length cp) ps) (hD : ∀ p ∈ ps, p.v.oneCell' = true) (hu : u ≤ ps.length) (hl : ps.length ≤ 1001) (hb : base ≤ X.heap.size) (had : cp = u ∧ ad = ⟨g, oo, none⟩ ∨ ad = ⟨g, oo + u * 14, none⟩) (ty : TypeId) :
    ∃ v' w', (Builtin.append_ #[55, 55] ty #[.slice (some ⟨X.heap.size, 0, none⟩) 0 0, .slice (some ad) (ps.length - u) (cp - u)]).run Try.prog (X.alloc (.cells #[] 59)) = .ok v' w' ∧ Rw 59 w' v' (ps.drop u) ∧ (∀ k, v'.ownBlock = some k → base ≤ k) ∧ Below X.heap.size X w' := by
  obtain ⟨i, hi, hz, hs, hby⟩ := info_parts info_out
  have hB : Below X.heap.size X (X.alloc (.cells #[] 59)) := (Below.refl _ _).alloc (Nat.le_refl _) _
  have how : (X.alloc (.cells #[] 59)).ownsRow base 59 14 (.slice (some ⟨X.heap.size, 0, none⟩) 0 0) 0 [] := World.ownsRow_lit X #[] 0 hb (Nat.zero_le _) rfl
  have how2 : (X.alloc (.cells #[] 59)).ownsRow X.heap.size 59 14 (.slice (some ⟨X.heap.size, 0, none⟩) 0 0) 0 [] := World.ownsRow_lit X #[] 0 (Nat.le_refl _) (Nat.zero_le _) rfl
  have hnl : (ccs (ps.drop u)).length = (ps.length - u) * 14 := by rw [ccs_len, List.length_drop]
  have h1 : ∀ w ∈ ccs (ps.drop u), w.oneCell' = true := fun w hw => by
    unfold ccs at hw
    obtain ⟨p, hp, hw⟩ := List.mem_flatMap.1 hw
    exact cc_one (hD p (List.mem_of_mem_drop hp)) w hw
  have hnews : ∀ j w, (ccs (ps.drop u))[j]? = some w → (X.alloc (.cells #[] 59)).cell? (ad.add j) = some w := fun j w hj => by
    have hjl := (List.getElem?_eq_some_iff.1 hj).1
    rw [hnl] at hjl
    rcases h with ⟨e, _⟩ | ⟨g', oo', cap, cur, e, hh, h2, h3, h4, hc⟩
    · cases e
    · cases e
      rcases had with ⟨rfl, _⟩ | rfl
      · omega
      · rw [ccs_drop, List.getElem?_drop] at hj
        have := hc _ _ hj
        rw [add_at, Nat.add_assoc]
        exact (hh.later hB).cell _ this
  obtain ⟨v', w', q1, q2, q3, _⟩ := run_append_own (P := Try.prog) (X.alloc (.cells #[] 59)) X.heap.size 55 ty 59 i _ 14 104 Try.underlying55 hi hz hs hby rfl (by decide) _ 0 [] how2 ad (ps.length - u) (cp - u) (ccs (ps.drop u)) hnl hnews h1 (by unfold maxLen; omega) (by omega) hB.size
  rw [Nat.zero_add, List.nil_append, ← List.length_drop (l := ps) (i := u)] at q2
  obtain ⟨r1, r2⟩ := Rw.of_own q2
  refine ⟨v', w', q1, r1, fun k hk => Nat.le_trans hb (r2 k hk), hB.trans ((Mod.grown (F := fun k => k = X.heap.size) q3 (fun k hk => by cases hk; rfl)).below hB.size (fun j hj => by omega))⟩
theorem drop_none {X : World} (ty : TypeId) : (Builtin.append_ #[55, 55] ty #[.slice (some ⟨X.heap.size, 0, none⟩) 0 0, .slice none 0 0]).run Try.prog (X.alloc (.cells #[] 59)) = .ok (.slice (some ⟨X.heap.size, 0, none⟩) 0 0) (X.alloc (.cells #[] 59)) := by
  obtain ⟨i, hi, _⟩ := info_parts info_out
  exact run_append_owned_none (P := Try.prog) (w := X.alloc (.cells #[] 59)) 0 55 ty 59 i 14 Try.underlying55 hi _ 0 [] (World.ownsRow_lit X #[] 0 (Nat.zero_le _) (Nat.zero_le _) rfl)
theorem lit_row {X : World} : Rw 59 (X.alloc (.cells #[] 59)) (.slice (some ⟨X.heap.size, 0, none⟩) 0 0) [] :=
  .inr ⟨X.heap.size, 0, 0, #[], rfl, Has.new _ _ _, Nat.le_refl _, rfl, by decide, fun j u hj => by simp [ccs] at hj⟩
theorem Lp.later_ {D Q : Nat → Prop} {w X : World} {r : Nat} {v : Value} {n : Nat} {c0 : Int} {c : Ck} {q : Rq} {M L : List Ch} {b8 ap cap : Nat} {ak : Nat → Ak} {nb N : Nat} {nl : Nat → Bool} {fr rn : Int} {k : Nat} {y : Ch}
    (h : Lp D Q w X r v n c0 c q M b8 ap cap ak nb N nl fr rn) (hm : M.length = N) (hN : N ≤ 1001) (hx : M[k]? = some y) (hl : lat nl M k y.pa y.se = lat nl L k y.pa y.se) :
    Calls Try.prog 73 #[.pointer (some ⟨r, 0, none⟩), .slice (some ⟨nb, 0, none⟩) N N, .int .i64 (k : Int)] X fun e w' => e = .returned (.bool (lat nl L k y.pa y.se)) ∧ Below X.heap.size X w' := by
  subst hm
  obtain ⟨P', hP'⟩ := h.ro
  have := r_later hP' hN h.nw hx
  rw [hl] at this
  exact this
end Go.Proofs.Ytjceeckcfjjkkaa.Ob
