/-
  The reader's list, and what Decode of package param answers.
  Conditions: the numbers lie within their kinds, the cells hold them.
-/
import Derived.Test.YtifdkpifambhaaaParK
namespace Go.Proofs.Ytifdkpifambhaaa.Par
open Go.ChangeShapes Go.WideShapes Go.ChangeAt Go.RowKit
set_option linter.unusedVariables false

def lenV : Value → Nat
  | .slice _ n _ => n
  | _ => 0
set_option maxRecDepth 20000 in
theorem catch_panicking (p : Addr) (x : Int) (f : Int) (older : List PanicEntry) (w : World) (hc : w.cell? p = some (.int .i64 x)) (hz : w.frozen? p = false) :
    CallsD Try.prog 90 #[.pointer (some p)] (.panicking ({ v := .iface 24 (.int .i64 f), recovered := false } :: older)) w fun e u' w' =>
      e = .returned (.tuple #[]) ∧ u' = .panicking ({ v := .iface 24 (.int .i64 f), recovered := true } :: older) ∧ w' = w.setCell p (.int .i64 f) := by
  have hta : ∀ w : World, (Instr.typeAssert (.iface 24 (.int .i64 f)) 20 24 false).run Try.prog w = .ok (.int .i64 f) w := fun w => by rfl
  refine callsD_of_wpS Try.func90 rfl fun c₀ cs hu => ?_
  apply wpS_seq
  apply wpS_region
  simp [wpOpsS, go_sem, recoverD, hu, Try.ntmps90, Exit.thenS]
  refine wpS_of_wp ?_
  go_wp2
  simp [bodyPostS, results, Try.results90]
theorem catch_idle (p : Addr) (w : World) :
    CallsD Try.prog 90 #[.pointer (some p)] .returning w fun e u' w' => e = .returned (.tuple #[]) ∧ u' = .returning ∧ w' = w := by
  refine callsD_of_wpS Try.func90 rfl fun c₀ cs hu => ?_
  apply wpS_seq
  apply wpS_region
  simp [wpOpsS, go_sem, recoverD, hu, Try.ntmps90, Exit.thenS]
  refine wpS_of_wp ?_
  go_wp2
  cases c₀
  simp_all [bodyPostS, results, Try.results90]

theorem getD_drop (zs : List Int) (p i : Nat) : (zs.drop p).getD i 0 = zs.getD (p + i) 0 := by rw [List.getD_eq_getElem?_getD, List.getD_eq_getElem?_getD, List.getElem?_drop]
theorem ln_drop (zs : List Int) (p : Nat) : ln (zs.drop p) 0 = ln zs p := by unfold ln; rw [getD_drop, getD_drop, Nat.zero_add, Nat.zero_add]
theorem drop_min (zs : List Int) (p f len : Nat) (hl : (zs.drop p).length = len) : (zs.drop p).drop (min f len) = zs.drop (p + f) := by
  rw [List.drop_drop]
  rcases Nat.le_total f len with h | h
  · rw [Nat.min_eq_left h]
  · rw [Nat.min_eq_right h]
    rw [List.length_drop] at hl
    rw [List.drop_of_length_le (by omega), List.drop_of_length_le (by omega)]
/-- the reader behind k parameters -/
def Rdr (w0 w : World) (B : Nat) (zs : List Int) (k : Nat) (a : Option Addr) (len cap : Nat) : Prop :=
  Rd w B a len cap k ∧ Row 0 w0 a len (zs.drop (pos zs k)) ∧ len ≤ cap ∧ (a = none → len = 0 ∧ cap = 0)
/-- the list of k parameters -/
def Lst (base : Nat) (w : World) (v : Value) (zs : List Int) (k : Nat) (ps : List Prm) : Prop :=
  w.ownsRow base 56 2 v k (ps.flatMap pc) ∧ ps.map val = items zs k ∧ ∀ p ∈ ps, One base w p ∧ Own5 w p

theorem all_end {w wr w2 : World} {B : Nat} {a : Option Addr} {len cap : Nat} {cnt : Int} (hg : w.grownBy wr (some B)) (hR : Rd wr B a len cap cnt) (hE : w.heap.size < wr.heap.size) (lt : B < w.heap.size) (b2 : Below wr.heap.size wr w2) (v : Value) :
    w.grownBy (w2.setCell ⟨w.heap.size, 0, none⟩ v) (some B) ∧ Rd (w2.setCell ⟨w.heap.size, 0, none⟩ v) B a len cap cnt := by
  have s1 := hg.size
  have s2 := b2.size
  refine ⟨⟨b2.os.trans hg.os, b2.tape.trans hg.tape, b2.output.trans hg.output, by simp [World.setCell]; omega, fun k hk hne => ?_⟩, ?_⟩
  · exact (Below.heap_setCell _ _ _ _ (by simp; omega)).trans ((b2.block k (by omega)).trans (hg.block k hk hne))
  · exact (Below.heap_setCell _ _ _ _ (by simp; omega)).trans (hR.later b2)
theorem info45 : (Try.prog.info? 56).map (fun i => (i.zero, i.size, i.bytes)) = some (some (.agg #[.int .u16 0, .slice none 0 0]), 2, 32) := by kernel_rfl
theorem Own5.set {base : Nat} {w : World} {p : Prm} (h : One base w p) (h5 : Own5 w p) {x : Addr} (hx : x.block < base) (v : Value) : Own5 (w.setCell x v) p := by
  rcases h5 with h0 | ⟨b, off, cur, fr, e, hh⟩
  · exact .inl h0
  · rcases h.2.1.2.2.2 with h0 | ⟨b', off', e', hbb, _⟩
    · exact .inl h0
    · rw [e] at e'
      cases e'
      exact .inr ⟨b, off, cur, fr, e, (Below.heap_setCell _ _ _ _ (by omega)).trans hh⟩
theorem Lst.set {base : Nat} {w : World} {v : Value} {zs : List Int} {k : Nat} {ps : List Prm} (h : Lst base w v zs k ps) {x : Addr} (hx : x.block < base) (u : Value) : Lst base (w.setCell x u) v zs k ps :=
  ⟨ownsRow_setCell_below h.1 hx u, h.2.1, fun p hp => ⟨(h.2.2 p hp).1.set hx u, Own5.set (h.2.2 p hp).1 (h.2.2 p hp).2 hx u⟩⟩
theorem row_kind {w : World} {B : Nat} {e : TypeId} {size : Nat} {v : Value} {n : Nat} {xs : List Value} (h : w.ownsRow B e size v n xs) : ∀ g, v.ownBlock = some g → ∃ c fz, w.heap[g]? = some (.cells c e fz) := by
  intro g hg
  rcases h.2 with ⟨rfl, _⟩ | ⟨g', cap, cur, rfl, _, hh, _⟩
  · simp [Value.ownBlock] at hg
  · simp [Value.ownBlock] at hg
    subst hg
    exact ⟨_, _, hh⟩
/-- one parameter more -/
theorem all_step {w wr w2 w3 : World} {B k : Nat} {zs : List Int} {ps : List Prm} {q : Prm} {v v3 : Value} {a a' : Option Addr} {len cap len' cap' : Nat} {cnt : Int} (hL : Lst (w.heap.size + 1) wr v zs k ps) (hg : w.grownBy wr (some B)) (hE : wr.heap[w.heap.size]? = some (.cells #[.int .i64 0] 24))
    (hR : Rd wr B a len cap cnt) (q1 : One (wr.heap.size + 1) w2 q) (q2 : Own5 w2 q) (q3 : val q = item zs k) (q4 : Rd w2 B a' len' cap' ((k + 1 : Nat) : Int)) (q5 : wr.grownBy w2 (some B)) (lt : B < w.heap.size) (hElt : w.heap.size < wr.heap.size) (o : Obj)
    (ho3 : w3.ownsRow (w.heap.size + 1) 56 2 v3 (k + 1) (ps.flatMap pc ++ pc q)) (hg3 : (w2.alloc o).grownBy w3 v.ownBlock) :
    Lst (w.heap.size + 1) w3 v3 zs (k + 1) (ps ++ [q]) ∧ Rd w3 B a' len' cap' ((k + 1 : Nat) : Int) ∧ w3.heap[w.heap.size]? = some (.cells #[.int .i64 0] 24) ∧ w.grownBy w3 (some B) := by
  have s1 := hg.size
  have s2 := q5.size
  have s3 := hg3.size
  simp only [World.size_alloc] at s3
  have hkind : ∀ g, v.ownBlock = some g → ∃ cur t fr, (w2.alloc o).heap[g]? = some (.cells cur t fr) ∧ t ≠ 5 := by
    intro g e
    obtain ⟨c, fz, hh⟩ := row_kind hL.1 g e
    have hgl := hL.1.lt g e
    refine ⟨c, 56, fz, ?_, by decide⟩
    rw [heap_alloc_old _ _ (by omega), q5.block g hgl.2 (by simp; omega)]
    exact hh
  have hblk : ∀ j, j < w.heap.size + 1 → w3.heap[j]? = w2.heap[j]? := by
    intro j hj
    have e1 := hg3.block j (by simp only [World.size_alloc]; omega) (fun e => by have := hL.1.lt j e.symm; omega)
    rw [e1, heap_alloc_old _ _ (by omega)]
  have each : ∀ p : Prm, One (w.heap.size + 1) w2 p → Own5 w2 p → One (w.heap.size + 1) w3 p ∧ Own5 w3 p := by
    intro p h h5
    obtain ⟨x1, x2⟩ := h.grown h5 (World.grownBy_alloc w2 o none) (fun g e => by cases e)
    exact x1.grown x2 hg3 hkind
  refine ⟨⟨?_, ?_, ?_⟩, ?_, ?_, ?_⟩
  · rw [List.flatMap_append]
    simpa using ho3
  · rw [List.map_append, hL.2.1, items_succ]
    simp [q3]
  · intro p hp
    rcases List.mem_append.1 hp with hp | hp
    · obtain ⟨x1, x2⟩ := (hL.2.2 p hp).1.grown (hL.2.2 p hp).2 q5 (fun g e => by cases e; exact ⟨_, _, _, hR, by decide⟩)
      exact each p x1 x2
    · obtain rfl : p = q := by simpa using hp
      exact each _ (q1.mono (by omega)) q2
  · exact (hblk B (by omega)).trans q4
  · exact (hblk _ (by omega)).trans ((q5.block _ hElt (by simp; omega)).trans hE)
  · exact ⟨hg3.os.trans (q5.os.trans hg.os), hg3.tape.trans (q5.tape.trans hg.tape), hg3.output.trans (q5.output.trans hg.output), by omega, fun j hj hne => (hblk j (by omega)).trans ((q5.block j (by omega) hne).trans (hg.block j hj hne))⟩
theorem all_ (w0 w : World) (B : Nat) (a : Option Addr) (len cap : Nat) (zs : List Int) (hR : Rdr w0 w B zs 0 a len cap) (hb0 : Below w0.heap.size w0 w) (hB : w0.heap.size ≤ B) :
    Calls Try.prog 89 #[.pointer (some ⟨B, 0, none⟩)] w fun e w' => ∃ v c, e = .returned (.tuple #[v, .int .i64 c]) ∧ w.grownBy w' (some B) ∧
      ((c = 0 ∧ ∃ k ps, Lst (w.heap.size + 1) w' v zs k ps ∧ Out zs (items zs k) 0 0) ∨ (¬ c = 0 ∧ ∃ a' len' cap' cnt, Rd w' B a' len' cap' cnt ∧ len' ≤ zs.length ∧ Out zs [] (zs.length - len') c)) := by
  have hmf : ∀ (fn : Fn) (first cap : Array Value) (w : World), (Instr.makeFunc fn first cap).run Try.prog w = .ok (.func fn first cap) w := fun _ _ _ _ => rfl
  have lt := hR.1.lt
  obtain ⟨i0, hi, hz0, hz1, hz2⟩ := info_parts info45
  go_enter_defers Try.func89, Try.ntmps89
  go_wp2_with fail
  go_loopw [2] (fun v wr => ∃ k ps a len cap, k ≤ 256 ∧ (∀ j, j < k → good zs j) ∧ Lst (w.heap.size + 1) wr v zs k ps ∧ Rdr w0 wr B zs k a len cap ∧ wr.heap[w.heap.size]? = some (.cells #[.int .i64 0] 24) ∧ w.grownBy wr (some B)) (fun v _ => 257 - lenV v)
  case atStart =>
    refine ⟨0, [], a, len, cap, by omega, (fun j hj => by omega), ⟨World.ownsRow_nil _ _ _ _, rfl, (fun p hp => by cases hp)⟩, ⟨(hR.1.later ((Below.refl _ w).alloc (Nat.le_refl _) _)), hR.2⟩, heap_alloc_new w _, World.grownBy_alloc w _ _⟩
  case round =>
    obtain ⟨k, ps, a, len, cap, hk, hgood, hL, hRr, hE, hg⟩ := hrel
    obtain ⟨hRd, hrow, hlc, hnn⟩ := hRr
    obtain ⟨va, vc, rfl⟩ := form_of hL.1
    have c0 := hRd.c0
    have hrl := hrow.1
    rw [List.length_drop] at hrl
    have hlim := hrow.2.2.1
    have hsw := hg.size
    have hElt : w.heap.size < wr.heap.size := (Array.getElem?_eq_some_iff.1 hE).1
    have e0 : wr.cell? ⟨w.heap.size, 0, none⟩ = some (.int .i64 0) := by simp [World.cell?, hE]
    have f0 : wr.frozen? ⟨w.heap.size, 0, none⟩ = false := by simp [World.frozen?, hE]
    have EM := hidden (empty_ a len cap wr)
    rcases Nat.eq_zero_or_pos len with h0 | hpos
    · rw [decide_eq_true h0] at EM
      subst h0
      have HL := hidden hL
      have HG := hidden hg
      have HO := hidden (show Out zs (items zs k) 0 0 from ⟨k, hk, hgood, .inl ⟨by omega, rfl, rfl, rfl⟩⟩)
      clear hL hg hgood
      go_wp2_with fail
      refine Calls.mono EM.out ?_
      rintro e w' ⟨rfl, rfl⟩
      go_wp2
      refine leaves_cons (f := 90) (args := #[.pointer (some ⟨w.heap.size, 0, none⟩)]) (by simp) (by simp [go_sem]) ?_
      refine (catch_idle ⟨w.heap.size, 0, none⟩ _).mono ?_
      rintro e u' w3 ⟨rfl, rfl, rfl⟩
      have hx := World.cell?_setCell_same wr ⟨w.heap.size, 0, none⟩ (.int .i64 0) e0
      obtain ⟨y1, y2⟩ := all_end HG.out hRd hElt lt (Below.refl _ _) (.int .i64 0)
      exact ⟨.tuple #[.slice va k vc, .int .i64 0], by simp [results, Try.results89, go_sem, hx], _, _, rfl, y1, .inl ⟨rfl, k, ps, HL.out.set (by simp) _, HO.out⟩⟩
    · rw [decide_eq_false (by omega)] at EM
      by_cases hk2 : 256 ≤ k
      · have NX := hidden (nextBad1 wr B a len cap k hRd hk2 (by omega))
        go_wp2_with fail
        refine Calls.mono EM.out ?_
        rintro e w' ⟨rfl, rfl⟩
        go_wp2_with fail
        refine Calls.mono NX.out ?_
        rintro e w2 ⟨rfl, b2⟩
        refine leaves_cons (f := 90) (args := #[.pointer (some ⟨w.heap.size, 0, none⟩)]) (by simp) (by simp [go_sem]) ?_
        refine (catch_panicking ⟨w.heap.size, 0, none⟩ 0 3 [] w2 (keep_cell b2 e0) ?_).mono ?_
        · exact (World.frozen?_of_block (a := ⟨w.heap.size, 0, none⟩) (b2.block _ hElt)).trans f0
        rintro e u' w3 ⟨rfl, rfl, rfl⟩
        have hx := World.cell?_setCell_same w2 ⟨w.heap.size, 0, none⟩ (.int .i64 3) (keep_cell b2 e0)
        obtain ⟨y1, y2⟩ := all_end hg hRd hElt lt b2 (.int .i64 3)
        refine ⟨.tuple #[.slice va k vc, .int .i64 3], by simp [results, Try.results89, go_sem, hx], _, _, rfl, y1, .inr ⟨by decide, _, _, _, _, y2, by omega, ?_⟩⟩
        rw [show zs.length - len = pos zs k by omega]
        exact ⟨k, hk, hgood, .inr ⟨by omega, fun h => by have := h.1; omega, rfl, rfl, by unfold errOf; rw [if_pos hk2]⟩⟩
      · by_cases hok : 4 ≤ len ∧ 4 ≤ ln (zs.drop (pos zs k)) 0 ∧ ln (zs.drop (pos zs k)) 0 ≤ len
        · obtain ⟨h4, h5, h6⟩ := hok
          have hb1 : Below w0.heap.size w0 wr := hb0.grown hg hb0.size (fun j hj => by cases hj; exact hB)
          have NX := hidden (nextOk w0 wr B a len cap k _ hRd hrow hlc hnn hb1 hB (by omega) h4 _ _ _ _ rfl rfl h5 h6 rfl rfl)
          have HGD := hidden (show ∀ j, j < k + 1 → good zs j from fun j hj => by
            rcases Nat.lt_or_ge j k with h | h
            · exact hgood j h
            · obtain rfl : j = k := by omega
              rw [ln_drop] at h5 h6
              exact ⟨by omega, by omega, h5, by omega⟩)
          have HROW := hidden (show Row 0 w0 (cutA a cap (min (fill4 (ln (zs.drop (pos zs k)) 0)) len)) (len - min (fill4 (ln (zs.drop (pos zs k)) 0)) len) (zs.drop (pos zs (k + 1))) by
            have := cutA_row (k := min (fill4 (ln (zs.drop (pos zs k)) 0)) len) hrow (Nat.min_le_right _ _) hlc hnn
            rw [drop_min zs (pos zs k) _ len hrow.1, ln_drop] at this
            rw [ln_drop]
            exact this)
          have HNN := hidden (cutA_none (k := min (fill4 (ln (zs.drop (pos zs k)) 0)) len) hnn)
          have HIT := hidden (show ((zs.drop (pos zs k)).getD 0 0 * 256 + (zs.drop (pos zs k)).getD 1 0, ((zs.drop (pos zs k)).drop 4).take (ln (zs.drop (pos zs k)) 0 - 4)) = item zs k by
            unfold item
            rw [getD_drop, getD_drop, ln_drop, List.drop_drop]
            rfl)
          rw [HIT.out] at NX
          generalize min (fill4 (ln (zs.drop (pos zs k)) 0)) len = mm at *
          have HL := hidden hL
          have HG := hidden hg
          have hBr := hRd.lt
          clear hgood h4 h5 h6 hL hg HIT
          go_wp2_with fail
          refine Calls.mono EM.out ?_
          rintro e w' ⟨rfl, rfl⟩
          go_wp2_with fail
          refine Calls.mono NX.out ?_
          rintro e w2 ⟨⟨qt, qa, ql, qc, qz⟩, rfl, q1, q2, q3, q4, q5⟩
          have HQ1 := hidden q1
          have HQ2 := hidden q2
          have HQ3 := hidden q3
          have HQ4 := hidden q4
          have HQ5 := hidden q5
          have hs2 := q5.size
          have ho2 : w2.ownsRow (w.heap.size + 1) 56 2 (.slice va k vc) k (ps.flatMap pc) := HL.out.1.kept q5 (.inr (fun h => by have := HL.out.1.lt _ h; omega))
          clear q1 q2 q3 q4 q5 NX EM
          unfold pv
          go_wp2_with (at_builtin; refine wpList_append_own _ rfl _ _ 35 rfl (w.heap.size + 1) 56 i0 (.agg #[.int .u16 0, .slice none 0 0]) 2 32 Try.underlying35 hi hz0 hz1 hz2 rfl (by decide) _ _ _ rfl (ho2.alloc _) ⟨w2.heap.size, 0, none⟩ 1 1 [.int .u16 qt, .slice qa ql qc] rfl rfl (cells_new _ _ _) (by simp [Value.oneCell']) ?c3 ?c4 ?c5 ?_)
          case c3 => unfold maxLen; omega
          case c4 => omega
          case c5 => simp only [World.size_alloc]; omega
          intro v3 w3 ho3 hg3 _
          obtain ⟨va3, vc3, rfl⟩ := form_of ho3
          have HST := hidden (all_step HL.out HG.out hE hRd HQ1.out HQ2.out HQ3.out HQ4.out HQ5.out lt hElt (.cells #[.int .u16 qt, .slice qa ql qc] 56) ho3 hg3)
          clear ho3 hg3 ho2
          go_wp2
          go_roundw
          case rel =>
            obtain ⟨z1, z2, z3, z4⟩ := HST.out
            exact ⟨k + 1, ps ++ [(qt, qa, ql, qc, qz)], _, _, _, by omega, HGD.out, z1, ⟨z2, HROW.out, by omega, HNN.out⟩, z3, z4⟩
          case measure => simp [lenV]; omega
        · have hb1 : Below w0.heap.size w0 wr := hb0.grown hg hb0.size (fun j hj => by cases hj; exact hB)
          have NX := hidden (nextBad2 0 wr B a len cap k _ hRd (hrow.later hb1) (by omega) hok)
          have HNG := hidden (show ¬ good zs k from fun h => hok (by rw [ln_drop]; exact ⟨by have := h.2.1; omega, h.2.2.1, by have := h.2.2.2; omega⟩))
          have HG := hidden hg
          have HGD := hidden hgood
          clear hgood hok
          go_wp2_with fail
          refine Calls.mono EM.out ?_
          rintro e w' ⟨rfl, rfl⟩
          go_wp2_with fail
          refine Calls.mono NX.out ?_
          rintro e w2 ⟨rfl, b2⟩
          refine leaves_cons (f := 90) (args := #[.pointer (some ⟨w.heap.size, 0, none⟩)]) (by simp) (by simp [go_sem]) ?_
          refine (catch_panicking ⟨w.heap.size, 0, none⟩ 0 50 [] w2 (keep_cell b2 e0) ?_).mono ?_
          · exact (World.frozen?_of_block (a := ⟨w.heap.size, 0, none⟩) (b2.block _ hElt)).trans f0
          rintro e u' w3 ⟨rfl, rfl, rfl⟩
          have hx := World.cell?_setCell_same w2 ⟨w.heap.size, 0, none⟩ (.int .i64 50) (keep_cell b2 e0)
          obtain ⟨y1, y2⟩ := all_end HG.out hRd hElt lt b2 (.int .i64 50)
          refine ⟨.tuple #[.slice va k vc, .int .i64 50], by simp [results, Try.results89, go_sem, hx], _, _, rfl, y1, .inr ⟨by decide, _, _, _, _, y2, by omega, ?_⟩⟩
          rw [show zs.length - len = pos zs k by omega]
          exact ⟨k, hk, HGD.out, .inr ⟨by omega, HNG.out, rfl, rfl, by unfold errOf; rw [if_neg hk2]⟩⟩

theorem pc_len (ps : List Prm) : (ps.flatMap pc).length = ps.length * 2 := by
  induction ps with
  | nil => rfl
  | cons p r ih => rw [List.flatMap_cons, List.length_append, ih, List.length_cons]; simp [pc]; omega
theorem pc_at (ps : List Prm) : ∀ (j : Nat) (p : Prm), ps[j]? = some p → (ps.flatMap pc)[j * 2]? = some (.int .u16 p.1) ∧ (ps.flatMap pc)[j * 2 + 1]? = some (.slice p.2.1 p.2.2.1 p.2.2.2.1) := by
  induction ps with
  | nil => intro j p h; cases h
  | cons x r ih =>
    intro j p h
    rw [List.flatMap_cons]
    have hx : (pc x).length = 2 := rfl
    cases j with
    | zero => cases h; exact ⟨rfl, rfl⟩
    | succ j =>
      have h' : r[j]? = some p := h
      rw [List.getElem?_append_right (by omega), List.getElem?_append_right (by omega), hx, show (j + 1) * 2 - 2 = j * 2 by omega, show (j + 1) * 2 + 1 - 2 = j * 2 + 1 by omega]
      exact ih j p h'
theorem Lst.prms {base : Nat} {w : World} {v : Value} {zs : List Int} {k : Nat} {ps : List Prm} (h : Lst base w v zs k ps) (hk : k ≤ 256) : ∃ pa pcap, v = .slice pa k pcap ∧ Prms base w pa k ps ∧ (pa = none → k = 0 ∧ pcap = 0) := by
  obtain ⟨⟨hl, h1⟩, _, h3⟩ := h
  have hlen : ps.length = k := by rw [pc_len] at hl; omega
  rcases h1 with ⟨rfl, rfl⟩ | ⟨g, cap, cur, rfl, hg, hh, hcap, hcm, hsz, htake⟩
  · obtain rfl := List.eq_nil_of_length_eq_zero hlen
    exact ⟨none, 0, rfl, Prms.nil _ _ _, fun _ => ⟨rfl, rfl⟩⟩
  · refine ⟨_, cap, rfl, ⟨hlen, by omega, fun p hp => (h3 p hp).1, .inr ⟨g, 0, rfl, hg, fun j p hj => ?_⟩⟩, fun h => by cases h⟩
    obtain ⟨e1, e2⟩ := pc_at ps j p hj
    have hjk : j < k := by rw [← hlen]; exact (List.getElem?_eq_some_iff.1 hj).1
    rw [← htake, List.getElem?_take, if_pos (by omega)] at e1 e2
    simp only [World.cell?, hh, Nat.zero_add]
    exact ⟨by simpa using e1, by simpa using e2⟩
theorem Prms.mono {base base' : Nat} {w : World} {pa : Option Addr} {n : Nat} {ps : List Prm} (h : Prms base w pa n ps) (hb : base' ≤ base) : Prms base' w pa n ps := by
  obtain ⟨h1, h2, h3, h4⟩ := h
  refine ⟨h1, h2, fun p hp => (h3 p hp).mono hb, h4.imp id ?_⟩
  rintro ⟨b, off, e, hbb, hc⟩
  exact ⟨b, off, e, Nat.le_trans hb hbb, hc⟩
theorem items_len (zs : List Int) (k : Nat) : (items zs k).length = k := by simp [items]
theorem Out.few {zs : List Int} {l : List (Int × List Int)} {p : Nat} {e : Int} (h : Out zs l p e) : l.length ≤ 256 := by
  obtain ⟨k, hk, _, ⟨_, rfl, _⟩ | ⟨_, _, rfl, _⟩⟩ := h
  · rw [items_len]; exact hk
  · simp
theorem below_of_grown {w w1 w' : World} {B : Nat} (hb : Below w.heap.size w w1) (hg : w1.grownBy w' (some B)) (hB : w.heap.size ≤ B) : Below w.heap.size w w' := hb.grown hg hb.size (fun j hj => by cases hj; exact hB)

theorem decode (w : World) (a : Option Addr) (len cap : Nat) (zs : List Int) (hr : Row 0 w a len zs) (hlc : len ≤ cap) (hnn : a = none → len = 0 ∧ cap = 0) :
    Calls Try.prog 86 #[.slice a len cap] w fun e w' => ∃ pa n pcap ps p c, e = .returned (.tuple #[.slice pa n pcap, .int .i64 ((p : Nat) : Int), .int .i64 c]) ∧ Prms w.heap.size w' pa n ps ∧ (pa = none → n = 0 ∧ pcap = 0) ∧ Out zs (ps.map val) p c ∧ Below w.heap.size w w' := by
  have hb : Below w.heap.size w (w.alloc (.cells #[.slice a len cap, .int .i64 0] 116)) := (Below.refl _ w).alloc (Nat.le_refl _) _
  have hlim := hr.2.2.1
  have hzl := hr.1
  have AL := hidden (all_ w (w.alloc (.cells #[.slice a len cap, .int .i64 0] 116)) w.heap.size a len cap zs ⟨heap_alloc_new w _, hr, hlc, hnn⟩ hb (Nat.le_refl _))
  have HB := hidden hb
  clear hb
  go_enter Try.func86, Try.ntmps86
  go_wp2_with fail
  refine Calls.mono AL.out ?_
  rintro e w1 ⟨v, c, rfl, hg, h⟩
  have HB1 := hidden (below_of_grown HB.out hg (Nat.le_refl _))
  clear AL hg
  rcases h with ⟨rfl, k, ps, hL, hO⟩ | ⟨hc, a', len', cap', cnt, hRd, hle, hO⟩
  · have hk : k ≤ 256 := by have := hO.few; rwa [items_len] at this
    obtain ⟨pa, pcap, rfl, hP, hpn⟩ := hL.prms hk
    have HP := hidden (hP.mono (base' := w.heap.size) (by simp; omega))
    have HO := hidden (show Out zs (ps.map val) 0 0 by rw [hL.2.1]; exact hO)
    have HPN := hidden hpn
    clear hL hP hO hpn
    go_wp2
    go_ret3
    exact ⟨pa, k, pcap, ps, 0, 0, rfl, HP.out, HPN.out, HO.out, HB1.out⟩
  · have c0 := hRd.c0
    have HO := hidden hO
    clear hO
    go_wp2
    go_quiet (fail)
    go_wp2
    go_ret3
    have hI : (len : Int) - (len' : Int) = ((zs.length - len' : Nat) : Int) := by omega
    exact ⟨none, 0, 0, [], zs.length - len', c, by rw [← hI]; rfl, Prms.nil _ _ _, (fun _ => ⟨rfl, rfl⟩), HO.out, below_drewN HB1.out nq⟩
end Go.Proofs.Ytifdkpifambhaaa.Par
