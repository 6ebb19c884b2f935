/-
  The reader's next parameter.
  Conditions: the numbers lie within their kinds, the cells hold them.
-/
import Derived.Test.YtifdkpifambhaaaParJ
import Derived.Deep.Cut
import Derived.Deep.DrawnRows
namespace Go.Proofs.Ytifdkpifambhaaa.Par
open Go.ChangeShapes Go.WideShapes Go.ChangeAt Go.RowKit
set_option linter.unusedVariables false
attribute [local go_sem ↓] Go.wp_at_zero Go.wp_at_succ

/-- its Body lies in a block of bytes -/
def Own5 (w : World) (p : Prm) : Prop := p.2.2.1 = 0 ∨ ∃ b off cur fr, p.2.1 = some ⟨b, off, none⟩ ∧ w.heap[b]? = some (.cells cur 5 fr)
theorem One.grown {base : Nat} {w w' : World} {p : Prm} (h : One base w p) (h5 : Own5 w p) {row : Option Nat} (hg : w.grownBy w' row) (hrow : ∀ g, row = some g → ∃ cur t fr, w.heap[g]? = some (.cells cur t fr) ∧ t ≠ 5) : One base w' p ∧ Own5 w' p := by
  obtain ⟨ht, ⟨h1, h2, h3, h4⟩, hr⟩ := h
  rcases Nat.eq_zero_or_pos p.2.2.1 with h0 | hpos
  · exact ⟨⟨ht, ⟨h1, h2, h3, .inl h0⟩, hr⟩, .inl h0⟩
  · obtain ⟨b, off, e, hbb, hc⟩ := h4.resolve_left (by omega)
    obtain ⟨b', off', cur, fr, e', hh⟩ := h5.resolve_left (by omega)
    rw [e] at e'
    cases e'
    have hne : some b ≠ row := by
      intro he
      obtain ⟨cur', t, fr', hx, hy⟩ := hrow b he.symm
      rw [hh] at hx
      simp at hx
      exact hy hx.2.1.symm
    have hblk := hg.block b (Array.getElem?_eq_some_iff.1 hh).1 hne
    exact ⟨⟨ht, ⟨h1, h2, h3, .inr ⟨b, off, e, hbb, fun j hj => (World.cell?_of_block (a := ⟨b, off + j, none⟩) hblk).trans (hc j hj)⟩⟩, hr⟩, .inr ⟨b, off, cur, fr, e, hblk.trans hh⟩⟩
theorem own5_of {w : World} {base n : Nat} {v : Value} {xs : List Value} (h : w.ownsRow base 5 1 v n xs) {t : Int} {a : Option Addr} {cap : Nat} {zs : List Int} (e : v = .slice a n cap) : Own5 w (t, a, n, cap, zs) := by
  rcases h.2 with ⟨rfl, rfl⟩ | ⟨g, c, cur, rfl, _, hh, _⟩
  · exact .inl rfl
  · cases e
    exact .inr ⟨g, 0, cur, _, rfl, hh⟩
theorem grownBy_drew {w w' : World} {row : Option Nat} (h : w.grownBy w' row) : w.grownBy w'.drew row := ⟨h.os, h.tape, h.output, h.size, h.block⟩
theorem grownBy_set {w w' : World} {b : Nat} (h : w.grownBy w' (some b)) (a : Addr) (ha : a.block = b) (v : Value) : w.grownBy (w'.setCell a v) (some b) :=
  ⟨h.os, h.tape, h.output, by simpa [World.setCell] using h.size, fun k hk hne => (Below.heap_setCell _ _ _ _ (by rw [ha]; intro e; exact hne (by rw [e]))).trans (h.block k hk hne)⟩
theorem Below.grows {w w' : World} {n : Nat} (h : Below n w w') (hn : w.heap.size ≤ n) (row : Option Nat) : w.grownBy w' row := ⟨h.os, h.tape, h.output, h.size, fun k hk _ => h.block k (by omega)⟩
/-- bytes of a slice that is cut at its head and its end -/
theorem cut_row {base : Nat} {w : World} {a : Option Addr} {len cap k n : Nat} {zs : List Int} (h : Row base w a len zs) (hk : k ≤ n) (hn : n ≤ len) (hc : len ≤ cap) (hnn : a = none → len = 0 ∧ cap = 0) : Row base w (cutA a cap k) (n - k) ((zs.drop k).take (n - k)) := by
  obtain ⟨h1, h2, h3, h4⟩ := cutA_row h (by omega : k ≤ len) hc hnn
  refine ⟨by rw [List.length_take]; omega, fun x hx => h2 x (List.mem_of_mem_take hx), by omega, ?_⟩
  rcases h4 with h0 | ⟨b, off, e, hbb, hcl⟩
  · exact .inl (by omega)
  · refine .inr ⟨b, off, e, hbb, fun j hj => ?_⟩
    rw [hcl j (by omega), List.getD_eq_getElem?_getD, List.getD_eq_getElem?_getD, List.getElem?_take, if_pos hj]
theorem cutA_some {a : Option Addr} {len cap k : Nat} (h : 0 < len) (hnn : a = none → len = 0 ∧ cap = 0) : ¬ cutA a cap k = none := by
  rcases a with _ | x
  · have := hnn rfl; omega
  · unfold cutA
    split <;> simp
theorem below_drew0 (w : World) : Below w.heap.size w w.drew := ⟨rfl, rfl, rfl, Nat.le_refl _, fun _ _ => rfl⟩
theorem step_below {W w w' : World} (h : Below W.heap.size W w) (h' : Below w.heap.size w w') : Below W.heap.size W w' := h.trans (h'.mono h.size)
theorem keep_cell {w w' : World} {a : Addr} {v : Value} (h : Below w.heap.size w w') (hc : w.cell? a = some v) : w'.cell? a = some v := (h.cell (cell_lt hc)).trans hc
theorem alloc_below {W w : World} (h : Below W.heap.size W w) (o : Obj) : Below W.heap.size W (w.alloc o) := h.alloc h.size o
theorem held_of {W w' : World} {a : Addr} {v : Value} (hc : W.cell? a = some v) (h : Below W.heap.size W w') : w'.cell? a = some v ∧ Below W.heap.size W w' := ⟨keep_cell h hc, h⟩
theorem set_below {W w : World} (h : Below W.heap.size W w) (g : Nat) (hg : W.heap.size ≤ g) (u v : Value) : Below W.heap.size W ((w.setCell ⟨g, 0, none⟩ u).setCell ⟨g, 1, none⟩ v) := (h.setCell (p := ⟨g, 0, none⟩) hg u).setCell (p := ⟨g, 1, none⟩) hg v
theorem cell_rule {w w' : World} (h : Below w.heap.size w w') : ∀ g i : Nat, g < w.heap.size → w'.cell? ⟨g, i, none⟩ = w.cell? ⟨g, i, none⟩ := fun g i hg => h.cell (p := ⟨g, i, none⟩) hg
theorem frozen_rule {w w' : World} (h : Below w.heap.size w w') : ∀ g i : Nat, g < w.heap.size → w'.frozen? ⟨g, i, none⟩ = w.frozen? ⟨g, i, none⟩ := fun g i hg => World.frozen?_of_block (a := ⟨g, i, none⟩) (h.block g hg)
theorem size_rule {w w' : World} (h : Below w.heap.size w w') : ∀ g : Nat, g < w.heap.size → g < w'.heap.size := fun g hg => Nat.lt_of_lt_of_le hg h.size
theorem own_mono {w : World} {base base' : Nat} {e : TypeId} {size : Nat} {v : Value} {n : Nat} {xs : List Value} (h : w.ownsRow base e size v n xs) (hb : base' ≤ base) : w.ownsRow base' e size v n xs := by
  refine ⟨h.1, h.2.imp id ?_⟩
  rintro ⟨g, cap, cur, e1, h1, h2⟩
  exact ⟨g, cap, cur, e1, Nat.le_trans hb h1, h2⟩
theorem form_of {w : World} {base e s n : Nat} {v : Value} {xs : List Value} (h : w.ownsRow base e s v n xs) : ∃ a cap, v = .slice a n cap := by
  rcases h.2 with ⟨rfl, rfl⟩ | ⟨g, cap, cur, rfl, _⟩ <;> exact ⟨_, _, rfl⟩
/-- what the three orders leave alike -/
def Made (W wx : World) (T : Int) (body : List Int) (s4 : Value) : Prop :=
  ∃ g q, s4 = .pointer (some ⟨g, 0, none⟩) ∧ W.heap.size ≤ g ∧ g < wx.heap.size ∧ wx.cell? ⟨g, 0, none⟩ = some (.int .u16 q.1) ∧ wx.cell? ⟨g, 1, none⟩ = some (.slice q.2.1 q.2.2.1 q.2.2.2.1) ∧ One W.heap.size wx q ∧ Own5 wx q ∧ val q = (T, body) ∧ Below W.heap.size W wx
theorem made_new {W wv : World} {T : Int} {body : List Int} {va : Option Addr} {l vc : Nat} (hT : 0 ≤ T ∧ T < 65536) (hb : Bytes body) (hl : l ≤ 140737488355328) (hv : wv.ownsRow W.heap.size 5 1 (.slice va l vc) l (cs body)) (hW : Below W.heap.size W wv) :
    Made W (wv.alloc (.cells #[.int .u16 T, .slice va l vc] 56)) T body (.pointer (some ⟨wv.heap.size, 0, none⟩)) := by
  have hv2 := hv.alloc (.cells #[.int .u16 T, .slice va l vc] 56)
  obtain ⟨a', c', e, hr, h1, h2, h3⟩ := row_own hv2 hb hl
  cases e
  obtain ⟨k0, k1⟩ := box_new wv T va l vc 56
  exact ⟨_, (T, va, l, vc, body), rfl, hW.size, by simp, k0, k1, ⟨hT, hr, h1, h2, h3⟩, own5_of hv2 rfl, rfl, hW.alloc hW.size _⟩
theorem made_set {W wv : World} {T : Int} {body : List Int} {va : Option Addr} {l vc : Nat} (hT : 0 ≤ T ∧ T < 65536) (hb : Bytes body) (hl : l ≤ 140737488355328) (hv : wv.ownsRow W.heap.size 5 1 (.slice va l vc) l (cs body)) (hW : Below W.heap.size W wv) {g : Nat} (hg : wv.heap[g]? = some (.cells #[.int .u16 0, .slice none 0 0] 56)) (hWg : W.heap.size ≤ g) :
    Made W ((wv.setCell ⟨g, 0, none⟩ (.int .u16 T)).setCell ⟨g, 1, none⟩ (.slice va l vc)) T body (.pointer (some ⟨g, 0, none⟩)) := by
  have hlt : g < wv.heap.size := (Array.getElem?_eq_some_iff.1 hg).1
  have hx : ((wv.setCell ⟨g, 0, none⟩ (.int .u16 T)).setCell ⟨g, 1, none⟩ (.slice va l vc)).heap[g]? = some (.cells #[.int .u16 T, .slice va l vc] 56) := heap_set _ g 1 _ (heap_set wv g 0 _ hg)
  have hgr : wv.grownBy ((wv.setCell ⟨g, 0, none⟩ (.int .u16 T)).setCell ⟨g, 1, none⟩ (.slice va l vc)) (some g) := grownBy_set (grownBy_set (World.grownBy.refl wv (some g)) ⟨g, 0, none⟩ rfl _) ⟨g, 1, none⟩ rfl _
  obtain ⟨a', c', e, hr, h1, h2, h3⟩ := row_own hv hb hl
  cases e
  obtain ⟨o1, o2⟩ := One.grown (base := W.heap.size) (p := (T, va, l, vc, body)) ⟨hT, hr, h1, h2, h3⟩ (own5_of hv rfl) hgr (fun g' e => by cases e; exact ⟨_, _, _, hg, by decide⟩)
  exact ⟨g, (T, va, l, vc, body), rfl, hWg, by simpa [World.setCell] using hlt, by simp [World.cell?, hx], by simp [World.cell?, hx], o1, o2, rfl, set_below hW g hWg _ _⟩
theorem zero_at {w w' : World} (h : Below (w.alloc (.cells #[.int .u16 0, .slice none 0 0] 56)).heap.size (w.alloc (.cells #[.int .u16 0, .slice none 0 0] 56)) w') : w'.heap[w.heap.size]? = some (.cells #[.int .u16 0, .slice none 0 0] 56) :=
  (h.block _ (by simp)).trans (heap_alloc_new w _)
theorem nextBad1 (w : World) (B : Nat) (a : Option Addr) (len cap : Nat) (cnt : Nat) (hR : Rd w B a len cap cnt) (hc : 256 ≤ cnt) (hc2 : cnt ≤ 100000) :
    Calls Try.prog 92 #[.pointer (some ⟨B, 0, none⟩)] w fun e w' => e = thrown 3 ∧ Below w.heap.size w w' := by
  have hb : Below w.heap.size w (w.alloc (.cells #[.int .u16 0, .slice none 0 0] 56)) := (Below.refl _ w).alloc (Nat.le_refl _) _
  have c1 := (hR.later hb).c1
  have hd : decide ((cnt : Int) < 256) = false := decide_eq_false (by omega)
  have HB := hidden hb
  have lt := hR.lt
  clear hb hR
  go_enter Try.func92, Try.ntmps92
  go_wp2_with fail
  refine Calls.mono (need_bad 3 _) ?_
  rintro e w' ⟨rfl, rfl⟩
  exact ⟨rfl, rfl, HB.out⟩
theorem nextBad2 (base : Nat) (w : World) (B : Nat) (a : Option Addr) (len cap : Nat) (cnt : Nat) (zs : List Int) (hR : Rd w B a len cap cnt) (hr : Row base w a len zs) (hc : cnt < 256) (hbad : ¬ (4 ≤ len ∧ 4 ≤ ln zs 0 ∧ ln zs 0 ≤ len)) :
    Calls Try.prog 92 #[.pointer (some ⟨B, 0, none⟩)] w fun e w' => e = thrown 50 ∧ Below w.heap.size w w' := by
  have hb : Below w.heap.size w (w.alloc (.cells #[.int .u16 0, .slice none 0 0] 56)) := (Below.refl _ w).alloc (Nat.le_refl _) _
  have c1 := (hR.later hb).c1
  have hd : decide ((cnt : Int) < 256) = true := decide_eq_true (by omega)
  have HB := hidden hb
  have L := hidden (lenBad base _ B a len cap cnt zs (hR.later hb) (hr.later hb) hbad)
  have lt := hR.lt
  clear hb hR hbad hr
  go_enter Try.func92, Try.ntmps92
  go_wp2_with fail
  refine Calls.mono (need_ok 3 _) ?_
  rintro e w' ⟨rfl, rfl⟩
  go_wp2_with fail
  refine Calls.mono L.out ?_
  rintro e w' ⟨rfl, m, rfl⟩
  exact ⟨rfl, rfl, below_drewN HB.out m⟩

theorem next_end {w W wc w' : World} {B : Nat} {a a' : Option Addr} {l l' c c' : Nat} {cnt : Int} {q : Prm} (hW : Below w.heap.size w W) (hsz : W.heap.size = w.heap.size + 1) (hbc : Below W.heap.size W wc) (hRc : Rd wc B a' l' c' cnt) (o1 : One W.heap.size wc q) (o5 : Own5 wc q)
    (g4 : wc.grownBy w' (some B)) (R4 : Rd w' B a l c cnt) (V4 : w'.heap[w.heap.size]? = some (.cells #[.int .u16 0, .slice none 0 0] 56)) (lt : B < w.heap.size) (u v : Value) :
    One (w.heap.size + 1) (((w'.setCell ⟨B, 1, none⟩ (.int .i64 (cnt + 1))).setCell ⟨w.heap.size, 0, none⟩ u).setCell ⟨w.heap.size, 1, none⟩ v) q ∧ Own5 (((w'.setCell ⟨B, 1, none⟩ (.int .i64 (cnt + 1))).setCell ⟨w.heap.size, 0, none⟩ u).setCell ⟨w.heap.size, 1, none⟩ v) q ∧
      Rd (((w'.setCell ⟨B, 1, none⟩ (.int .i64 (cnt + 1))).setCell ⟨w.heap.size, 0, none⟩ u).setCell ⟨w.heap.size, 1, none⟩ v) B a l c (cnt + 1) ∧ w.grownBy (((w'.setCell ⟨B, 1, none⟩ (.int .i64 (cnt + 1))).setCell ⟨w.heap.size, 0, none⟩ u).setCell ⟨w.heap.size, 1, none⟩ v) (some B) := by
  have g1 : wc.grownBy (w'.setCell ⟨B, 1, none⟩ (.int .i64 (cnt + 1))) (some B) := grownBy_set g4 ⟨B, 1, none⟩ rfl _
  obtain ⟨p1, p5⟩ := o1.grown o5 g1 (fun g e => by cases e; exact ⟨_, _, _, hRc, by decide⟩)
  have R5 := R4.s1 (cnt + 1)
  have V5 : (w'.setCell ⟨B, 1, none⟩ (.int .i64 (cnt + 1))).heap[w.heap.size]? = some (.cells #[.int .u16 0, .slice none 0 0] 56) := (Below.heap_setCell _ _ _ _ (by simp; omega)).trans V4
  generalize w'.setCell ⟨B, 1, none⟩ (.int .i64 (cnt + 1)) = w1 at *
  have g2 : w1.grownBy ((w1.setCell ⟨w.heap.size, 0, none⟩ u).setCell ⟨w.heap.size, 1, none⟩ v) (some w.heap.size) := grownBy_set (grownBy_set (World.grownBy.refl w1 _) ⟨w.heap.size, 0, none⟩ rfl u) ⟨w.heap.size, 1, none⟩ rfl v
  obtain ⟨q1, q5⟩ := p1.grown p5 g2 (fun g e => by cases e; exact ⟨_, _, _, V5, by decide⟩)
  refine ⟨hsz ▸ q1, q5, (g2.block B R5.lt (by simp; omega)).trans R5, ?_⟩
  have s1 := hW.size
  have s2 := hbc.size
  have s3 := g1.size
  have s4 := g2.size
  refine ⟨g2.os.trans (g1.os.trans (hbc.os.trans hW.os)), g2.tape.trans (g1.tape.trans (hbc.tape.trans hW.tape)), g2.output.trans (g1.output.trans (hbc.output.trans hW.output)), by omega, fun k hk hne => ?_⟩
  exact (g2.block k (by omega) (by simp; omega)).trans ((g1.block k (by omega) hne).trans ((hbc.block k (by omega)).trans (hW.block k hk)))
set_option maxRecDepth 20000 in
theorem nextOk (w0 w : World) (B : Nat) (a : Option Addr) (len cap : Nat) (cnt : Nat) (zs : List Int) (hR : Rd w B a len cap cnt) (hr : Row 0 w0 a len zs) (hlc : len ≤ cap) (hnn : a = none → len = 0 ∧ cap = 0) (hb0 : Below w0.heap.size w0 w) (hB : w0.heap.size ≤ B)
    (hc : cnt < 256) (h4 : 4 ≤ len) (n f : Nat) (T : Int) (body : List Int) (hn : ln zs 0 = n) (hf : fill4 n = f) (h5 : 4 ≤ n) (h6 : n ≤ len) (hT : zs.getD 0 0 * 256 + zs.getD 1 0 = T) (hbody : (zs.drop 4).take (n - 4) = body) :
    Calls Try.prog 92 #[.pointer (some ⟨B, 0, none⟩)] w fun e w' => ∃ q, e = .returned (pv q) ∧ One (w.heap.size + 1) w' q ∧ Own5 w' q ∧ val q = (T, body) ∧
      Rd w' B (cutA a cap (min f len)) (len - min f len) (cap - min f len) ((cnt + 1 : Nat) : Int) ∧ w.grownBy w' (some B) := by
  have hb : Below w.heap.size w (w.alloc (.cells #[.int .u16 0, .slice none 0 0] 56)) := (Below.refl _ w).alloc (Nat.le_refl _) _
  have hRa := hR.later hb
  have hra := (hr.later hb0).later hb
  have c1 := hRa.c1
  have hd : decide ((cnt : Int) < 256) = true := decide_eq_true (by omega)
  have lt := hR.lt
  have L := hidden (lenOk 0 _ B a len cap cnt zs hRa hra h4 (by rw [hn]; exact h5) (by rw [hn]; exact h6))
  rw [hn] at L
  have HR := hidden hRa
  have HRW := hidden hra
  have HB := hidden hb
  have hlim := hr.2.2.1
  have HZ := hidden hr.2.1
  have l2 := (ln_eq zs hr.2.1 0).2
  clear hb hR hr hra hRa
  rw [hn] at l2
  clear hn
  go_enter Try.func92, Try.ntmps92
  go_wp2_with fail
  refine Calls.mono (need_ok 3 _) ?_
  rintro e w' ⟨rfl, rfl⟩
  go_wp2_with fail
  refine Calls.mono L.out ?_
  rintro e w' ⟨rfl, m, rfl⟩
  have hW : Below w.heap.size w ((w.alloc (.cells #[.int .u16 0, .slice none 0 0] 56)).drewN m) := below_drewN HB.out m
  have hRW : Rd ((w.alloc (.cells #[.int .u16 0, .slice none 0 0] 56)).drewN m) B a len cap cnt := HR.out.drewN m
  have hrW : Row 0 ((w.alloc (.cells #[.int .u16 0, .slice none 0 0] 56)).drewN m) a len zs := HRW.out.drewN m
  have hsz : ((w.alloc (.cells #[.int .u16 0, .slice none 0 0] 56)).drewN m).heap.size = w.heap.size + 1 := by show (w.alloc _).heap.size = _; exact World.size_alloc _ _
  have hv0 : ((w.alloc (.cells #[.int .u16 0, .slice none 0 0] 56)).drewN m).heap[w.heap.size]? = some (.cells #[.int .u16 0, .slice none 0 0] 56) := heap_alloc_new w _
  generalize (w.alloc (.cells #[.int .u16 0, .slice none 0 0] 56)).drewN m = W at *
  clear L c1 HR HRW HB
  have c0 := hRW.c0
  obtain ⟨b, off, rfl, _, _⟩ := hrW.2.2.2.resolve_left (by omega)
  have t0 := at_bound zs HZ.out 0
  have t1 := at_bound zs HZ.out 1
  have hTb : Hid (0 ≤ T ∧ T < 65536) := by unfold Hid; omega
  have HBD := hidden (show Bytes body from hbody ▸ fun x hx => HZ.out x (List.mem_of_mem_drop (List.mem_of_mem_take hx)))
  have NM := hidden (show ∀ w', (w'.cell? ⟨B, 0, none⟩ = some (.slice (some ⟨b, off, none⟩) len cap) ∧ Below W.heap.size W w') → Calls Try.prog 95 #[.slice (some ⟨b, off, none⟩) len cap, .int .i64 0] w' fun e w'' => e = .returned (.int .u16 T) ∧ Below w'.heap.size w' w'' ∧ Below W.heap.size W w'' from fun w' hb => hT ▸ (number 0 w' (some ⟨b, off, none⟩) len cap 0 zs (hrW.later hb.2) (by omega)).mono (by rintro e w2 ⟨rfl, m, rfl⟩; exact ⟨rfl, below_drewN (Below.refl _ _) m, below_drewN hb.2 m⟩))
  obtain ⟨A4, hA4⟩ : ∃ A4, (if cap = 4 then (some ⟨b, off, none⟩ : Option Addr) else some ⟨b, off + 4, none⟩) = A4 := ⟨_, rfl⟩
  have HA4 := hidden (show cutA (some ⟨b, off, none⟩) cap 4 = A4 by rw [← hA4]; unfold cutA Addr.add; rfl)
  have CL := hidden (show ∀ w', (w'.cell? ⟨B, 0, none⟩ = some (.slice (some ⟨b, off, none⟩) len cap) ∧ Below W.heap.size W w') → Calls Try.prog 87 #[.slice A4 (n - 4) (cap - 4)] w' fun e w'' => ∃ va vc, e = .returned (.slice va (n - 4) vc) ∧ w''.ownsRow W.heap.size 5 1 (.slice va (n - 4) vc) (n - 4) (cs body) ∧ Below w'.heap.size w' w'' ∧ Below W.heap.size W w'' from
    fun w' hb => hbody ▸ (clone 0 w' A4 (n - 4) (cap - 4) ((zs.drop 4).take (n - 4)) (by rw [← HA4.out]; exact (cut_row (hrW.later hb.2) h5 h6 hlc hnn)) (by rw [← HA4.out]; exact fun h => absurd h (cutA_some (k := 4) (by omega) hnn))).mono (by
      rintro e w2 ⟨v, rfl, hv, b2⟩
      obtain ⟨va, vc, rfl⟩ := form_of hv
      exact ⟨va, vc, rfl, own_mono hv hb.2.size, b2, step_below hb.2 b2⟩))
  go_wp2_with fail
  have i1 : (4 : Int) ≤ (n : Int) := by omega
  have i2 : (n : Int) ≤ (cap : Int) := by omega
  have i3 : (0 : Int) ≤ (n : Int) := by omega
  clear hT t0 t1 hbody
  go_cut [0, 2, 3, 4] from 5 (fun s0 s2 s3 s4 wx => s0 = .pointer (some ⟨B, 0, none⟩) ∧ s2 = .pointer (some ⟨w.heap.size, 0, none⟩) ∧ s3 = .int .i64 (n : Int) ∧ Made W wx T body s4)
  case first =>
    go_region_held3 (fun w' => w'.cell? ⟨B, 0, none⟩ = some (.slice (some ⟨b, off, none⟩) len cap) ∧ Below W.heap.size W w')
      (first | (exact held_of c0 (below_drew0 _)) | (exact held_of c0 (by assumption)) | (exact held_of c0 (alloc_below (by assumption) _)) | (exact held_of c0 (alloc_below (below_drew0 _) _)) | (exact held_of c0 (set_below (by assumption) _ (by omega) _ _)) | (trace_state; fail))
      (first
        | (go_at_call 95; refine Calls.mono (NM.out _ ?_) ?_; assumption; rintro e wn ⟨rfl, bn, hWn⟩; have hsn := hWn.size; have rn := cell_rule bn; have fn := frozen_rule bn; have zn := size_rule bn)
        | (go_at_call 87; refine Calls.mono (CL.out _ ?_) ?_; assumption; rintro e wv ⟨va, vc, rfl, hv, b2, hWv⟩; have hsv := hWv.size; have rv := cell_rule b2; have fv := frozen_rule b2; have zv := size_rule b2))
    all_goals go_wp2_with fail
    · go_meet
      exact ⟨rfl, rfl, rfl, made_new hTb.out HBD.out (by omega) hv hWv⟩
    · go_meet
      exact ⟨rfl, rfl, rfl, made_set hTb.out HBD.out (by omega) hv hWv (zero_at b2) hsn⟩
    · go_meet
      exact ⟨rfl, rfl, rfl, made_set hTb.out HBD.out (by omega) hv hWv ((b2.block _ (by have := bn.size; simp at this; omega)).trans (hsz ▸ zero_at (undrew bn))) (by omega)⟩
  case rest =>
  obtain ⟨rfl, rfl, rfl, g, q, rfl, hg1, hg2, k0, k1, o1, o5, hval, hbc⟩ := hcut
  obtain ⟨qt, qa, ql, qc, qz⟩ := q
  simp only at k0 k1
  have hRc := hRW.later hbc
  have hVc := (hbc.block _ (by omega)).trans hv0
  have HO := hidden o1
  have HO5 := hidden o5
  have HV := hidden hval
  have HBC := hidden hbc
  clear NM CL HA4 hA4 i1 i2 i3 o1 o5 hval hv0 hRW hrW HBD c0
  have HF : ∀ w, Hid (Calls Try.prog 71 #[.int .i64 (n : Int)] w fun e w' => e = .returned (.int .i64 (f : Nat)) ∧ w = w') := fun w => hidden (hf ▸ filled n (by omega) w)
  have hfl : f ≤ n + 3 := by rw [← hf]; exact (fill4_le n).2
  have SK := hidden (show Calls Try.prog 96 #[.pointer (some ⟨B, 0, none⟩), .int .i64 (f : Int)] wc.drew fun e w' => e = .returned (.tuple #[]) ∧ Rd w' B (cutA (some ⟨b, off, none⟩) cap (min f len)) (len - min f len) (cap - min f len) cnt ∧ wc.grownBy w' (some B) from
    (skip wc.drew B (some ⟨b, off, none⟩) len cap f cnt hRc hlc hlim (by omega)).mono (by
      rintro e w' ⟨rfl, rfl⟩
      exact ⟨rfl, hRc.s0 _ _ _, grownBy_drew (w := wc) (grownBy_set (w := wc) (w' := wc.drew) ⟨rfl, rfl, rfl, Nat.le_refl _, fun _ _ _ => rfl⟩ ⟨B, 0, none⟩ rfl _)⟩))
  go_wp2_with fail
  go_region_with (first
    | (go_at_call 71; refine Calls.mono (HF _).out ?_; rintro e w' ⟨rfl, rfl⟩)
    | (go_at_call 96; refine Calls.mono SK.out ?_; rintro e w' ⟨rfl, hR4, g4⟩))
  all_goals
    have m0 := g4.cell k0 (by simp; omega)
    have m1 := g4.cell k1 (by simp; omega)
    have hV4 := (g4.block w.heap.size (by omega) (by simp; omega)).trans hVc
    have c1 := hR4.c1
    have f1 := hR4.fr 1
    have v0 : w'.cell? ⟨w.heap.size, 0, none⟩ = some (.int .u16 0) := by simp [World.cell?, hV4]
    have v1 : w'.cell? ⟨w.heap.size, 1, none⟩ = some (.slice none 0 0) := by simp [World.cell?, hV4]
    have y0 : w'.frozen? ⟨w.heap.size, 0, none⟩ = false := by simp [World.frozen?, hV4]
    have y1 : w'.frozen? ⟨w.heap.size, 1, none⟩ = false := by simp [World.frozen?, hV4]
    have n1 : ¬ B = g := by omega
    have n2 : ¬ B = w.heap.size := by omega
    have n3 : ¬ w.heap.size = B := by omega
    clear SK k0 k1
    have G4 := hidden g4
    have R4 := hidden hR4
    have V4 := hidden hV4
    clear g4 hR4 hV4
    go_wp2
    obtain ⟨e1, e2, e3, e4⟩ := next_end hW hsz HBC.out hRc HO.out HO5.out G4.out R4.out V4.out lt (.int .u16 qt) (.slice qa ql qc)
    refine bodyPost_ret (v := pv (qt, qa, ql, qc, qz)) (by simp [results, Try.results92, go_sem, v0, v1, pv]) rfl ⟨_, rfl, e1, e2, HV.out, ?_, e4⟩
    rw [show ((cnt + 1 : Nat) : Int) = (cnt : Int) + 1 by omega]
    exact e3
end Go.Proofs.Ytifdkpifambhaaa.Par
