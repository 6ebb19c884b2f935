/-
  The reader of package chunk: a chunk, or the first fault, which is caught.
  Conditions: the numbers lie within their kinds, the cells hold them; the bytes lie in the memory of an older world, which the reader does not touch.
-/
import Derived.Test.YtifdkpifambhaaaChR
namespace Go.Proofs.Ytifdkpifambhaaa.Chu
open Go.ChangeShapes Go.WideShapes Go.ChangeAt Go.RowKit
open Par (hidden Bytes Row Prm Prms cell_lt Cap cells_new cutA thrown form_of)
set_option linter.unusedVariables false
attribute [local go_sem ↓] execOp_ld execOp_bx execOp_st

/-- a statement that does not end otherwise -/
theorem wp_quiet {s : Code} {K : Act → World → Prop} {Q : Exit → Act → World → Prop} {a : Act} {w : World} (h : s.wp Try.prog (Exit.then K (fun _ _ _ => False)) a w) : s.wp Try.prog (Exit.then K Q) a w := by
  refine wp_mono h ?_
  intro e a' w' hq
  cases e with
  | normal => exact hq
  | exit id => exact hq.elim
  | goto l => exact hq.elim
  | ret => exact hq.elim
  | panic ch => exact hq.elim
  | outgrown => exact hq.elim
theorem Rs.start {base : Nat} {w0 w : World} {B : Nat} {zs : List Int} (h : Rp base w0 w B zs 0) : Rs base w0 w ((w.alloc (.cells (cc (zck 0)) 37)).alloc (.cells #[.int .i64 0] 24)) B zs 0 (zck 0) := by
  refine ⟨(h.alloc _).alloc _, (Bx.new w (zck 0)).alloc _, ?_, gr_trans (World.grownBy_alloc w _ _) (World.grownBy_alloc _ _ _), h.1.lt, by simp⟩
  have := heap_alloc_new (w.alloc (.cells (cc (zck 0)) 37)) (.cells #[.int .i64 0] 24)
  rw [World.size_alloc] at this
  exact this
theorem Lsts.mono {base base' : Nat} {w : World} {c : Ck} (h : Lsts base w c) (hb : base' ≤ base) : Lsts base' w c := ⟨h.1.mono hb, h.2.1.mono hb, h.2.2.1.mono hb, h.2.2.2.1.mono hb, h.2.2.2.2.1, prms_mono h.2.2.2.2.2 hb⟩
/-- the value's own reader is made -/
theorem val_start {base : Nat} {w0 w w6 : World} {B p n cap : Nat} {zs v : List Int} {c : Ck} {a : Option Addr} (h : Rs base w0 w w6 B zs p c) (hr : Row base w0 a n v) (hn : n ≤ cap) (hnn : a = none → n = 0 ∧ cap = 0) (hl : ∀ nn w, Lsts nn w c) :
    Fl base (w6.heap.size + 1) w0 (w6.alloc (.cells #[.slice a n cap] 61)) w6.heap.size w.heap.size v 0 c ∧ Rs base w0 w (w6.alloc (.cells #[.slice a n cap] 61)) B zs p c := by
  obtain ⟨h1, h2, h3, h4, h5, h6⟩ := h
  have hset := heap_alloc_new w6 (.cells #[.slice a n cap] 61)
  have hw := h1.2.2.2.1.size
  have hbl : Below w6.heap.size w6 (w6.alloc (.cells #[.slice a n cap] 61)) := (Below.refl _ w6).alloc (Nat.le_refl _) _
  have hwB := h1.2.2.2.2
  have hs4 : w.heap.size ≤ w6.heap.size := by omega
  refine ⟨⟨⟨⟨a, n, cap, hset, by rw [List.drop_zero]; exact hr, hn, hnn⟩, Nat.zero_le _, hr.2.1, h1.2.2.2.1.trans (hbl.mono hw), by omega⟩, h2.later hbl, hl _ _, by omega, by omega, by omega, by omega, by simp⟩, h1.later hbl, h2.later hbl, (hbl.block _ (by omega)).trans h3, gr_trans h4 (gr_below hbl _), h5, ?_⟩
  have := hbl.size
  omega
/-- the value is read: what is left alone -/
theorem val_left {base : Nat} {w0 w w8 w9 : World} {B V p : Nat} {zs : List Int} {c : Ck} (h : Rs base w0 w w8 B zs p c) (hV : w.heap.size + 2 ≤ V) (hT : Tch V w.heap.size w8 w9) :
    w9.heap[w.heap.size + 1]? = some (.cells #[.int .i64 0] 24 (0, 0)) ∧ w.grownBy w9 (some B) ∧ Rp base w0 w9 B zs p ∧ w.heap.size + 2 ≤ w9.heap.size := by
  obtain ⟨h1, h2, h3, h4, h5, h6⟩ := h
  have hw := h1.2.2.2.1.size
  have hwB := h1.2.2.2.2
  have hsz := hT.2.2.2.1
  have blk : ∀ k, k < w8.heap.size → k ≠ V → k ≠ w.heap.size → w9.heap[k]? = w8.heap[k]? := hT.2.2.2.2
  refine ⟨(blk _ (by omega) (by omega) (by omega)).trans h3, ?_, ⟨h1.1.same (blk B (by omega) (by omega) (by omega)), h1.2.1, h1.2.2.1, hT.below h1.2.2.2.1 hw (by omega) (by omega), hwB⟩, by omega⟩
  obtain ⟨a1, a2, a3, a4, a5⟩ := h4
  exact ⟨hT.1.trans a1, hT.2.1.trans a2, hT.2.2.1.trans a3, by omega, fun k hk hne => (blk k (by omega) (by omega) (by omega)).trans (a5 k hk hne)⟩
/-- the end: the chunk is stored where it lies, the error 0 -/
theorem fin_ok {base nn : Nat} {w0 w w9 : World} {B p : Nat} {zs : List Int} {c : Ck} (h : Rs base w0 w w9 B zs p c) (hL : Lsts nn w9 c) (hnn : w.heap.size + 2 ≤ nn) :
    Bx ((stoW w9 w.heap.size c).setCell ⟨w.heap.size + 1, 0, none⟩ (.int .i64 0)) w.heap.size c ∧ ((stoW w9 w.heap.size c).setCell ⟨w.heap.size + 1, 0, none⟩ (.int .i64 0)).cell? ⟨w.heap.size + 1, 0, none⟩ = some (.int .i64 0) ∧
      w.grownBy ((stoW w9 w.heap.size c).setCell ⟨w.heap.size + 1, 0, none⟩ (.int .i64 0)) (some B) ∧ Lsts w.heap.size ((stoW w9 w.heap.size c).setCell ⟨w.heap.size + 1, 0, none⟩ (.int .i64 0)) c ∧ Rp base w0 ((stoW w9 w.heap.size c).setCell ⟨w.heap.size + 1, 0, none⟩ (.int .i64 0)) B zs p := by
  obtain ⟨h1, h2, h3, h4, h5, h6⟩ := h
  have hw := h1.2.2.2.1.size
  have hwB := h1.2.2.2.2
  have hs : (stoW w9 w.heap.size c).heap.size = w9.heap.size := by
    have : ∀ (vs : List Value) (o : Nat) (u : World), (u.setCells w.heap.size o vs).heap.size = u.heap.size := by
      intro vs
      induction vs with
      | nil => intro o u; rfl
      | cons v r ih => intro o u; exact (ih (o + 1) _).trans (by simp [World.setCell])
    exact this _ _ _
  have hT1 : Tch (w.heap.size + 1) w.heap.size w9 (stoW w9 w.heap.size c) := by
    have hb := stoW_below c (Below.refl w.heap.size w9) (Nat.le_refl _)
    exact ⟨hb.os, hb.tape, hb.output, by omega, fun k hk _ hC => other_setCells w.heap.size k hC _ _ _⟩
  have hT : Tch (w.heap.size + 1) w.heap.size w9 ((stoW w9 w.heap.size c).setCell ⟨w.heap.size + 1, 0, none⟩ (.int .i64 0)) := hT1.trans (Tch.ofB (gr_set _ _ _ _))
  have hE : (stoW w9 w.heap.size c).heap[w.heap.size + 1]? = some (.cells #[.int .i64 0] 24 (0, 0)) := (other_setCells w.heap.size _ (by omega) _ _ _).trans h3
  have blk : ∀ k, k < w9.heap.size → k ≠ w.heap.size + 1 → k ≠ w.heap.size → ((stoW w9 w.heap.size c).setCell ⟨w.heap.size + 1, 0, none⟩ (.int .i64 0)).heap[k]? = w9.heap[k]? := hT.2.2.2.2
  refine ⟨(stoW_bx h2 c).grown (gr_set _ _ _ _) (by omega), World.cell?_setCell_same _ _ _ (by simp [World.cell?, hE]; rfl), ?_, (hL.tch (by omega) (by omega) hT).mono (by omega), ⟨h1.1.same (blk B (by omega) (by omega) (by omega)), h1.2.1, h1.2.2.1, hT.below h1.2.2.2.1 hw (by omega) (by omega), hwB⟩⟩
  obtain ⟨a1, a2, a3, a4, a5⟩ := h4
  exact ⟨hT.1.trans a1, hT.2.1.trans a2, hT.2.2.1.trans a3, by have := hT.2.2.2.1; omega, fun k hk hne => (blk k (by omega) (by omega) (by omega)).trans (a5 k hk hne)⟩
theorem body_eq (zs : List Int) (n : Nat) (h : n2 zs 2 = (n : Int) + 4) : body zs = (zs.drop 4).take n := by
  unfold body
  rw [h, show ((n : Int) + 4).toNat = n + 4 by omega, List.drop_take]
  rfl
theorem end_at (n L : Nat) (h : n + 4 ≤ L) : 4 + n + min (Par.fill4 n - n) (L - (4 + n)) = min (Par.fill4 (n + 4)) L := by
  unfold Par.fill4
  omega
set_option maxHeartbeats 8000000 in
set_option maxRecDepth 20000 in
theorem chunk_ (base : Nat) (w0 w : World) (B : Nat) (zs : List Int) (h : Rp base w0 w B zs 0) (hlim : zs.length ≤ 140737488355328) :
    Calls Try.prog 35 #[.pointer (some ⟨B, 0, none⟩)] w fun e w' => ∃ v, e = .returned v ∧ Got base w0 w B zs v w' := by
  have hmf : ∀ (fn : Fn) (first cap : Array Value) (w : World), (Instr.makeFunc fn first cap).run Try.prog w = .ok (.func fn first cap) w := fun _ _ _ _ => rfl
  have S0 := Rs.start h
  have HBY := hidden h.2.2.1
  obtain ⟨a, len, cap, q0, hlen⟩ := S0.rd
  rw [Nat.sub_zero] at hlen
  have HH := hidden (has a len cap 4)
  clear h
  have hcc : (cc (zck 0)) = #[.int .u8 0, .int .u8 0, .int .u32 0, .int .u16 0, .int .u16 0, .int .u32 0, .int .u32 0, .int .u32 0, .int .u16 0, .int .u16 0, .slice none 0 0, .slice none 0 0, .slice none 0 0, .slice none 0 0, .slice none 0 0] := rfl
  rw [hcc] at S0 q0
  have HS := hidden S0
  clear S0 hcc
  rcases Nat.lt_or_ge zs.length 4 with h4 | h4
  · rw [show decide (4 ≤ len) = false from decide_eq_false (by omega)] at HH
    have HD := hidden (show Dec zs 60 (zch 0 0) 0 from .inl ⟨.inl h4, rfl⟩)
    clear h4 hlen
    go_enter_defers Try.func35, Try.ntmps35
    go_wp2_with fail
    refine Calls.mono (HH.out _) ?_
    rintro e wz ⟨rfl, rfl⟩
    go_wp2_with fail
    refine Calls.mono (need_bad 60 _) ?_
    rintro e wz ⟨rfl, rfl⟩
    refine leaves_cons (f := 55) (args := #[.pointer (some ⟨w.heap.size + 1, 0, none⟩)]) (by simp) (by simp [go_sem]) ?_
    obtain ⟨e0, z0⟩ := HS.out.c3
    refine (catch_panicking ⟨w.heap.size + 1, 0, none⟩ 0 60 [] _ e0 z0).mono ?_
    rintro e u' w3 ⟨rfl, rfl, rfl⟩
    obtain ⟨y1, y2, y3⟩ := bad_end 60 HS.out.2.1 HS.out.2.2.1 HS.out.2.2.2.1
    have y4 := y1.load
    exact ⟨.tuple #[cv (zck 0), .int .i64 60], by simp [results, Try.results35, go_sem] <;> rfl, _, rfl, (zck 0), 60, zch 0 0, 0, rfl, HD.out, y2, fun h => by cases h⟩
  · rw [show decide (4 ≤ len) = true from decide_eq_true (by omega)] at HH
    have O1 := hidden (one base w0 _ B 0 zs HS.out.1 (by omega))
    have H4 := hidden h4
    have HLN := hidden hlen
    clear h4 hlen
    go_enter_defers Try.func35, Try.ntmps35
    go_wp2_with fail
    refine Calls.mono (HH.out _) ?_
    rintro e wz ⟨rfl, rfl⟩
    go_wp2_with fail
    refine Calls.mono (need_ok 60 _) ?_
    rintro e wz ⟨rfl, rfl⟩
    go_wp2_with fail
    refine Calls.mono O1.out ?_
    rintro e w1 ⟨rfl, r1, g1⟩
    have s1 := HS.out.read r1 g1
    have x0 := s1.2.1.c0
    have x1 := s1.2.1.fr 0
    have s2 : Rs base w0 w (w1.setCell ⟨w.heap.size, 0, none⟩ (.int .u8 (zs.getD 0 0))) B zs 1 (zck (zs.getD 0 0)) := s1.store (s1.2.1.s0 (zs.getD 0 0))
    have HS2 := hidden s2
    clear O1 HS q0 HH s1 r1 g1 s2
    generalize hk : zs.getD 0 0 = k at *
    generalize hf : zs.getD 1 0 = f at *
    have kb : 0 ≤ k ∧ k < 256 := by rw [← hk]; exact Par.at_bound zs HBY.out 0
    have fb : 0 ≤ f ∧ f < 256 := by rw [← hf]; exact Par.at_bound zs HBY.out 1
    have HK := hidden hk
    have HF := hidden hf
    clear hk hf
    go_upto_region 4 with fail
    clear x0 x1
    generalize w1.setCell ⟨w.heap.size, 0, none⟩ (.int .u8 k) = W2 at *
    have HFL := flg_and k f fb.1 fb.2
    have x0 := HS2.out.2.1.c0
    have HS2d := hidden HS2.out.drew
    have ONE := hidden (show ∀ x, Rs base w0 w x B zs 1 (zck k) → Calls Try.prog 58 #[.pointer (some ⟨B, 0, none⟩)] x fun e w' => e = .returned (.int .u8 f) ∧ Rs base w0 w w' B zs 2 (zck k) from fun x hx => (one base w0 x B 1 zs hx.1 (by have := H4.out; omega)).mono (by
      rintro e w' ⟨rfl, r, g⟩
      exact ⟨by rw [HF.out], hx.read r g⟩))
    go_cut [0, 2, 3] from 4 (fun s0 s2 s3 wx => s0 = .pointer (some ⟨B, 0, none⟩) ∧ s2 = .pointer (some ⟨w.heap.size, 0, none⟩) ∧ s3 = .pointer (some ⟨w.heap.size + 1, 0, none⟩) ∧ Rs base w0 w wx B zs 2 { zck k with flags := flg k f })
    case first =>
      refine wp_quiet ?_
      go_region_with (first
        | (go_at_call 58; refine Calls.mono (ONE.out _ HS2d.out) ?_; rintro e w3 ⟨rfl, s3⟩; have y0 := s3.2.1.c0; have y1 := s3.2.1.fr 1; have y2 := s3.2.1.c1; have S3 := hidden s3; clear s3)
        | (go_at_call 50; refine Calls.mono (counting k _) ?_; rintro e w4 ⟨rfl, rfl⟩))
      all_goals go_wp2_with fail
      all_goals go_meet
      all_goals exact ⟨rfl, rfl, rfl, S3.out.store (S3.out.2.1.s1 _)⟩
    case rest =>
    obtain ⟨rfl, rfl, rfl, hs⟩ := hcut
    have HVC := hidden (show val { zck k with flags := flg k f } = zch k (flg k f) from rfl)
    have HLC := hidden (show ∀ nn w, Lsts nn w { zck k with flags := flg k f } from fun nn w => zck_lsts nn k w)
    have HKC := hidden (show ({ zck k with flags := flg k f } : Ck).kind = k from rfl)
    generalize { zck k with flags := flg k f } = c2 at hs HVC HLC HKC
    have TW := hidden (two base w0 wc B 2 zs hs.1 (by have := H4.out; omega))
    have HS := hidden hs
    have nbd := n2_bound HBY.out 2
    have HN2 := hidden (show n2 zs 2 = n2 zs 2 from rfl)
    clear hs ONE HS2d x0 HFL
    generalize hN : n2 zs 2 = N at TW nbd
    have HN := hidden hN
    clear hN HN2
    go_wp2_with fail
    refine Calls.mono TW.out ?_
    rintro e w5 ⟨rfl, r5, g5⟩
    have HS5 := hidden (HS.out.read r5 g5)
    clear HS TW r5 g5
    rcases Int.lt_or_le N 4 with hlt | hge
    · have HD := hidden (show Dec zs 60 (zch 0 0) 0 from .inl ⟨.inr (.inl (by rw [HN.out]; exact hlt)), rfl⟩)
      go_wp2_with fail
      refine Calls.mono (need_bad 60 _) ?_
      rintro e wz ⟨rfl, rfl⟩
      refine leaves_cons (f := 55) (args := #[.pointer (some ⟨w.heap.size + 1, 0, none⟩)]) (by simp) (by simp [go_sem]) ?_
      obtain ⟨e0, z0⟩ := HS5.out.c3
      refine (catch_panicking ⟨w.heap.size + 1, 0, none⟩ 0 60 [] _ e0 z0).mono ?_
      rintro e u' w3 ⟨rfl, rfl, rfl⟩
      obtain ⟨y1, y2, y3⟩ := bad_end 60 HS5.out.2.1 HS5.out.2.2.1 HS5.out.2.2.2.1
      exact ⟨.tuple #[cv c2, .int .i64 60], by simp [results, Try.results35, go_sem, y3, HS5.out.2.1.c0, HS5.out.2.1.c1, HS5.out.2.1.c2, HS5.out.2.1.c3, HS5.out.2.1.c4, HS5.out.2.1.c5, HS5.out.2.1.c6, HS5.out.2.1.c7, HS5.out.2.1.c8, HS5.out.2.1.c9, HS5.out.2.1.c10, HS5.out.2.1.c11, HS5.out.2.1.c12, HS5.out.2.1.c13, HS5.out.2.1.c14] <;> rfl, _, rfl, c2, 60, zch 0 0, 0, rfl, HD.out, y2, fun h => by cases h⟩
    obtain ⟨n, rfl⟩ : ∃ n : Nat, N = (n : Int) + 4 := ⟨(N - 4).toNat, by omega⟩
    obtain ⟨a5, len5, cap5, q5, hlen5⟩ := HS5.out.rd
    have HL5 := hidden hlen5
    have hsub : IntKind.i64.wrap ((n : Int) + 4 - 4) = (n : Int) := by rw [IntKind.wrap_i64]; omega
    have HHn := hidden (has a5 len5 cap5 n)
    clear hlen5
    rcases Nat.lt_or_ge len5 n with hlt | hge2
    · rw [show decide (n ≤ len5) = false from decide_eq_false (by omega)] at HHn
      have HD := hidden (show Dec zs 60 (zch 0 0) 0 from .inl ⟨.inr (.inr (by rw [HN.out]; have := HL5.out; have := H4.out; omega)), rfl⟩)
      go_wp2_with fail
      refine Calls.mono (HHn.out _) ?_
      rintro e wz ⟨rfl, rfl⟩
      go_wp2_with fail
      refine Calls.mono (need_bad 60 _) ?_
      rintro e wz ⟨rfl, rfl⟩
      refine leaves_cons (f := 55) (args := #[.pointer (some ⟨w.heap.size + 1, 0, none⟩)]) (by simp) (by simp [go_sem]) ?_
      obtain ⟨e0, z0⟩ := HS5.out.c3
      refine (catch_panicking ⟨w.heap.size + 1, 0, none⟩ 0 60 [] _ e0 z0).mono ?_
      rintro e u' w3 ⟨rfl, rfl, rfl⟩
      obtain ⟨y1, y2, y3⟩ := bad_end 60 HS5.out.2.1 HS5.out.2.2.1 HS5.out.2.2.2.1
      exact ⟨.tuple #[cv c2, .int .i64 60], by simp [results, Try.results35, go_sem, y3, HS5.out.2.1.c0, HS5.out.2.1.c1, HS5.out.2.1.c2, HS5.out.2.1.c3, HS5.out.2.1.c4, HS5.out.2.1.c5, HS5.out.2.1.c6, HS5.out.2.1.c7, HS5.out.2.1.c8, HS5.out.2.1.c9, HS5.out.2.1.c10, HS5.out.2.1.c11, HS5.out.2.1.c12, HS5.out.2.1.c13, HS5.out.2.1.c14] <;> rfl, _, rfl, c2, 60, zch 0 0, 0, rfl, HD.out, y2, fun h => by cases h⟩
    rw [show decide (n ≤ len5) = true from decide_eq_true (by omega)] at HHn
    have HNL := hidden (show n + 4 ≤ zs.length by have := HL5.out; have := H4.out; omega)
    have CU := hidden (cut base w0 w5 B n (zs.drop 4) HS5.out.1.1 (by rw [List.length_drop]; have := HNL.out; omega))
    go_wp2_with fail
    refine Calls.mono (HHn.out _) ?_
    rintro e wz ⟨rfl, rfl⟩
    go_wp2_with fail
    refine Calls.mono (need_ok 60 _) ?_
    rintro e wz ⟨rfl, rfl⟩
    go_wp2_with fail
    refine Calls.mono CU.out ?_
    rintro e w6 ⟨a6, cap6, rfl, hrow, hn6, hnn6, hR6, g6⟩
    rw [List.drop_drop] at hR6
    have s6 := HS5.out.read (HS5.out.1.grown (show 4 + n ≤ zs.length by have := HNL.out; omega) hR6 g6) g6
    have HBD := hidden (body_eq zs n HN.out)
    rw [← HBD.out] at hrow
    obtain ⟨F6, S6⟩ := val_start s6 hrow hn6 hnn6 HLC.out
    have hV := s6.2.2.2.2.2
    have HF6 := hidden F6
    have HS6 := hidden S6
    have FI := hidden (fill base _ w0 _ _ _ _ _ F6 (by rw [hrow.1]; have := HNL.out; omega))
    clear CU HHn q5 HS5 s6 F6 S6 hR6 g6 hrow hn6 hnn6 hge2
    go_wp2_with fail
    refine Calls.mono FI.out ?_
    rintro e w9 ⟨hT, er, y, hfil, h⟩
    obtain ⟨l1, l2, l3, l4⟩ := val_left HS6.out hV hT
    rw [HVC.out, HKC.out] at hfil
    have hnc : ¬ Cut zs := by
      unfold Cut
      rw [HN.out]
      have := HNL.out
      have := H4.out
      omega
    rcases h with ⟨he, rfl, c', hx⟩ | ⟨rfl, rfl, c', p, hF9, hval⟩
    · have HD := hidden (show Dec zs er y 0 from .inr ⟨hnc, by rw [HK.out, HF.out]; exact hfil, fun h => absurd h he⟩)
      have HE := hidden he
      have HX := hidden hx
      have L1 := hidden l1
      have L2 := hidden l2
      clear hfil hT HF6 HS6 FI hnc he hx l1 l2 l3 l4
      have e0 : w9.cell? ⟨w.heap.size + 1, 0, none⟩ = some (.int .i64 0) := by simp [World.cell?, L1.out]
      have z0 : w9.frozen? ⟨w.heap.size + 1, 0, none⟩ = false := by simp [World.frozen?, L1.out]
      refine leaves_cons (f := 55) (args := #[.pointer (some ⟨w.heap.size + 1, 0, none⟩)]) (by simp) (by simp [go_sem]) ?_
      refine (catch_panicking ⟨w.heap.size + 1, 0, none⟩ 0 er [] _ e0 z0).mono ?_
      rintro e u' w3 ⟨rfl, rfl, rfl⟩
      obtain ⟨y1, y2, y3⟩ := bad_end er HX.out L1.out L2.out
      exact ⟨.tuple #[cv c', .int .i64 er], by simp [results, Try.results35, go_sem, y3, HX.out.c0, HX.out.c1, HX.out.c2, HX.out.c3, HX.out.c4, HX.out.c5, HX.out.c6, HX.out.c7, HX.out.c8, HX.out.c9, HX.out.c10, HX.out.c11, HX.out.c12, HX.out.c13, HX.out.c14] <;> rfl, _, rfl, c', er, y, 0, rfl, HD.out, y2, fun h => absurd h HE.out⟩
    · have HD := hidden (show Dec zs 0 y (4 + n + min (Par.fill4 n - n) (zs.length - (4 + n))) from .inr ⟨hnc, by rw [HK.out, HF.out]; exact hfil, fun _ => by rw [HN.out, end_at n zs.length HNL.out]; congr 2⟩)
      have HS9 := hidden (show Rs base w0 w w9 B zs (4 + n) c' from ⟨l3, hF9.2.1, l1, l2, HS6.out.2.2.2.2.1, l4⟩)
      have HL9 := hidden hF9.2.2.1
      have HVY := hidden hval
      have h4n := (Par.fill4_le n)
      clear hfil hT HF6 HS6 FI hnc l1 l2 l3 l4 hF9 hval HVC HLC HKC
      have HFI : ∀ w, Hid (Calls Try.prog 45 #[.int .i64 (n : Int)] w fun e w' => e = .returned (.int .i64 (Par.fill4 n : Nat)) ∧ w = w') := fun w => hidden (filled n (by have := HNL.out; omega) w)
      have SKP := hidden (show ∀ x, Rs base w0 w x B zs (4 + n) c' ∧ Lsts (w6.heap.size + 1) x c' → Calls Try.prog 62 #[.pointer (some ⟨B, 0, none⟩), .int .i64 ((Par.fill4 n - n : Nat) : Int)] x fun e w' => e = .returned (.tuple #[]) ∧ Rs base w0 w w' B zs (4 + n + min (Par.fill4 n - n) (zs.length - (4 + n))) c' ∧ Lsts (w6.heap.size + 1) w' c' from fun x hx => (skip base w0 x B (4 + n) (Par.fill4 n - n) zs hx.1.1 (by omega)).mono (by
        rintro e w' ⟨rfl, r, g⟩
        exact ⟨rfl, hx.1.read r g, hx.2.tch (B := B) (C := w.heap.size) (by have := hx.1.2.2.2.2.1; omega) (by omega) (Tch.ofB g)⟩))
      have HSX := hidden (show Rs base w0 w w9.drew B zs (4 + n) c' ∧ Lsts (w6.heap.size + 1) w9.drew c' from ⟨HS9.out.drew, HL9.out⟩)
      obtain ⟨F4, hF4⟩ : ∃ F4 : Nat, Par.fill4 n = F4 := ⟨_, rfl⟩
      rw [hF4] at SKP HFI HD h4n
      have hsub2 : (F4 : Int) - (n : Int) = ((F4 - n : Nat) : Int) := by omega
      have hwr : IntKind.i64.wrap ((F4 - n : Nat) : Int) = ((F4 - n : Nat) : Int) := by rw [IntKind.wrap_i64]; omega
      clear hF4
      go_upto_region 9 with fail
      go_cut [0, 2, 3] from 4 (fun s0 s2 s3 wx => s0 = .pointer (some ⟨B, 0, none⟩) ∧ s2 = .pointer (some ⟨w.heap.size, 0, none⟩) ∧ s3 = .pointer (some ⟨w.heap.size + 1, 0, none⟩) ∧ Rs base w0 w wx B zs (4 + n + min (F4 - n) (zs.length - (4 + n))) c' ∧ Lsts (w6.heap.size + 1) wx c')
      case first =>
        refine wp_quiet ?_
        go_region_with (first
          | (go_at_call 45; refine Calls.mono (HFI _).out ?_; rintro e w4 ⟨rfl, rfl⟩)
          | (go_at_call 62; refine Calls.mono (SKP.out _ HSX.out) ?_; rintro e w4 ⟨rfl, s4⟩))
        all_goals go_wp2_with fail
        all_goals go_meet
        all_goals exact ⟨rfl, rfl, rfl, s4⟩
      case rest =>
      obtain ⟨rfl, rfl, rfl, hs, hl⟩ := hcut
      have k1 := hs.2.1.ld
      have k2 := sto_run hs.2.1 c'
      obtain ⟨y1, y2, y3, y4, y5⟩ := fin_ok hs hl (by omega)
      have k3 : (stoW wc w.heap.size c').cell? ⟨w.heap.size + 1, 0, none⟩ = some (.int .i64 0) := by
        have e := other_setCells w.heap.size (w.heap.size + 1) (by omega) (cc c').toList 0 wc
        unfold stoW
        simp [World.cell?, e, hs.2.2.1]
      have k4 : (stoW wc w.heap.size c').frozen? ⟨w.heap.size + 1, 0, none⟩ = false := by
        have e := other_setCells w.heap.size (w.heap.size + 1) (by omega) (cc c').toList 0 wc
        unfold stoW
        simp [World.frozen?, e, hs.2.2.1]
      have Y1 := hidden y1
      have Y2 := hidden y2
      have Y3 := hidden y3
      have Y4 := hidden y4
      have Y5 := hidden y5
      clear hs hl y1 y2 y3 y4 y5 HFI SKP HSX
      go_wp2
      refine leaves_cons (f := 55) (args := #[.pointer (some ⟨w.heap.size + 1, 0, none⟩)]) (by simp) (by simp [go_sem]) ?_
      refine (catch_idle ⟨w.heap.size + 1, 0, none⟩ _).mono ?_
      rintro e u' w3 ⟨rfl, rfl, rfl⟩
      generalize (stoW wc w.heap.size c').setCell ⟨w.heap.size + 1, 0, none⟩ (.int .i64 0) = W9 at *
      exact ⟨.tuple #[cv c', .int .i64 0], by simp [results, Try.results35, go_sem, Y2.out, Y1.out.c0, Y1.out.c1, Y1.out.c2, Y1.out.c3, Y1.out.c4, Y1.out.c5, Y1.out.c6, Y1.out.c7, Y1.out.c8, Y1.out.c9, Y1.out.c10, Y1.out.c11, Y1.out.c12, Y1.out.c13, Y1.out.c14] <;> rfl, _, rfl, c', 0, y, _, rfl, HD.out, Y3.out, fun _ => ⟨HVY.out, Y4.out, Y5.out⟩⟩
end Go.Proofs.Ytifdkpifambhaaa.Chu
