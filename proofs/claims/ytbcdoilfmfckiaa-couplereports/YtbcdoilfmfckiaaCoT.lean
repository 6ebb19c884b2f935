/-
  Windows of several paths: the document's answers of all of them behind a report.
  Conditions: as at each lemma.
-/
import Derived.Test.YtbcdoilfmfckiaaCoR
import Derived.Test.YtbcdoilfmfckiaaCoF
namespace Go.Proofs.Ytbcdoilfmfckiaa.Co
open Go.ChangeShapes Go.WideShapes Go.ChangeAt Go.RowKit
open Ba (hidden Has Only)
open Ow (Own)
set_option linter.unusedVariables false

theorem below_drewn {n : Nat} {w w1 : World} (h : Below n w w1) (k : Nat) : Below n w (w1.drewN k) := ⟨h.os, h.tape, h.output, h.size, h.block⟩
theorem fc_app (A B : List Fw) : fc (A ++ B) = fc A ++ fc B := by unfold fc; rw [List.flatMap_append]
theorem take_next {G : List Fw} {q : Nat} {z : Fw} (h : G[q]? = some z) : G.take (q + 1) = G.take q ++ [z] := by
  rw [List.take_add_one, h]
  rfl
/-- the new element's cells -/
theorem cells2 (w : World) (x y : Value) (t : TypeId) : ∀ j u, [x, y][j]? = some u → (w.alloc (.cells #[x, y] t)).cell? ((⟨w.heap.size, 0, none⟩ : Addr).add j) = some u := by
  intro j u hj
  rw [Go.WideShapes.add_plain, Nat.zero_add]
  match j, hj with
  | 0, hj => exact (Has.new w #[x, y] t).cell 0 hj
  | 1, hj => exact (Has.new w #[x, y] t).cell 1 hj
theorem cells2n {w : World} {N : Nat} (hN : w.heap.size = N) (x y : Value) (t : TypeId) : ∀ j u, [x, y][j]? = some u → (w.alloc (.cells #[x, y] t)).cell? ((⟨N, 0, none⟩ : Addr).add j) = some u := hN ▸ cells2 w x y t
theorem size_set (w : World) (p : Addr) (u : Value) : (w.setCell p u).heap.size = w.heap.size := by simp [World.setCell]
theorem ge_ok {zs : List Fw} {ys : List Int} {m k : Int} (hk : okF zs m) (hw : whF zs ys k) : ge zs ys m k = 0 ∧ gl zs ys m k = gw zs ys m k zs.length := by
  unfold ge gl
  rw [okB_t hk, whB_t hw]
  exact ⟨rfl, rfl⟩
theorem ge_arg {zs : List Fw} {ys : List Int} {m k : Int} (hk : okF zs m) (hw : ¬ whF zs ys k) : ge zs ys m k = 1 ∧ gl zs ys m k = [] := by
  unfold ge gl
  rw [okB_t hk, whB_f hw]
  exact ⟨rfl, rfl⟩
theorem ge_no {zs : List Fw} {m : Int} (hk : ¬ okF zs m) (ys : List Int) (k : Int) : ge zs ys m k = 130 ∧ gl zs ys m k = [] := by
  unfold ge gl
  rw [okB_f hk]
  exact ⟨rfl, rfl⟩
section
variable {w : World} {a a2 : Option Addr} {n cap n2 cap2 : Nat} {zs : List Fw} {ys : List Int}
set_option maxHeartbeats 4000000 in
set_option maxRecDepth 20000 in
theorem rGrown_ok (h : Fl w a n zs) (h2 : Nu w a2 n2 ys) {m : Int} (hk : okF zs m) {k : Int} (hlen : ys.length = zs.length) (hkk : 1 ≤ k ∧ k ≤ 1073741824) : Calls Try.prog 21 #[.slice a n cap, .slice a2 n2 cap2, .int .i64 m, .int .i64 k] w fun e w' => ∃ v, e = .returned (.tuple #[v, .int .i64 (ge zs ys m k)]) ∧ w'.ownsRow w.heap.size 43 2 v (gl zs ys m k).length (fc (gl zs ys m k)) ∧ Below w.heap.size w w' := by
  have hl := h.len
  have h8 : n ≤ 8 := by rw [← hl]; exact hk.1.2
  have h1 : 1 ≤ n := by rw [← hl]; exact hk.1.1
  obtain rfl : n2 = n := by have := h2.1; omega
  obtain ⟨b, off, rfl, hb⟩ := Fl.open h (by omega)
  obtain ⟨g, of2, rfl, hgb⟩ := Nu.open h2 (by omega)
  have CK := hidden (rCheck (cap := cap) h m)
  rw [chk_ok hk] at CK
  have WK := hidden (rWindow_t hkk)
  obtain ⟨i0, hi, hz0, hz1, hz2⟩ := info_parts infoF
  have SL : Hid (∀ X, Below w.heap.size w X → ∀ q y : Int, 0 ≤ q ∧ q < n2 → byt y → Calls Try.prog 15 #[.slice (some ⟨b, off, none⟩) n2 cap, .int .i64 q, .int .i64 y, .int .i64 m] X fun e w' => e = .returned (.tuple #[.int .i64 (share zs q.toNat (min y m)), .int .i64 0]) ∧ Below X.heap.size X w') := fun X hX q y hq hy => by
    have := rSlow (cap := cap) (h.later hX) q y m
    rw [er_ok hk (by rw [hl]; exact hq) hy, va_0] at this
    exact this
  have AV : Hid (∀ X, Below w.heap.size w X → ∀ q : Int, 0 ≤ q ∧ q < n2 → Calls Try.prog 17 #[.slice (some ⟨b, off, none⟩) n2 cap, .int .i64 q, .int .i64 m] X fun e w' => e = .returned (.tuple #[.int .i64 (share zs q.toNat m), .int .i64 0]) ∧ Below X.heap.size X w') := fun X hX q hq => by
    have := rAvoid (cap := cap) (h.later hX) q m
    rw [er_ok hk (by rw [hl]; exact hq) (by decide), va_0] at this
    exact this
  have H := hidden h
  have H2 := hidden h2
  have HL := hidden hl
  have HK := hidden hk
  have HLN := hidden hlen
  have HKK := hidden hkk
  obtain ⟨hk1, hk2⟩ := hkk
  have hm1 : 1 ≤ m ∧ m ≤ 65536 := hk.2.1
  clear h h2 hk hl hlen
  go_enter Try.func21, Try.ntmps21
  go_wp2_with fail
  refine Calls.mono CK.out ?_
  rintro e w1 ⟨rfl, hB⟩
  have HB1 := hidden hB
  clear hB CK
  go_wp2_with fail
  refine Calls.mono (WK.out _) ?_
  rintro e w2 ⟨rfl, rfl⟩
  go_wp2_with fail
  go_loopw [10, 11] (fun v i wr => ∃ q : Int, 0 ≤ q ∧ q ≤ (n2 : Int) ∧ i = .int .i64 q ∧ Hid (UpY ys q) ∧ Hid (wr.ownsRow w.heap.size 43 2 v q.toNat (fc ((gw zs ys m k n2).take q.toNat))) ∧ Hid (Below w.heap.size w wr)) (fun _ i _ => n2 - (intOf i).toNat)
  case atStart => exact ⟨0, by omega, by omega, rfl, fun j hj => by omega, World.ownsRow_nil _ _ _ _, HB1.out⟩
  case round =>
    clear HB1
    obtain ⟨q, j1, j2, rfl, HU, OW, HB⟩ := hrel
    by_cases hq : q < (n2 : Int)
    · obtain ⟨y, hy, dy⟩ := Nu.get (H2.out.later HB.out) (q := q.toNat) (by omega)
      by_cases hyb : byt y
      case neg =>
        have BY := hidden (rBytes_f hyb)
        have HG := hidden (ge_arg HK.out (ys := ys) (k := k) fun h => hyb (h.2.2 y (List.mem_of_getElem? hy)))
        clear hyb hy
        go_wp2_with fail
        refine Calls.mono (BY.out _) ?_
        rintro e w3 ⟨rfl, rfl⟩
        go_wp2
        go_ret2
        exact ⟨_, by rw [HG.out.1]; rfl, by rw [HG.out.2]; exact World.ownsRow_nil _ _ _ _, HB.out⟩
      have BY := hidden (rBytes_t hyb)
      have HU1 : Hid (UpY ys (q + 1)) := HU.out.next j1 hy hyb
      obtain ⟨c, t, hz⟩ := get_ (zs := zs) (q := q.toNat) (by have := HL.out; omega)
      have hgd := HK.out.2.2 _ (List.mem_of_getElem? hz)
      simp only [good] at hgd
      have hyd : ys.getD q.toNat 0 = y := by rw [List.getD_eq_getElem?_getD, hy]; rfl
      have hgr := gr_in HK.out.2.2 (j := q.toNat) (y := y) (m := m) (by have := HL.out; omega) hyb.1 (by omega)
      have hsh := share_in HK.out.2.2 (j := q.toNat) (n := m) (by have := HL.out; omega) (by omega)
      have HT : Hid ((gw zs ys m k n2).take (q + 1).toNat = (gw zs ys m k n2).take q.toNat ++ [(wn zs q.toNat y m k, t)]) := by
        show (gw zs ys m k n2).take (q + 1).toNat = (gw zs ys m k n2).take q.toNat ++ [(wn zs q.toNat y m k, t)]
        rw [show (q + 1).toNat = q.toNat + 1 by omega]
        refine take_next ?_
        rw [gw_get (by have := HL.out; omega), if_pos (by omega), getD_at hz, hyd]
      have hwn := wn_at hz y m k
      have DY : Hid (∀ X, Below w.heap.size w X → X.cell? ⟨g, of2 + q.toNat, none⟩ = some (.int .i64 y)) := fun X hX => by
        obtain ⟨y', hy', d⟩ := Nu.get (H2.out.later hX) (q := q.toNat) (by omega)
        rw [hy] at hy'
        cases hy'
        exact d
      have DC : Hid (∀ X, Below w.heap.size w X → X.cell? ⟨b, off + q.toNat * 2, none⟩ = some (.int .i64 c) ∧ X.cell? ⟨b, off + q.toNat * 2 + 1, none⟩ = some (.int .i64 t)) := fun X hX => by
        obtain ⟨c', t', hz', d0, d1⟩ := Fl.get (H.out.later hX) (q := q.toNat) (by omega)
        rw [hz] at hz'
        cases hz'
        exact ⟨d0, d1⟩
      have SQ := hidden (fun X hX => SL.out X hX q y ⟨j1, hq⟩ hyb)
      have AQ := hidden (fun X hX => AV.out X hX q ⟨j1, hq⟩)
      clear hy hyd hyb
      have hqn : q.toNat < n2 := by omega
      by_cases hc : c ≤ t
      · by_cases ho : k < c + share zs q.toNat (min y m)
        · by_cases hu : k < c
          · rw [gr_s hz hc y m] at hwn hgr
            generalize wn zs q.toNat y m k = V at *
            generalize share zs q.toNat m = SM at *
            generalize share zs q.toNat (min y m) = G at *
            have hV : V = c := by omega
            rw [hV] at HT
            have hw1 : IntKind.i64.wrap (c + G) = c + G := by rw [IntKind.wrap_i64]; omega
            clear hwn hgr hsh hgd hz hV
            go_wp2_with fail
            refine Calls.mono (BY.out _) ?_
            rintro e w3 ⟨rfl, rfl⟩
            go_wp2_with fail
            refine Calls.mono (SQ.out _ HB.out) ?_
            rintro e w3 ⟨rfl, hB⟩
            have HB3 := hidden (HB.out.trans (hB.mono HB.out.size))
            have OW3 := hidden (row_below OW.out hB)
            obtain ⟨d0, d1⟩ := DC.out _ HB3.out
            have dy3 := DY.out _ HB3.out
            clear hB dy
            go_wp2
            go_quiet (fail)
            generalize hW : w3.drewN _ = w4
            have HB4 : Hid (Below w.heap.size w w4) := hW ▸ below_drewn HB3.out _
            have OW4 : Hid (w4.ownsRow w.heap.size 43 2 u10 q.toNat (fc ((gw zs ys m k n2).take q.toNat))) := hW ▸ OW3.out
            clear hW d0 d1 dy3
            obtain ⟨d0, d1⟩ := DC.out _ HB4.out
            have dy4 := DY.out _ HB4.out
            go_wp2_with fail
            generalize hW : w4.alloc (.cells #[.int .i64 (k), .int .i64 t] 43) = w8
            have HH8 : Hid (Has w8 w4.heap.size #[.int .i64 (k), .int .i64 t] 43) := hW ▸ Has.new _ _ _
            have HB8 : Hid (Below w.heap.size w w8) := hW ▸ HB4.out.alloc HB4.out.size _
            have OW8 : Hid (w8.ownsRow w.heap.size 43 2 u10 q.toNat (fc ((gw zs ys m k n2).take q.toNat))) := hW ▸ OW4.out.alloc _
            have f0 := HH8.out.cell 0 rfl
            clear hW d0 d1
            obtain ⟨d0, d1⟩ := DC.out _ HB8.out
            go_quiet (fail)
            generalize hW : w8.drewN _ = w7
            have HH7 : Hid (Has w7 w4.heap.size #[.int .i64 (k), .int .i64 t] 43) := hW ▸ HH8.out
            have HB7 : Hid (Below w.heap.size w w7) := hW ▸ below_drewn HB8.out _
            have OW7 : Hid (w7.ownsRow w.heap.size 43 2 u10 q.toNat (fc ((gw zs ys m k n2).take q.toNat))) := hW ▸ OW8.out
            clear hW f0 d0 d1 OW8 HB8 HH8
            have f0 := HH7.out.cell 0 rfl
            have f1 := HH7.out.cell 1 rfl
            have fr := HH7.out.frozen 0
            have hlt := HH7.out.lt
            obtain ⟨d0, d1⟩ := DC.out _ HB7.out
            have hne : ¬ b = w4.heap.size := by have := HB4.out.size; omega
            have OW8 : Hid ((w7.setCell ⟨w4.heap.size, 0, none⟩ (.int .i64 c)).ownsRow w.heap.size 43 2 u10 q.toNat (fc ((gw zs ys m k n2).take q.toNat))) := Ba.own_stay OW7.out (Only.setCell (F := [w4.heap.size]) w7 (by simp) _) (fun k hk => by have := (OW4.out.lt k hk).2; simp; omega)
            have HB8 : Hid (Below w.heap.size w (w7.setCell ⟨w4.heap.size, 0, none⟩ (.int .i64 c))) := HB7.out.setCell HB4.out.size _
            have hs8 : w.heap.size ≤ w7.heap.size := HB7.out.size
            go_wp2_with (first | (at_builtin; refine wpList_append_own _ rfl _ _ 22 rfl w.heap.size 43 i0 (.agg #[.int .i64 0, .int .i64 0]) 2 16 Try.underlying22 hi hz0 hz1 hz2 rfl (by decide) _ _ _ rfl (OW8.out.alloc _) ⟨w7.heap.size, 0, none⟩ 1 1 [.int .i64 (c), .int .i64 t] rfl rfl (cells2n (w := (w7.setCell ⟨w4.heap.size, 0, none⟩ (.int .i64 c))) (size_set _ _ _) _ _ 43) ?c2 ?c3 ?c4 ?c5 ?_) | go_in)
            case c2 =>
              intro u hu
              simp only [List.mem_cons, List.not_mem_nil, or_false] at hu
              rcases hu with rfl | rfl <;> rfl
            case c3 => unfold maxLen; omega
            case c4 => omega
            case c5 => simp; omega
            intro v' w9 ho9 hg9 _
            have OW9 : Hid (w9.ownsRow w.heap.size 43 2 v' (q + 1).toNat (fc ((gw zs ys m k n2).take (q + 1).toNat))) := by
              show w9.ownsRow w.heap.size 43 2 v' (q + 1).toNat (fc ((gw zs ys m k n2).take (q + 1).toNat))
              rw [HT.out, fc_app, show (q + 1).toNat = q.toNat + 1 by omega]
              exact ho9
            have HB9 : Hid (Below w.heap.size w w9) := (HB8.out.alloc HB8.out.size _).grown hg9 (by simp; omega) (fun k hk => (OW8.out.lt k hk).1)
            clear ho9 hg9 f0 f1 fr d0 d1
            go_wp2
            go_roundw
            case rel => exact ⟨q + 1, by omega, by omega, rfl, HU1.out, OW9.out, HB9.out⟩
            case measure => simp [intOf]; omega
          · rw [gr_s hz hc y m] at hwn hgr
            generalize wn zs q.toNat y m k = V at *
            generalize share zs q.toNat m = SM at *
            generalize share zs q.toNat (min y m) = G at *
            have hV : V = k := by omega
            rw [hV] at HT
            have hw1 : IntKind.i64.wrap (c + G) = c + G := by rw [IntKind.wrap_i64]; omega
            clear hwn hgr hsh hgd hz hV
            go_wp2_with fail
            refine Calls.mono (BY.out _) ?_
            rintro e w3 ⟨rfl, rfl⟩
            go_wp2_with fail
            refine Calls.mono (SQ.out _ HB.out) ?_
            rintro e w3 ⟨rfl, hB⟩
            have HB3 := hidden (HB.out.trans (hB.mono HB.out.size))
            have OW3 := hidden (row_below OW.out hB)
            obtain ⟨d0, d1⟩ := DC.out _ HB3.out
            have dy3 := DY.out _ HB3.out
            clear hB dy
            go_wp2
            go_quiet (fail)
            generalize hW : w3.drewN _ = w4
            have HB4 : Hid (Below w.heap.size w w4) := hW ▸ below_drewn HB3.out _
            have OW4 : Hid (w4.ownsRow w.heap.size 43 2 u10 q.toNat (fc ((gw zs ys m k n2).take q.toNat))) := hW ▸ OW3.out
            clear hW d0 d1 dy3
            obtain ⟨d0, d1⟩ := DC.out _ HB4.out
            have dy4 := DY.out _ HB4.out
            go_wp2_with fail
            generalize hW : w4.alloc (.cells #[.int .i64 (k), .int .i64 t] 43) = w8
            have HH8 : Hid (Has w8 w4.heap.size #[.int .i64 (k), .int .i64 t] 43) := hW ▸ Has.new _ _ _
            have HB8 : Hid (Below w.heap.size w w8) := hW ▸ HB4.out.alloc HB4.out.size _
            have OW8 : Hid (w8.ownsRow w.heap.size 43 2 u10 q.toNat (fc ((gw zs ys m k n2).take q.toNat))) := hW ▸ OW4.out.alloc _
            have f0 := HH8.out.cell 0 rfl
            clear hW d0 d1
            obtain ⟨d0, d1⟩ := DC.out _ HB8.out
            go_quiet (fail)
            generalize hW : w8.drewN _ = w7
            have HH7 : Hid (Has w7 w4.heap.size #[.int .i64 (k), .int .i64 t] 43) := hW ▸ HH8.out
            have HB7 : Hid (Below w.heap.size w w7) := hW ▸ below_drewn HB8.out _
            have OW7 : Hid (w7.ownsRow w.heap.size 43 2 u10 q.toNat (fc ((gw zs ys m k n2).take q.toNat))) := hW ▸ OW8.out
            clear hW f0 d0 d1 OW8 HB8 HH8
            have f0 := HH7.out.cell 0 rfl
            have f1 := HH7.out.cell 1 rfl
            have fr := HH7.out.frozen 0
            have hlt := HH7.out.lt
            obtain ⟨d0, d1⟩ := DC.out _ HB7.out
            have hs8 : w.heap.size ≤ w7.heap.size := HB7.out.size
            go_wp2_with (first | (at_builtin; refine wpList_append_own _ rfl _ _ 22 rfl w.heap.size 43 i0 (.agg #[.int .i64 0, .int .i64 0]) 2 16 Try.underlying22 hi hz0 hz1 hz2 rfl (by decide) _ _ _ rfl (OW7.out.alloc _) ⟨w7.heap.size, 0, none⟩ 1 1 [.int .i64 (k), .int .i64 t] rfl rfl (cells2n (w := w7) rfl _ _ 43) ?c2 ?c3 ?c4 ?c5 ?_) | go_in)
            case c2 =>
              intro u hu
              simp only [List.mem_cons, List.not_mem_nil, or_false] at hu
              rcases hu with rfl | rfl <;> rfl
            case c3 => unfold maxLen; omega
            case c4 => omega
            case c5 => simp; omega
            intro v' w9 ho9 hg9 _
            have OW9 : Hid (w9.ownsRow w.heap.size 43 2 v' (q + 1).toNat (fc ((gw zs ys m k n2).take (q + 1).toNat))) := by
              show w9.ownsRow w.heap.size 43 2 v' (q + 1).toNat (fc ((gw zs ys m k n2).take (q + 1).toNat))
              rw [HT.out, fc_app, show (q + 1).toNat = q.toNat + 1 by omega]
              exact ho9
            have HB9 : Hid (Below w.heap.size w w9) := (HB7.out.alloc HB7.out.size _).grown hg9 (by simp; omega) (fun k hk => (OW7.out.lt k hk).1)
            clear ho9 hg9 f0 f1 fr d0 d1
            go_wp2
            go_roundw
            case rel => exact ⟨q + 1, by omega, by omega, rfl, HU1.out, OW9.out, HB9.out⟩
            case measure => simp [intOf]; omega
        · rw [gr_s hz hc y m] at hwn hgr
          generalize wn zs q.toNat y m k = V at *
          generalize share zs q.toNat m = SM at *
          generalize share zs q.toNat (min y m) = G at *
          have hV : V = c + G := by omega
          rw [hV] at HT
          have hw1 : IntKind.i64.wrap (c + G) = c + G := by rw [IntKind.wrap_i64]; omega
          have hG : ¬ c + G < c := by omega
          clear hwn hgr hsh hgd hz hV
          go_wp2_with fail
          refine Calls.mono (BY.out _) ?_
          rintro e w3 ⟨rfl, rfl⟩
          go_wp2_with fail
          refine Calls.mono (SQ.out _ HB.out) ?_
          rintro e w3 ⟨rfl, hB⟩
          have HB3 := hidden (HB.out.trans (hB.mono HB.out.size))
          have OW3 := hidden (row_below OW.out hB)
          obtain ⟨d0, d1⟩ := DC.out _ HB3.out
          have dy3 := DY.out _ HB3.out
          clear hB dy
          go_wp2
          go_quiet (fail)
          generalize hW : w3.drewN _ = w4
          have HB4 : Hid (Below w.heap.size w w4) := hW ▸ below_drewn HB3.out _
          have OW4 : Hid (w4.ownsRow w.heap.size 43 2 u10 q.toNat (fc ((gw zs ys m k n2).take q.toNat))) := hW ▸ OW3.out
          clear hW d0 d1 dy3
          obtain ⟨d0, d1⟩ := DC.out _ HB4.out
          have dy4 := DY.out _ HB4.out
          go_wp2_with fail
          generalize hW : w4.alloc (.cells #[.int .i64 (c + G), .int .i64 t] 43) = w8
          have HH8 : Hid (Has w8 w4.heap.size #[.int .i64 (c + G), .int .i64 t] 43) := hW ▸ Has.new _ _ _
          have HB8 : Hid (Below w.heap.size w w8) := hW ▸ HB4.out.alloc HB4.out.size _
          have OW8 : Hid (w8.ownsRow w.heap.size 43 2 u10 q.toNat (fc ((gw zs ys m k n2).take q.toNat))) := hW ▸ OW4.out.alloc _
          have f0 := HH8.out.cell 0 rfl
          clear hW d0 d1
          obtain ⟨d0, d1⟩ := DC.out _ HB8.out
          go_quiet (fail)
          generalize hW : w8.drewN _ = w7
          have HH7 : Hid (Has w7 w4.heap.size #[.int .i64 (c + G), .int .i64 t] 43) := hW ▸ HH8.out
          have HB7 : Hid (Below w.heap.size w w7) := hW ▸ below_drewn HB8.out _
          have OW7 : Hid (w7.ownsRow w.heap.size 43 2 u10 q.toNat (fc ((gw zs ys m k n2).take q.toNat))) := hW ▸ OW8.out
          clear hW f0 d0 d1 OW8 HB8 HH8
          have f0 := HH7.out.cell 0 rfl
          have f1 := HH7.out.cell 1 rfl
          have fr := HH7.out.frozen 0
          have hlt := HH7.out.lt
          obtain ⟨d0, d1⟩ := DC.out _ HB7.out
          have hs8 : w.heap.size ≤ w7.heap.size := HB7.out.size
          go_wp2_with (first | (at_builtin; refine wpList_append_own _ rfl _ _ 22 rfl w.heap.size 43 i0 (.agg #[.int .i64 0, .int .i64 0]) 2 16 Try.underlying22 hi hz0 hz1 hz2 rfl (by decide) _ _ _ rfl (OW7.out.alloc _) ⟨w7.heap.size, 0, none⟩ 1 1 [.int .i64 (c + G), .int .i64 t] rfl rfl (cells2n (w := w7) rfl _ _ 43) ?c2 ?c3 ?c4 ?c5 ?_) | go_in)
          case c2 =>
            intro u hu
            simp only [List.mem_cons, List.not_mem_nil, or_false] at hu
            rcases hu with rfl | rfl <;> rfl
          case c3 => unfold maxLen; omega
          case c4 => omega
          case c5 => simp; omega
          intro v' w9 ho9 hg9 _
          have OW9 : Hid (w9.ownsRow w.heap.size 43 2 v' (q + 1).toNat (fc ((gw zs ys m k n2).take (q + 1).toNat))) := by
            show w9.ownsRow w.heap.size 43 2 v' (q + 1).toNat (fc ((gw zs ys m k n2).take (q + 1).toNat))
            rw [HT.out, fc_app, show (q + 1).toNat = q.toNat + 1 by omega]
            exact ho9
          have HB9 : Hid (Below w.heap.size w w9) := (HB7.out.alloc HB7.out.size _).grown hg9 (by simp; omega) (fun k hk => (OW7.out.lt k hk).1)
          clear ho9 hg9 f0 f1 fr d0 d1
          go_wp2
          go_roundw
          case rel => exact ⟨q + 1, by omega, by omega, rfl, HU1.out, OW9.out, HB9.out⟩
          case measure => simp [intOf]; omega
      · have hc : t < c := by omega
        by_cases hyc : c ≤ y
        · by_cases ho : k < c + share zs q.toNat m
          · by_cases hu : k < c
            · rw [gr_a hz hc hyc m] at hwn hgr
              generalize wn zs q.toNat y m k = V at *
              generalize share zs q.toNat m = SM at *
              generalize share zs q.toNat (min y m) = G at *
              have hV : V = c := by omega
              rw [hV] at HT
              have hw1 : IntKind.i64.wrap (c + SM) = c + SM := by rw [IntKind.wrap_i64]; omega
              clear hwn hgr hsh hgd hz hV
              go_wp2_with fail
              refine Calls.mono (BY.out _) ?_
              rintro e w3 ⟨rfl, rfl⟩
              go_wp2_with fail
              refine Calls.mono (SQ.out _ HB.out) ?_
              rintro e w3 ⟨rfl, hB⟩
              have HB3 := hidden (HB.out.trans (hB.mono HB.out.size))
              have OW3 := hidden (row_below OW.out hB)
              obtain ⟨d0, d1⟩ := DC.out _ HB3.out
              have dy3 := DY.out _ HB3.out
              clear hB dy
              go_wp2
              go_quiet (fail)
              generalize hW : w3.drewN _ = w4
              have HB4 : Hid (Below w.heap.size w w4) := hW ▸ below_drewn HB3.out _
              have OW4 : Hid (w4.ownsRow w.heap.size 43 2 u10 q.toNat (fc ((gw zs ys m k n2).take q.toNat))) := hW ▸ OW3.out
              clear hW d0 d1 dy3
              obtain ⟨d0, d1⟩ := DC.out _ HB4.out
              have dy4 := DY.out _ HB4.out
              go_wp2_with fail
              go_quiet (fail)
              generalize hW : w4.drewN _ = w5
              have HB5 : Hid (Below w.heap.size w w5) := hW ▸ below_drewn HB4.out _
              have OW5 : Hid (w5.ownsRow w.heap.size 43 2 u10 q.toNat (fc ((gw zs ys m k n2).take q.toNat))) := hW ▸ OW4.out
              clear hW d0 d1 dy4
              obtain ⟨d0, d1⟩ := DC.out _ HB5.out
              have dy5 := DY.out _ HB5.out
              go_wp2_with fail
              refine Calls.mono (AQ.out _ HB5.out) ?_
              rintro e w6 ⟨rfl, hB⟩
              have HB6 := hidden (HB5.out.trans (hB.mono HB5.out.size))
              have OW6 := hidden (row_below OW5.out hB)
              clear d0 d1 dy5
              obtain ⟨d0, d1⟩ := DC.out _ HB6.out
              clear hB
              go_wp2_with fail
              generalize hW : w6.alloc (.cells #[.int .i64 (k), .int .i64 t] 43) = w8
              have HH8 : Hid (Has w8 w6.heap.size #[.int .i64 (k), .int .i64 t] 43) := hW ▸ Has.new _ _ _
              have HB8 : Hid (Below w.heap.size w w8) := hW ▸ HB6.out.alloc HB6.out.size _
              have OW8 : Hid (w8.ownsRow w.heap.size 43 2 u10 q.toNat (fc ((gw zs ys m k n2).take q.toNat))) := hW ▸ OW6.out.alloc _
              have f0 := HH8.out.cell 0 rfl
              clear hW d0 d1
              obtain ⟨d0, d1⟩ := DC.out _ HB8.out
              go_quiet (fail)
              generalize hW : w8.drewN _ = w7
              have HH7 : Hid (Has w7 w6.heap.size #[.int .i64 (k), .int .i64 t] 43) := hW ▸ HH8.out
              have HB7 : Hid (Below w.heap.size w w7) := hW ▸ below_drewn HB8.out _
              have OW7 : Hid (w7.ownsRow w.heap.size 43 2 u10 q.toNat (fc ((gw zs ys m k n2).take q.toNat))) := hW ▸ OW8.out
              clear hW f0 d0 d1 OW8 HB8 HH8
              have f0 := HH7.out.cell 0 rfl
              have f1 := HH7.out.cell 1 rfl
              have fr := HH7.out.frozen 0
              have hlt := HH7.out.lt
              obtain ⟨d0, d1⟩ := DC.out _ HB7.out
              have hne : ¬ b = w6.heap.size := by have := HB6.out.size; omega
              have OW8 : Hid ((w7.setCell ⟨w6.heap.size, 0, none⟩ (.int .i64 c)).ownsRow w.heap.size 43 2 u10 q.toNat (fc ((gw zs ys m k n2).take q.toNat))) := Ba.own_stay OW7.out (Only.setCell (F := [w6.heap.size]) w7 (by simp) _) (fun k hk => by have := (OW6.out.lt k hk).2; simp; omega)
              have HB8 : Hid (Below w.heap.size w (w7.setCell ⟨w6.heap.size, 0, none⟩ (.int .i64 c))) := HB7.out.setCell HB6.out.size _
              have hs8 : w.heap.size ≤ w7.heap.size := HB7.out.size
              go_wp2_with (first | (at_builtin; refine wpList_append_own _ rfl _ _ 22 rfl w.heap.size 43 i0 (.agg #[.int .i64 0, .int .i64 0]) 2 16 Try.underlying22 hi hz0 hz1 hz2 rfl (by decide) _ _ _ rfl (OW8.out.alloc _) ⟨w7.heap.size, 0, none⟩ 1 1 [.int .i64 (c), .int .i64 t] rfl rfl (cells2n (w := (w7.setCell ⟨w6.heap.size, 0, none⟩ (.int .i64 c))) (size_set _ _ _) _ _ 43) ?c2 ?c3 ?c4 ?c5 ?_) | go_in)
              case c2 =>
                intro u hu
                simp only [List.mem_cons, List.not_mem_nil, or_false] at hu
                rcases hu with rfl | rfl <;> rfl
              case c3 => unfold maxLen; omega
              case c4 => omega
              case c5 => simp; omega
              intro v' w9 ho9 hg9 _
              have OW9 : Hid (w9.ownsRow w.heap.size 43 2 v' (q + 1).toNat (fc ((gw zs ys m k n2).take (q + 1).toNat))) := by
                show w9.ownsRow w.heap.size 43 2 v' (q + 1).toNat (fc ((gw zs ys m k n2).take (q + 1).toNat))
                rw [HT.out, fc_app, show (q + 1).toNat = q.toNat + 1 by omega]
                exact ho9
              have HB9 : Hid (Below w.heap.size w w9) := (HB8.out.alloc HB8.out.size _).grown hg9 (by simp; omega) (fun k hk => (OW8.out.lt k hk).1)
              clear ho9 hg9 f0 f1 fr d0 d1
              go_wp2
              go_roundw
              case rel => exact ⟨q + 1, by omega, by omega, rfl, HU1.out, OW9.out, HB9.out⟩
              case measure => simp [intOf]; omega
            · rw [gr_a hz hc hyc m] at hwn hgr
              generalize wn zs q.toNat y m k = V at *
              generalize share zs q.toNat m = SM at *
              generalize share zs q.toNat (min y m) = G at *
              have hV : V = k := by omega
              rw [hV] at HT
              have hw1 : IntKind.i64.wrap (c + SM) = c + SM := by rw [IntKind.wrap_i64]; omega
              clear hwn hgr hsh hgd hz hV
              go_wp2_with fail
              refine Calls.mono (BY.out _) ?_
              rintro e w3 ⟨rfl, rfl⟩
              go_wp2_with fail
              refine Calls.mono (SQ.out _ HB.out) ?_
              rintro e w3 ⟨rfl, hB⟩
              have HB3 := hidden (HB.out.trans (hB.mono HB.out.size))
              have OW3 := hidden (row_below OW.out hB)
              obtain ⟨d0, d1⟩ := DC.out _ HB3.out
              have dy3 := DY.out _ HB3.out
              clear hB dy
              go_wp2
              go_quiet (fail)
              generalize hW : w3.drewN _ = w4
              have HB4 : Hid (Below w.heap.size w w4) := hW ▸ below_drewn HB3.out _
              have OW4 : Hid (w4.ownsRow w.heap.size 43 2 u10 q.toNat (fc ((gw zs ys m k n2).take q.toNat))) := hW ▸ OW3.out
              clear hW d0 d1 dy3
              obtain ⟨d0, d1⟩ := DC.out _ HB4.out
              have dy4 := DY.out _ HB4.out
              go_wp2_with fail
              go_quiet (fail)
              generalize hW : w4.drewN _ = w5
              have HB5 : Hid (Below w.heap.size w w5) := hW ▸ below_drewn HB4.out _
              have OW5 : Hid (w5.ownsRow w.heap.size 43 2 u10 q.toNat (fc ((gw zs ys m k n2).take q.toNat))) := hW ▸ OW4.out
              clear hW d0 d1 dy4
              obtain ⟨d0, d1⟩ := DC.out _ HB5.out
              have dy5 := DY.out _ HB5.out
              go_wp2_with fail
              refine Calls.mono (AQ.out _ HB5.out) ?_
              rintro e w6 ⟨rfl, hB⟩
              have HB6 := hidden (HB5.out.trans (hB.mono HB5.out.size))
              have OW6 := hidden (row_below OW5.out hB)
              clear d0 d1 dy5
              obtain ⟨d0, d1⟩ := DC.out _ HB6.out
              clear hB
              go_wp2_with fail
              generalize hW : w6.alloc (.cells #[.int .i64 (k), .int .i64 t] 43) = w8
              have HH8 : Hid (Has w8 w6.heap.size #[.int .i64 (k), .int .i64 t] 43) := hW ▸ Has.new _ _ _
              have HB8 : Hid (Below w.heap.size w w8) := hW ▸ HB6.out.alloc HB6.out.size _
              have OW8 : Hid (w8.ownsRow w.heap.size 43 2 u10 q.toNat (fc ((gw zs ys m k n2).take q.toNat))) := hW ▸ OW6.out.alloc _
              have f0 := HH8.out.cell 0 rfl
              clear hW d0 d1
              obtain ⟨d0, d1⟩ := DC.out _ HB8.out
              go_quiet (fail)
              generalize hW : w8.drewN _ = w7
              have HH7 : Hid (Has w7 w6.heap.size #[.int .i64 (k), .int .i64 t] 43) := hW ▸ HH8.out
              have HB7 : Hid (Below w.heap.size w w7) := hW ▸ below_drewn HB8.out _
              have OW7 : Hid (w7.ownsRow w.heap.size 43 2 u10 q.toNat (fc ((gw zs ys m k n2).take q.toNat))) := hW ▸ OW8.out
              clear hW f0 d0 d1 OW8 HB8 HH8
              have f0 := HH7.out.cell 0 rfl
              have f1 := HH7.out.cell 1 rfl
              have fr := HH7.out.frozen 0
              have hlt := HH7.out.lt
              obtain ⟨d0, d1⟩ := DC.out _ HB7.out
              have hs8 : w.heap.size ≤ w7.heap.size := HB7.out.size
              go_wp2_with (first | (at_builtin; refine wpList_append_own _ rfl _ _ 22 rfl w.heap.size 43 i0 (.agg #[.int .i64 0, .int .i64 0]) 2 16 Try.underlying22 hi hz0 hz1 hz2 rfl (by decide) _ _ _ rfl (OW7.out.alloc _) ⟨w7.heap.size, 0, none⟩ 1 1 [.int .i64 (k), .int .i64 t] rfl rfl (cells2n (w := w7) rfl _ _ 43) ?c2 ?c3 ?c4 ?c5 ?_) | go_in)
              case c2 =>
                intro u hu
                simp only [List.mem_cons, List.not_mem_nil, or_false] at hu
                rcases hu with rfl | rfl <;> rfl
              case c3 => unfold maxLen; omega
              case c4 => omega
              case c5 => simp; omega
              intro v' w9 ho9 hg9 _
              have OW9 : Hid (w9.ownsRow w.heap.size 43 2 v' (q + 1).toNat (fc ((gw zs ys m k n2).take (q + 1).toNat))) := by
                show w9.ownsRow w.heap.size 43 2 v' (q + 1).toNat (fc ((gw zs ys m k n2).take (q + 1).toNat))
                rw [HT.out, fc_app, show (q + 1).toNat = q.toNat + 1 by omega]
                exact ho9
              have HB9 : Hid (Below w.heap.size w w9) := (HB7.out.alloc HB7.out.size _).grown hg9 (by simp; omega) (fun k hk => (OW7.out.lt k hk).1)
              clear ho9 hg9 f0 f1 fr d0 d1
              go_wp2
              go_roundw
              case rel => exact ⟨q + 1, by omega, by omega, rfl, HU1.out, OW9.out, HB9.out⟩
              case measure => simp [intOf]; omega
          · rw [gr_a hz hc hyc m] at hwn hgr
            generalize wn zs q.toNat y m k = V at *
            generalize share zs q.toNat m = SM at *
            generalize share zs q.toNat (min y m) = G at *
            have hV : V = c + SM := by omega
            rw [hV] at HT
            have hw1 : IntKind.i64.wrap (c + SM) = c + SM := by rw [IntKind.wrap_i64]; omega
            have hG : ¬ c + SM < c := by omega
            clear hwn hgr hsh hgd hz hV
            go_wp2_with fail
            refine Calls.mono (BY.out _) ?_
            rintro e w3 ⟨rfl, rfl⟩
            go_wp2_with fail
            refine Calls.mono (SQ.out _ HB.out) ?_
            rintro e w3 ⟨rfl, hB⟩
            have HB3 := hidden (HB.out.trans (hB.mono HB.out.size))
            have OW3 := hidden (row_below OW.out hB)
            obtain ⟨d0, d1⟩ := DC.out _ HB3.out
            have dy3 := DY.out _ HB3.out
            clear hB dy
            go_wp2
            go_quiet (fail)
            generalize hW : w3.drewN _ = w4
            have HB4 : Hid (Below w.heap.size w w4) := hW ▸ below_drewn HB3.out _
            have OW4 : Hid (w4.ownsRow w.heap.size 43 2 u10 q.toNat (fc ((gw zs ys m k n2).take q.toNat))) := hW ▸ OW3.out
            clear hW d0 d1 dy3
            obtain ⟨d0, d1⟩ := DC.out _ HB4.out
            have dy4 := DY.out _ HB4.out
            go_wp2_with fail
            go_quiet (fail)
            generalize hW : w4.drewN _ = w5
            have HB5 : Hid (Below w.heap.size w w5) := hW ▸ below_drewn HB4.out _
            have OW5 : Hid (w5.ownsRow w.heap.size 43 2 u10 q.toNat (fc ((gw zs ys m k n2).take q.toNat))) := hW ▸ OW4.out
            clear hW d0 d1 dy4
            obtain ⟨d0, d1⟩ := DC.out _ HB5.out
            have dy5 := DY.out _ HB5.out
            go_wp2_with fail
            refine Calls.mono (AQ.out _ HB5.out) ?_
            rintro e w6 ⟨rfl, hB⟩
            have HB6 := hidden (HB5.out.trans (hB.mono HB5.out.size))
            have OW6 := hidden (row_below OW5.out hB)
            clear d0 d1 dy5
            obtain ⟨d0, d1⟩ := DC.out _ HB6.out
            clear hB
            go_wp2_with fail
            generalize hW : w6.alloc (.cells #[.int .i64 (c + SM), .int .i64 t] 43) = w8
            have HH8 : Hid (Has w8 w6.heap.size #[.int .i64 (c + SM), .int .i64 t] 43) := hW ▸ Has.new _ _ _
            have HB8 : Hid (Below w.heap.size w w8) := hW ▸ HB6.out.alloc HB6.out.size _
            have OW8 : Hid (w8.ownsRow w.heap.size 43 2 u10 q.toNat (fc ((gw zs ys m k n2).take q.toNat))) := hW ▸ OW6.out.alloc _
            have f0 := HH8.out.cell 0 rfl
            clear hW d0 d1
            obtain ⟨d0, d1⟩ := DC.out _ HB8.out
            go_quiet (fail)
            generalize hW : w8.drewN _ = w7
            have HH7 : Hid (Has w7 w6.heap.size #[.int .i64 (c + SM), .int .i64 t] 43) := hW ▸ HH8.out
            have HB7 : Hid (Below w.heap.size w w7) := hW ▸ below_drewn HB8.out _
            have OW7 : Hid (w7.ownsRow w.heap.size 43 2 u10 q.toNat (fc ((gw zs ys m k n2).take q.toNat))) := hW ▸ OW8.out
            clear hW f0 d0 d1 OW8 HB8 HH8
            have f0 := HH7.out.cell 0 rfl
            have f1 := HH7.out.cell 1 rfl
            have fr := HH7.out.frozen 0
            have hlt := HH7.out.lt
            obtain ⟨d0, d1⟩ := DC.out _ HB7.out
            have hs8 : w.heap.size ≤ w7.heap.size := HB7.out.size
            go_wp2_with (first | (at_builtin; refine wpList_append_own _ rfl _ _ 22 rfl w.heap.size 43 i0 (.agg #[.int .i64 0, .int .i64 0]) 2 16 Try.underlying22 hi hz0 hz1 hz2 rfl (by decide) _ _ _ rfl (OW7.out.alloc _) ⟨w7.heap.size, 0, none⟩ 1 1 [.int .i64 (c + SM), .int .i64 t] rfl rfl (cells2n (w := w7) rfl _ _ 43) ?c2 ?c3 ?c4 ?c5 ?_) | go_in)
            case c2 =>
              intro u hu
              simp only [List.mem_cons, List.not_mem_nil, or_false] at hu
              rcases hu with rfl | rfl <;> rfl
            case c3 => unfold maxLen; omega
            case c4 => omega
            case c5 => simp; omega
            intro v' w9 ho9 hg9 _
            have OW9 : Hid (w9.ownsRow w.heap.size 43 2 v' (q + 1).toNat (fc ((gw zs ys m k n2).take (q + 1).toNat))) := by
              show w9.ownsRow w.heap.size 43 2 v' (q + 1).toNat (fc ((gw zs ys m k n2).take (q + 1).toNat))
              rw [HT.out, fc_app, show (q + 1).toNat = q.toNat + 1 by omega]
              exact ho9
            have HB9 : Hid (Below w.heap.size w w9) := (HB7.out.alloc HB7.out.size _).grown hg9 (by simp; omega) (fun k hk => (OW7.out.lt k hk).1)
            clear ho9 hg9 f0 f1 fr d0 d1
            go_wp2
            go_roundw
            case rel => exact ⟨q + 1, by omega, by omega, rfl, HU1.out, OW9.out, HB9.out⟩
            case measure => simp [intOf]; omega
        · have hyc : y < c := by omega
          by_cases ho : k < c
          · by_cases hu : k < c
            · rw [gr_n hz hc hyc m] at hwn hgr
              generalize wn zs q.toNat y m k = V at *
              generalize share zs q.toNat m = SM at *
              generalize share zs q.toNat (min y m) = G at *
              have hV : V = c := by omega
              rw [hV] at HT
              have hw1 : IntKind.i64.wrap (c) = c := by rw [IntKind.wrap_i64]; omega
              clear hwn hgr hsh hgd hz hV
              go_wp2_with fail
              refine Calls.mono (BY.out _) ?_
              rintro e w3 ⟨rfl, rfl⟩
              go_wp2_with fail
              refine Calls.mono (SQ.out _ HB.out) ?_
              rintro e w3 ⟨rfl, hB⟩
              have HB3 := hidden (HB.out.trans (hB.mono HB.out.size))
              have OW3 := hidden (row_below OW.out hB)
              obtain ⟨d0, d1⟩ := DC.out _ HB3.out
              have dy3 := DY.out _ HB3.out
              clear hB dy
              go_wp2
              go_quiet (fail)
              generalize hW : w3.drewN _ = w4
              have HB4 : Hid (Below w.heap.size w w4) := hW ▸ below_drewn HB3.out _
              have OW4 : Hid (w4.ownsRow w.heap.size 43 2 u10 q.toNat (fc ((gw zs ys m k n2).take q.toNat))) := hW ▸ OW3.out
              clear hW d0 d1 dy3
              obtain ⟨d0, d1⟩ := DC.out _ HB4.out
              have dy4 := DY.out _ HB4.out
              go_wp2_with fail
              go_quiet (fail)
              generalize hW : w4.drewN _ = w5
              have HB5 : Hid (Below w.heap.size w w5) := hW ▸ below_drewn HB4.out _
              have OW5 : Hid (w5.ownsRow w.heap.size 43 2 u10 q.toNat (fc ((gw zs ys m k n2).take q.toNat))) := hW ▸ OW4.out
              clear hW d0 d1 dy4
              obtain ⟨d0, d1⟩ := DC.out _ HB5.out
              have dy5 := DY.out _ HB5.out
              go_wp2_with fail
              generalize hW : w5.alloc (.cells #[.int .i64 (k), .int .i64 t] 43) = w8
              have HH8 : Hid (Has w8 w5.heap.size #[.int .i64 (k), .int .i64 t] 43) := hW ▸ Has.new _ _ _
              have HB8 : Hid (Below w.heap.size w w8) := hW ▸ HB5.out.alloc HB5.out.size _
              have OW8 : Hid (w8.ownsRow w.heap.size 43 2 u10 q.toNat (fc ((gw zs ys m k n2).take q.toNat))) := hW ▸ OW5.out.alloc _
              have f0 := HH8.out.cell 0 rfl
              clear hW d0 d1
              obtain ⟨d0, d1⟩ := DC.out _ HB8.out
              go_quiet (fail)
              generalize hW : w8.drewN _ = w7
              have HH7 : Hid (Has w7 w5.heap.size #[.int .i64 (k), .int .i64 t] 43) := hW ▸ HH8.out
              have HB7 : Hid (Below w.heap.size w w7) := hW ▸ below_drewn HB8.out _
              have OW7 : Hid (w7.ownsRow w.heap.size 43 2 u10 q.toNat (fc ((gw zs ys m k n2).take q.toNat))) := hW ▸ OW8.out
              clear hW f0 d0 d1 OW8 HB8 HH8
              have f0 := HH7.out.cell 0 rfl
              have f1 := HH7.out.cell 1 rfl
              have fr := HH7.out.frozen 0
              have hlt := HH7.out.lt
              obtain ⟨d0, d1⟩ := DC.out _ HB7.out
              have hne : ¬ b = w5.heap.size := by have := HB5.out.size; omega
              have OW8 : Hid ((w7.setCell ⟨w5.heap.size, 0, none⟩ (.int .i64 c)).ownsRow w.heap.size 43 2 u10 q.toNat (fc ((gw zs ys m k n2).take q.toNat))) := Ba.own_stay OW7.out (Only.setCell (F := [w5.heap.size]) w7 (by simp) _) (fun k hk => by have := (OW5.out.lt k hk).2; simp; omega)
              have HB8 : Hid (Below w.heap.size w (w7.setCell ⟨w5.heap.size, 0, none⟩ (.int .i64 c))) := HB7.out.setCell HB5.out.size _
              have hs8 : w.heap.size ≤ w7.heap.size := HB7.out.size
              go_wp2_with (first | (at_builtin; refine wpList_append_own _ rfl _ _ 22 rfl w.heap.size 43 i0 (.agg #[.int .i64 0, .int .i64 0]) 2 16 Try.underlying22 hi hz0 hz1 hz2 rfl (by decide) _ _ _ rfl (OW8.out.alloc _) ⟨w7.heap.size, 0, none⟩ 1 1 [.int .i64 (c), .int .i64 t] rfl rfl (cells2n (w := (w7.setCell ⟨w5.heap.size, 0, none⟩ (.int .i64 c))) (size_set _ _ _) _ _ 43) ?c2 ?c3 ?c4 ?c5 ?_) | go_in)
              case c2 =>
                intro u hu
                simp only [List.mem_cons, List.not_mem_nil, or_false] at hu
                rcases hu with rfl | rfl <;> rfl
              case c3 => unfold maxLen; omega
              case c4 => omega
              case c5 => simp; omega
              intro v' w9 ho9 hg9 _
              have OW9 : Hid (w9.ownsRow w.heap.size 43 2 v' (q + 1).toNat (fc ((gw zs ys m k n2).take (q + 1).toNat))) := by
                show w9.ownsRow w.heap.size 43 2 v' (q + 1).toNat (fc ((gw zs ys m k n2).take (q + 1).toNat))
                rw [HT.out, fc_app, show (q + 1).toNat = q.toNat + 1 by omega]
                exact ho9
              have HB9 : Hid (Below w.heap.size w w9) := (HB8.out.alloc HB8.out.size _).grown hg9 (by simp; omega) (fun k hk => (OW8.out.lt k hk).1)
              clear ho9 hg9 f0 f1 fr d0 d1
              go_wp2
              go_roundw
              case rel => exact ⟨q + 1, by omega, by omega, rfl, HU1.out, OW9.out, HB9.out⟩
              case measure => simp [intOf]; omega
            · exact absurd ho hu
          · rw [gr_n hz hc hyc m] at hwn hgr
            generalize wn zs q.toNat y m k = V at *
            generalize share zs q.toNat m = SM at *
            generalize share zs q.toNat (min y m) = G at *
            have hV : V = c := by omega
            rw [hV] at HT
            have hw1 : IntKind.i64.wrap (c) = c := by rw [IntKind.wrap_i64]; omega
            clear hwn hgr hsh hgd hz hV
            go_wp2_with fail
            refine Calls.mono (BY.out _) ?_
            rintro e w3 ⟨rfl, rfl⟩
            go_wp2_with fail
            refine Calls.mono (SQ.out _ HB.out) ?_
            rintro e w3 ⟨rfl, hB⟩
            have HB3 := hidden (HB.out.trans (hB.mono HB.out.size))
            have OW3 := hidden (row_below OW.out hB)
            obtain ⟨d0, d1⟩ := DC.out _ HB3.out
            have dy3 := DY.out _ HB3.out
            clear hB dy
            go_wp2
            go_quiet (fail)
            generalize hW : w3.drewN _ = w4
            have HB4 : Hid (Below w.heap.size w w4) := hW ▸ below_drewn HB3.out _
            have OW4 : Hid (w4.ownsRow w.heap.size 43 2 u10 q.toNat (fc ((gw zs ys m k n2).take q.toNat))) := hW ▸ OW3.out
            clear hW d0 d1 dy3
            obtain ⟨d0, d1⟩ := DC.out _ HB4.out
            have dy4 := DY.out _ HB4.out
            go_wp2_with fail
            go_quiet (fail)
            generalize hW : w4.drewN _ = w5
            have HB5 : Hid (Below w.heap.size w w5) := hW ▸ below_drewn HB4.out _
            have OW5 : Hid (w5.ownsRow w.heap.size 43 2 u10 q.toNat (fc ((gw zs ys m k n2).take q.toNat))) := hW ▸ OW4.out
            clear hW d0 d1 dy4
            obtain ⟨d0, d1⟩ := DC.out _ HB5.out
            have dy5 := DY.out _ HB5.out
            go_wp2_with fail
            generalize hW : w5.alloc (.cells #[.int .i64 (c), .int .i64 t] 43) = w8
            have HH8 : Hid (Has w8 w5.heap.size #[.int .i64 (c), .int .i64 t] 43) := hW ▸ Has.new _ _ _
            have HB8 : Hid (Below w.heap.size w w8) := hW ▸ HB5.out.alloc HB5.out.size _
            have OW8 : Hid (w8.ownsRow w.heap.size 43 2 u10 q.toNat (fc ((gw zs ys m k n2).take q.toNat))) := hW ▸ OW5.out.alloc _
            have f0 := HH8.out.cell 0 rfl
            clear hW d0 d1
            obtain ⟨d0, d1⟩ := DC.out _ HB8.out
            go_quiet (fail)
            generalize hW : w8.drewN _ = w7
            have HH7 : Hid (Has w7 w5.heap.size #[.int .i64 (c), .int .i64 t] 43) := hW ▸ HH8.out
            have HB7 : Hid (Below w.heap.size w w7) := hW ▸ below_drewn HB8.out _
            have OW7 : Hid (w7.ownsRow w.heap.size 43 2 u10 q.toNat (fc ((gw zs ys m k n2).take q.toNat))) := hW ▸ OW8.out
            clear hW f0 d0 d1 OW8 HB8 HH8
            have f0 := HH7.out.cell 0 rfl
            have f1 := HH7.out.cell 1 rfl
            have fr := HH7.out.frozen 0
            have hlt := HH7.out.lt
            obtain ⟨d0, d1⟩ := DC.out _ HB7.out
            have hs8 : w.heap.size ≤ w7.heap.size := HB7.out.size
            go_wp2_with (first | (at_builtin; refine wpList_append_own _ rfl _ _ 22 rfl w.heap.size 43 i0 (.agg #[.int .i64 0, .int .i64 0]) 2 16 Try.underlying22 hi hz0 hz1 hz2 rfl (by decide) _ _ _ rfl (OW7.out.alloc _) ⟨w7.heap.size, 0, none⟩ 1 1 [.int .i64 (c), .int .i64 t] rfl rfl (cells2n (w := w7) rfl _ _ 43) ?c2 ?c3 ?c4 ?c5 ?_) | go_in)
            case c2 =>
              intro u hu
              simp only [List.mem_cons, List.not_mem_nil, or_false] at hu
              rcases hu with rfl | rfl <;> rfl
            case c3 => unfold maxLen; omega
            case c4 => omega
            case c5 => simp; omega
            intro v' w9 ho9 hg9 _
            have OW9 : Hid (w9.ownsRow w.heap.size 43 2 v' (q + 1).toNat (fc ((gw zs ys m k n2).take (q + 1).toNat))) := by
              show w9.ownsRow w.heap.size 43 2 v' (q + 1).toNat (fc ((gw zs ys m k n2).take (q + 1).toNat))
              rw [HT.out, fc_app, show (q + 1).toNat = q.toNat + 1 by omega]
              exact ho9
            have HB9 : Hid (Below w.heap.size w w9) := (HB7.out.alloc HB7.out.size _).grown hg9 (by simp; omega) (fun k hk => (OW7.out.lt k hk).1)
            clear ho9 hg9 f0 f1 fr d0 d1
            go_wp2
            go_roundw
            case rel => exact ⟨q + 1, by omega, by omega, rfl, HU1.out, OW9.out, HB9.out⟩
            case measure => simp [intOf]; omega
    · obtain rfl : q = (n2 : Int) := by omega
      have OE : Hid (wr.ownsRow w.heap.size 43 2 u10 n2 (fc (gw zs ys m k n2))) := by
        have := OW.out
        rw [Int.toNat_natCast, List.take_of_length_le (by rw [gw_len]; exact Nat.le_of_eq HL.out)] at this
        exact this
      have HG := hidden (ge_ok HK.out (ys := ys) (k := k) ⟨HLN.out, HKK.out, HU.out.all (by rw [HLN.out]; exact HL.out)⟩)
      go_wp2
      go_ret2
      exact ⟨_, by rw [HG.out.1]; rfl, by rw [HG.out.2, gw_len, HL.out]; exact OE.out, HB.out⟩
theorem rGrown_arg (h : Fl w a n zs) (h2 : Nu w a2 n2 ys) {m : Int} (hk : okF zs m) {k : Int} (hw : ¬ (ys.length = zs.length ∧ (1 ≤ k ∧ k ≤ 1073741824))) : Calls Try.prog 21 #[.slice a n cap, .slice a2 n2 cap2, .int .i64 m, .int .i64 k] w fun e w' => e = .returned (.tuple #[.slice none 0 0, .int .i64 1]) ∧ Below w.heap.size w w' := by
  have hl := h.len
  have hl2 : ys.length = n2 := h2.1
  have hn2 : n2 ≤ 140737488355328 := h2.2.2.1
  have hn : n ≤ 140737488355328 := h.2.2.1
  have CK := hidden (rCheck (cap := cap) h m)
  rw [chk_ok hk] at CK
  by_cases e : n2 = n
  · subst e
    have WK := hidden (rWindow_f (n := k) fun h => hw ⟨by omega, h⟩)
    clear h h2 hk hl hl2 hw
    go_enter Try.func21, Try.ntmps21
    go_wp2_with fail
    refine Calls.mono CK.out ?_
    rintro e w1 ⟨rfl, hB⟩
    have HB1 := hidden hB
    clear hB CK
    go_wp2_with fail
    refine Calls.mono (WK.out _) ?_
    rintro e w2 ⟨rfl, rfl⟩
    go_wp2
    go_ret2
    exact ⟨rfl, HB1.out⟩
  · have e1 : ¬ ((n2 : Int) = (n : Int)) := by omega
    clear h h2 hk hl hl2 hw e
    go_enter Try.func21, Try.ntmps21
    go_wp2_with fail
    refine Calls.mono CK.out ?_
    rintro e w1 ⟨rfl, hB⟩
    have HB1 := hidden hB
    clear hB CK
    go_wp2
    go_ret2
    exact ⟨rfl, HB1.out⟩
theorem rGrown_no (h : Fl w a n zs) {m : Int} (hk : ¬ okF zs m) (k : Int) : Calls Try.prog 21 #[.slice a n cap, .slice a2 n2 cap2, .int .i64 m, .int .i64 k] w fun e w' => e = .returned (.tuple #[.slice none 0 0, .int .i64 130]) ∧ Below w.heap.size w w' := by
  have CK := hidden (rCheck (cap := cap) h m)
  rw [chk_no hk] at CK
  clear h hk
  go_enter Try.func21, Try.ntmps21
  go_wp2_with fail
  refine Calls.mono CK.out ?_
  rintro e w1 ⟨rfl, hB⟩
  have HB1 := hidden hB
  clear hB CK
  go_wp2
  go_ret2
  exact ⟨rfl, HB1.out⟩
theorem rGrown (h : Fl w a n zs) (h2 : Nu w a2 n2 ys) (m k : Int) : Calls Try.prog 21 #[.slice a n cap, .slice a2 n2 cap2, .int .i64 m, .int .i64 k] w fun e w' => ∃ v, e = .returned (.tuple #[v, .int .i64 (ge zs ys m k)]) ∧ w'.ownsRow w.heap.size 43 2 v (gl zs ys m k).length (fc (gl zs ys m k)) ∧ Below w.heap.size w w' := by
  by_cases hk : okF zs m
  · by_cases hw : ys.length = zs.length ∧ (1 ≤ k ∧ k ≤ 1073741824)
    · exact rGrown_ok h h2 hk hw.1 hw.2
    · obtain ⟨e1, e2⟩ := ge_arg hk (ys := ys) (k := k) fun h => hw ⟨h.1, h.2.1⟩
      rw [e1, e2]
      exact (rGrown_arg h h2 hk hw).mono (by rintro e w' ⟨rfl, hB⟩; exact ⟨_, rfl, World.ownsRow_nil _ _ _ _, hB⟩)
  · obtain ⟨e1, e2⟩ := ge_no hk ys k
    rw [e1, e2]
    exact (rGrown_no h hk k).mono (by rintro e w' ⟨rfl, hB⟩; exact ⟨_, rfl, World.ownsRow_nil _ _ _ _, hB⟩)
end
theorem rSame {w : World} {B1 B2 : Nat} {v1 v2 : Value} {L : List Fw} (h1 : w.ownsRow B1 43 2 v1 L.length (fc L)) (h2 : w.ownsRow B2 43 2 v2 L.length (fc L)) (h8 : L.length ≤ 8) : Calls Try.prog 22 #[v1, v2] w fun e w' => e = .returned (.bool true) ∧ Below w.heap.size w w' := by
  have H1 := hidden h1
  have H2 := hidden h2
  have HLn : Hid (L.length = L.length) := rfl
  obtain ⟨a1, c1, rfl⟩ := Ba.own_len h1
  obtain ⟨a2, c2, rfl⟩ := Ba.own_len h2
  have HC : Hid (∀ W, Below w.heap.size w W → ∀ q : Nat, q < L.length → ∃ g1 g2 c t, a1 = some ⟨g1, 0, none⟩ ∧ a2 = some ⟨g2, 0, none⟩ ∧ W.cell? ⟨g1, q * 2, none⟩ = some (.int .i64 c) ∧ W.cell? ⟨g1, q * 2 + 1, none⟩ = some (.int .i64 t) ∧ W.cell? ⟨g2, q * 2, none⟩ = some (.int .i64 c) ∧ W.cell? ⟨g2, q * 2 + 1, none⟩ = some (.int .i64 t)) := fun W hW q hq => by
    obtain ⟨g1, k1, e1, _⟩ := Ba.own_some h1 (by omega)
    obtain ⟨g2, k2, e2, _⟩ := Ba.own_some h2 (by omega)
    cases e1
    cases e2
    obtain ⟨c, t, hz⟩ := get_ hq
    obtain ⟨f0, f1⟩ := fc_c L q hz
    have r1 := row_below h1 hW
    have r2 := row_below h2 hW
    exact ⟨g1, g2, c, t, rfl, rfl, (r1.cellAt _ (by omega)).trans f0, (r1.cellAt _ (by omega)).trans f1, (r2.cellAt _ (by omega)).trans f0, (r2.cellAt _ (by omega)).trans f1⟩
  generalize L.length = n at *
  clear h1 h2 H1 H2 HLn
  go_enter Try.func22, Try.ntmps22
  go_wp2_with fail
  go_loopw [5] (fun i wr => ∃ q : Int, 0 ≤ q ∧ q ≤ (n : Int) ∧ i = .int .i64 q ∧ Hid (Below w.heap.size w wr)) (fun i _ => n - (intOf i).toNat)
  case atStart => exact ⟨0, by omega, by omega, rfl, Below.refl _ _⟩
  case round =>
    obtain ⟨q, j1, j2, rfl, HB⟩ := hrel
    by_cases hq : q < (n : Int)
    · obtain ⟨g1, g2, c, t, rfl, rfl, d0, d1, e0, e1⟩ := HC.out wr HB.out q.toNat (by omega)
      go_wp2
      go_quiet (fail)
      go_wp2
      go_roundw
      case rel => exact ⟨q + 1, by omega, by omega, rfl, below_drewn HB.out _⟩
      case measure => simp [intOf]; omega
    · obtain rfl : q = (n : Int) := by omega
      go_wp2
      go_ret
      exact ⟨rfl, HB.out⟩
end Go.Proofs.Ytbcdoilfmfckiaa.Co
