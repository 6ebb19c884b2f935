/-
  What Decode of package chunk tells.
  Conditions: the numbers lie within their kinds, the cells hold them.
-/
import Derived.Test.YtifdkpifambhaaaChX
import Derived.Test.YtifdkpifambhaaaChW
namespace Go.Proofs.Ytifdkpifambhaaa.Chu
open Go.ChangeShapes Go.WideShapes Go.ChangeAt Go.RowKit
open Par (hidden Bytes Row Prm Prms cell_lt Cap cells_new cutA thrown form_of)
set_option linter.unusedVariables false
attribute [local go_sem ↓] execOp_ld execOp_bx execOp_st

theorem VOk.nums {c : Ck} (h : VOk (val c)) : Nums c := ⟨h.1, h.2.1, h.2.2.1, h.2.2.2.1, h.2.2.2.2.1, h.2.2.2.2.2.1, h.2.2.2.2.2.2.1, h.2.2.2.2.2.2.2.1, h.2.2.2.2.2.2.2.2.1, h.2.2.2.2.2.2.2.2.2.1⟩
theorem zck_chk (base : Nat) (w : World) : Chk base w (zck 0) := ⟨by simp [Nums, zck], zck_lsts base 0 w⟩
/-- what Decode tells: the chunk, how many bytes are its own, the error -/
def DecR (w : World) (zs : List Int) (w' : World) (c : Ck) (m : Nat) (er : Int) : Prop :=
  (∃ y, Dec zs er y m ∧ (er = 0 → val c = y)) ∧ (er ≠ 0 → c = zck 0 ∧ m = 0) ∧ Chk w.heap.size w' c ∧ Below w.heap.size w w'
theorem cell_res3 {w : World} {B p q r : Nat} {c : Ck} {x y : Value} {fn : Func} (h : fn.results = #[.cell p 37, .tmp q, .tmp r]) (hb : Bx w B c) (tmps : Array Value) (hp : tmps.getD p undef = .pointer (some ⟨B, 0, none⟩)) (hq : tmps.getD q undef = x) (hr : tmps.getD r undef = y) :
    (results fn tmps).run Try.prog w = .ok (.tuple #[cv c, x, y]) w := by
  have hp' : tmps[p]?.getD undef = .pointer (some ⟨B, 0, none⟩) := by simpa using hp
  have hq' : tmps[q]?.getD undef = x := by simpa using hq
  have hr' : tmps[r]?.getD undef = y := by simpa using hr
  simp [results, h, hp', hq', hr', asAddr, hb.load]
set_option maxRecDepth 20000 in
set_option maxHeartbeats 1000000 in
theorem decode (base : Nat) (w : World) (a : Option Addr) (len cap : Nat) (zs : List Int) (hr : Row base w a len zs) (hlc : len ≤ cap) (hnn : a = none → len = 0 ∧ cap = 0) :
    Calls Try.prog 16 #[.slice a len cap] w fun e w' => ∃ c m er, e = .returned (.tuple #[cv c, .int .i64 ((m : Nat) : Int), .int .i64 er]) ∧ DecR w zs w' c m er := by
  have hb1 : Below w.heap.size w ((w.alloc (.cells (cc (zck 0)) 37)).alloc (.cells #[.slice a len cap] 61)) := ((Below.refl _ w).alloc (Nat.le_refl _) _).alloc (by simp) _
  have hR : Rp base w ((w.alloc (.cells (cc (zck 0)) 37)).alloc (.cells #[.slice a len cap] 61)) (w.heap.size + 1) zs 0 := by
    refine ⟨⟨a, len, cap, ?_, by rw [List.drop_zero]; exact hr, hlc, hnn⟩, Nat.zero_le _, hr.2.1, hb1, by omega⟩
    have := heap_alloc_new (w.alloc (.cells (cc (zck 0)) 37)) (.cells #[.slice a len cap] 61)
    rw [World.size_alloc] at this
    exact this
  have hx1 : Bx ((w.alloc (.cells (cc (zck 0)) 37)).alloc (.cells #[.slice a len cap] 61)) w.heap.size (zck 0) := (Bx.new w (zck 0)).alloc _
  have hlim := hr.2.2.1
  have hzl := hr.1
  have HBY := hidden hr.2.1
  have CH := hidden (chunk_ base w _ _ zs hR (by omega))
  have HX1 := hidden hx1
  have HB1 := hidden hb1
  have hsz : ((w.alloc (.cells (cc (zck 0)) 37)).alloc (.cells #[.slice a len cap] 61)).heap.size = w.heap.size + 2 := by simp
  clear hb1 hR hx1 hr
  have hcc : (cc (zck 0)) = #[.int .u8 0, .int .u8 0, .int .u32 0, .int .u16 0, .int .u16 0, .int .u32 0, .int .u32 0, .int .u32 0, .int .u16 0, .int .u16 0, .slice none 0 0, .slice none 0 0, .slice none 0 0, .slice none 0 0, .slice none 0 0] := rfl
  rw [hcc] at CH HX1 HB1 hsz
  clear hcc
  go_enter Try.func16, Try.ntmps16
  go_wp2_with fail
  generalize hW : World.alloc (World.alloc w _) _ = W at *
  clear hW
  refine Calls.mono CH.out ?_
  rintro e w1 ⟨v, rfl, c, er, y, m, rfl, hD, hg, hok⟩
  have hs1 : W.heap.size ≤ w1.heap.size := by obtain ⟨_, _, _, h, _⟩ := hg; exact h
  have hx := HX1.out.grown hg (by omega)
  obtain ⟨W2, hS, hbx, hbw⟩ := newvar w1 c
  have hx2 := hx.later hbw
  have hs2 := hbw.size
  have hgb : Below w.heap.size w W2 := (HB1.out.grown hg (by omega) (fun k hk => by cases hk; omega)).trans (hbw.mono (by omega))
  have HX2 := hidden hx2
  have HGB := hidden hgb
  have HD := hidden hD
  have HOK := hidden hok
  have HBX := hidden hbx
  have HBW := hidden hbw
  clear CH HX1 HB1 hx hx2 hbw hgb hg hD hok hbx
  by_cases he : er = 0
  · subst he
    obtain ⟨hv, hl, hrp⟩ := HOK.out rfl
    obtain ⟨⟨a1, len1, cap1, hh1, hrow1, _, _⟩, hml, _, _, _⟩ := hrp
    have hl1 := hrow1.1
    rw [List.length_drop] at hl1
    have hB2 : W2.heap[w.heap.size + 1]? = some (.cells #[.slice a1 len1 cap1] 61 (0, 0)) := (HBW.out.block _ (by omega)).trans hh1
    have hB3 : (stoW W2 w.heap.size c).heap[w.heap.size + 1]? = some (.cells #[.slice a1 len1 cap1] 61 (0, 0)) := (other_setCells w.heap.size _ (by omega) _ _ _).trans hB2
    have q2 : W2.cell? ⟨w.heap.size + 1, 0, none⟩ = some (.slice a1 len1 cap1) := (rd_c hB2).1
    have q3' : (stoW W2.drew w.heap.size c).cell? ⟨w.heap.size + 1, 0, none⟩ = some (.slice a1 len1 cap1) := (rd_c (w := stoW W2.drew w.heap.size c) ((other_setCells w.heap.size _ (by omega) _ _ _).trans hB2)).1
    have k1 := HBX.out.ld
    have k1' : (ld (.pointer (some ⟨w1.heap.size, 0, none⟩))).run Try.prog W2.drew = .ok (cv c) W2.drew := Bx.ld (w := W2.drew) HBX.out
    have k2' : (sto (.pointer (some ⟨w.heap.size, 0, none⟩)) (cv c)).run Try.prog W2.drew = .ok () (stoW W2.drew w.heap.size c) := sto_run (w := W2.drew) HX2.out c
    have HX3 := hidden (show Bx (stoW W2.drew w.heap.size c) w.heap.size c from stoW_bx (w := W2.drew) HX2.out c)
    have HB3 := hidden (show Below w.heap.size w (stoW W2.drew w.heap.size c) from stoW_below c (Par.below_drewN HGB.out 1) (Nat.le_refl _))
    have HL3 := hidden (show Lsts w.heap.size (stoW W2.drew w.heap.size c) c from by
      have hb := stoW_below c (Below.refl w.heap.size W2.drew) (Nat.le_refl _)
      have l1 : Lsts W.heap.size W2 c := hl.later HBW.out
      have hT : Tch (w.heap.size + 1) w.heap.size W2 (stoW W2.drew w.heap.size c) := ⟨hb.os, hb.tape, hb.output, hb.size, fun k hk _ hC => other_setCells w.heap.size k hC _ _ _⟩
      exact (l1.tch (by omega) (by omega) hT).mono (by omega))
    have HV := hidden hv
    have hsb : (len : Int) - (len1 : Int) = (m : Int) := by omega
    clear hl hrow1 hh1 hB2 hB3 hv
    go_wp2_with fail
    go_region
    all_goals go_wp2
    all_goals
      refine bodyPost_ret (v := .tuple #[cv c, .int .i64 (m : Int), .int .i64 0]) (cell_res3 Try.results16 HX3.out _ rfl (by first | rfl | simp [hsb]) rfl) rfl ⟨c, m, 0, rfl, ⟨y, HD.out, fun _ => HV.out⟩, fun h => absurd rfl h, ⟨?_, HL3.out⟩, HB3.out⟩
      exact VOk.nums (by rw [HV.out]; exact (read_ok zs HBY.out y m HD.out).2.1)
  · have hne := bne_t he
    have hz : (sto (.pointer (some ⟨w.heap.size, 0, none⟩)) (.agg #[.int .u8 0, .int .u8 0, .int .u32 0, .int .u16 0, .int .u16 0, .int .u32 0, .int .u32 0, .int .u32 0, .int .u16 0, .int .u16 0, .slice none 0 0, .slice none 0 0, .slice none 0 0, .slice none 0 0, .slice none 0 0])).run Try.prog W2 = .ok () (stoW W2 w.heap.size (zck 0)) := sto_run HX2.out (zck 0)
    have HZ := hidden (stoW_bx HX2.out (zck 0))
    have HB3 := hidden (stoW_below (zck 0) HGB.out (Nat.le_refl w.heap.size))
    have HE := hidden he
    clear he
    go_wp2
    exact bodyPost_ret (v := .tuple #[cv (zck 0), .int .i64 ((0 : Nat) : Int), .int .i64 er]) (cell_res3 Try.results16 HZ.out _ rfl rfl rfl) rfl ⟨zck 0, 0, er, rfl, ⟨y, by
      rcases HD.out with h | ⟨h1, h2, h3⟩
      · exact .inl h
      · exact .inr ⟨h1, h2, fun h => absurd h HE.out⟩, fun h => absurd h HE.out⟩, fun _ => ⟨rfl, rfl⟩, zck_chk _ _, HB3.out⟩
end Go.Proofs.Ytifdkpifambhaaa.Chu
