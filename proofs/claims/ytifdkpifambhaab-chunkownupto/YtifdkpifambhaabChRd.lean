/-
  The document's reader: a value.
  Conditions: the numbers lie within their kinds, the cells hold them.
-/
import Derived.Test.YtifdkpifambhaabChRc
namespace Go.Proofs.Ytifdkpifambhaab.Chu
open Go.ChangeShapes Go.WideShapes Go.ChangeAt Go.RowKit
open Par (hidden Bytes Row Prm Prms cell_lt Cap cells_new cutA thrown form_of)
set_option linter.unusedVariables false
attribute [local go_sem ↓] execOp_ld execOp_bx execOp_st
attribute [local go_sem] run_box

/-- a chunk of a kind, with flags -/
def kf (k f : Int) : Ck := { zck k with flags := f }
theorem kf_lsts (k f : Int) (nn : Nat) (w : World) : Lsts nn w (kf k f) := zck_lsts nn k w
/-- the result of a callee is stored -/
theorem Ds.sub {w W1 w2 : World} {c1 : Ck} (h : Ds w W1 c1) (hb : Below W1.heap.size W1 w2) (c' : Ck) : (sto (.pointer (some ⟨w.heap.size + 1, 0, none⟩)) (cv c')).run Try.prog w2 = .ok () (stoW w2 (w.heap.size + 1) c') ∧
    Bx (stoW w2 (w.heap.size + 1) c') (w.heap.size + 1) c' ∧ Below w.heap.size w (stoW w2 (w.heap.size + 1) c') ∧ (Lsts W1.heap.size w2 c' → Lsts w.heap.size (stoW w2 (w.heap.size + 1) c') c') := by
  have h2 := h.later hb
  have hbb := stoW_below c' (Below.refl (w.heap.size + 1) w2) (Nat.le_refl _)
  have hT : Tch (w.heap.size + 1) w.heap.size w2 (stoW w2 (w.heap.size + 1) c') := ⟨hbb.os, hbb.tape, hbb.output, hbb.size, fun k hk hB _ => other_setCells (w.heap.size + 1) k hB _ _ _⟩
  have hs := h.2.2.2.1
  exact ⟨sto_run h2.2.1 c', stoW_bx h2.2.1 c', stoW_below c' h2.2.2.1 (by omega), fun hl => (hl.tch (by omega) (by omega) hT).mono (by omega)⟩
theorem RdR.of {w W1 w2 W3 : World} {v : List Int} {k : Int} {x : Ch} {c' : Ck} {er : Int} {y : Ch} (hf : Fil k v x er y) (h : er = 0 → val c' = y ∧ Lsts W1.heap.size w2 c') (hl : Lsts W1.heap.size w2 c' → Lsts w.heap.size W3 c') (hb : Below w.heap.size w W3) : RdR w v k x (.returned (.tuple #[cv c', .int .i64 er])) W3 := ⟨c', er, y, rfl, hf, fun e => ⟨(h e).1, hl (h e).2⟩, hb⟩
theorem fil7_bad {v : List Int} {x : Ch} (h : v.length ≠ 4) (y : Ch) : Fil 7 v x 61 y := by
  unfold Fil
  by_cases hl : v.length < nb 7
  · rw [if_pos hl]
  · rw [if_neg hl, if_neg (by decide), if_pos rfl]
    exact .inl ⟨h, rfl⟩
theorem fil7_ok {v : List Int} {x : Ch} (h : v.length = 4) : Fil 7 v x 0 { x with tsn := n4 v 0 } := by
  have h7 : nb 7 = 4 := rfl
  unfold Fil
  rw [if_neg (by rw [h7]; omega), if_neg (by decide), if_pos rfl]
  exact .inr ⟨h, rfl, rfl⟩
theorem tmod_n (f n : Int) (h : 0 ≤ f) : f.tmod n = f % n := Int.tmod_eq_emod_of_nonneg h
theorem lsts_b {n : Nat} {w : World} {c : Ck} (h : Lsts n w c) {a : Option Addr} {l k : Nat} {xs : List Int} (hp : Row n w a l xs) (hn : a = none → l = 0 ∧ k = 0) : Lsts n w { c with ba := a, bl := l, bc := k, bs := xs } := ⟨h.1, h.2.1, h.2.2.1, hp, hn, h.2.2.2.2.2⟩
set_option maxRecDepth 20000 in
set_option maxHeartbeats 1000000 in
theorem read3 (base : Nat) (w : World) (a : Option Addr) (len cap : Nat) (v : List Int) (f : Int) (hf : 0 ≤ f ∧ f < 256) (hr : Row base w a len v) (hlc : len ≤ cap) (hnn : a = none → len = 0 ∧ cap = 0) :
    Calls Try.prog 17 #[cv (kf 3 f), .slice a len cap] w fun e w' => RdR w v 3 (zch 3 (flg 3 f)) e w' := by
  have S0 := Ds.start w (kf 3 f) (kf_lsts 3 f)
  have hcc : (cc (zck 0)) = #[.int .u8 0, .int .u8 0, .int .u32 0, .int .u16 0, .int .u16 0, .int .u32 0, .int .u32 0, .int .u32 0, .int .u16 0, .int .u16 0, .slice none 0 0, .slice none 0 0, .slice none 0 0, .slice none 0 0, .slice none 0 0] := rfl
  rw [hcc] at S0
  have HS := hidden S0
  have hzl := hr.1
  have hlim := hr.2.2.1
  have HR := hidden hr
  have HBY := hidden hr.2.1
  clear S0 hcc hr
  have hfl : flg 3 f = 0 := by simp [flg]
  rw [hfl]
  go_enter Try.func17, Try.ntmps17
  go_upto_region 1 with fail
  generalize hW : World.alloc (World.alloc w (.cells (cc (kf 3 f)) 39)) _ = W at *
  clear hW
  have q0 : W.cell? ⟨w.heap.size, 0, none⟩ = some (.int .u8 3) := HS.out.1.c0
  have q1 : W.cell? ⟨w.heap.size, 1, none⟩ = some (.int .u8 f) := HS.out.1.c1
  have z1 := HS.out.1.fr 1
  have s1 : Ds w (W.setCell ⟨w.heap.size, 1, none⟩ (.int .u8 0)) (kf 3 0) := HS.out.store (HS.out.1.s1 0) (kf_lsts _ _ _ _)
  have l1 := s1.1.ld
  have HS1 := hidden s1
  clear s1
  go_wp2_with fail
  clear q0 q1 z1 l1
  generalize World.setCell _ ⟨w.heap.size, 1, none⟩ (.int .u8 0) = W1 at *
  refine Calls.mono (rLists3 base W1 a len cap v (kf 3 0) (HR.out.later HS1.out.2.2.1) rfl (kf_lsts _ _) ⟨rfl, rfl, rfl, rfl⟩) ?_
  rintro e w2 ⟨c', er, y, rfl, hF, hok, b2⟩
  obtain ⟨t1, t2, t3, t4⟩ := HS1.out.sub b2 c'
  have T2 := hidden t2
  have T3 := hidden t3
  have T4 := hidden t4
  have HF := hidden hF
  have HOK := hidden hok
  clear t2 t3 t4 hF hok b2
  go_wp2
  exact bodyPost_ret (v := .tuple #[cv c', .int .i64 er]) (cell_res2 Try.results17 T2.out _ rfl rfl) rfl (RdR.of HF.out HOK.out T4.out T3.out)
set_option maxRecDepth 20000 in
set_option maxHeartbeats 1000000 in
theorem read16 (base : Nat) (w : World) (a : Option Addr) (len cap : Nat) (v : List Int) (f : Int) (hf : 0 ≤ f ∧ f < 256) (hr : Row base w a len v) (hlc : len ≤ cap) (hnn : a = none → len = 0 ∧ cap = 0) :
    Calls Try.prog 17 #[cv (kf 16 f), .slice a len cap] w fun e w' => RdR w v 16 (zch 16 (flg 16 f)) e w' := by
  have S0 := Ds.start w (kf 16 f) (kf_lsts 16 f)
  have hcc : (cc (zck 0)) = #[.int .u8 0, .int .u8 0, .int .u32 0, .int .u16 0, .int .u16 0, .int .u32 0, .int .u32 0, .int .u32 0, .int .u16 0, .int .u16 0, .slice none 0 0, .slice none 0 0, .slice none 0 0, .slice none 0 0, .slice none 0 0] := rfl
  rw [hcc] at S0
  have HS := hidden S0
  have hzl := hr.1
  have hlim := hr.2.2.1
  have HR := hidden hr
  have HBY := hidden hr.2.1
  clear S0 hcc hr
  have hfl : flg 16 f = 0 := by simp [flg]
  rw [hfl]
  go_enter Try.func17, Try.ntmps17
  go_upto_region 1 with fail
  generalize hW : World.alloc (World.alloc w (.cells (cc (kf 16 f)) 39)) _ = W at *
  clear hW
  have q0 : W.cell? ⟨w.heap.size, 0, none⟩ = some (.int .u8 16) := HS.out.1.c0
  have q1 : W.cell? ⟨w.heap.size, 1, none⟩ = some (.int .u8 f) := HS.out.1.c1
  have z1 := HS.out.1.fr 1
  have s1 : Ds w (W.setCell ⟨w.heap.size, 1, none⟩ (.int .u8 0)) (kf 16 0) := HS.out.store (HS.out.1.s1 0) (kf_lsts _ _ _ _)
  have l1 := s1.1.ld
  have HS1 := hidden s1
  clear s1
  go_wp2_with fail
  clear q0 q1 z1 l1
  generalize World.setCell _ ⟨w.heap.size, 1, none⟩ (.int .u8 0) = W1 at *
  refine Calls.mono (rLists16 base W1 a len cap v (kf 16 0) (HR.out.later HS1.out.2.2.1) rfl (kf_lsts _ _) ⟨rfl, rfl, rfl, rfl⟩) ?_
  rintro e w2 ⟨c', er, y, rfl, hF, hok, b2⟩
  obtain ⟨t1, t2, t3, t4⟩ := HS1.out.sub b2 c'
  have T2 := hidden t2
  have T3 := hidden t3
  have T4 := hidden t4
  have HF := hidden hF
  have HOK := hidden hok
  clear t2 t3 t4 hF hok b2
  go_wp2
  exact bodyPost_ret (v := .tuple #[cv c', .int .i64 er]) (cell_res2 Try.results17 T2.out _ rfl rfl) rfl (RdR.of HF.out HOK.out T4.out T3.out)
set_option maxRecDepth 20000 in
set_option maxHeartbeats 1000000 in
theorem read4 (base : Nat) (w : World) (a : Option Addr) (len cap : Nat) (v : List Int) (f : Int) (hf : 0 ≤ f ∧ f < 256) (hr : Row base w a len v) (hlc : len ≤ cap) (hnn : a = none → len = 0 ∧ cap = 0) :
    Calls Try.prog 17 #[cv (kf 4 f), .slice a len cap] w fun e w' => RdR w v 4 (zch 4 (flg 4 f)) e w' := by
  have S0 := Ds.start w (kf 4 f) (kf_lsts 4 f)
  have hcc : (cc (zck 0)) = #[.int .u8 0, .int .u8 0, .int .u32 0, .int .u16 0, .int .u16 0, .int .u32 0, .int .u32 0, .int .u32 0, .int .u16 0, .int .u16 0, .slice none 0 0, .slice none 0 0, .slice none 0 0, .slice none 0 0, .slice none 0 0] := rfl
  rw [hcc] at S0
  have HS := hidden S0
  have hzl := hr.1
  have hlim := hr.2.2.1
  have HR := hidden hr
  have HBY := hidden hr.2.1
  clear S0 hcc hr
  have hfl : flg 4 f = 0 := by simp [flg]
  rw [hfl]
  have hFil : ∀ l q cd er y, Par.Out v l q cd → ((cd ≠ 0 ∧ er = cd) ∨ (cd = 0 ∧ ¬ OneBeat l ∧ er = 61) ∨ (cd = 0 ∧ OneBeat l ∧ er = 0 ∧ y = { zch 4 (0) with ps := l })) → Fil 4 v (zch 4 (0)) er y := by
    intro l q cd er y hO h
    unfold Fil
    rw [if_neg (by simp [nb]), if_neg (by decide), if_neg (by decide), if_neg (by decide), if_neg (by decide), if_pos (by decide)]
    exact ⟨l, q, cd, hO, h⟩
  have HFil := hidden hFil
  have hrm : f.tmod 2 = f % 2 := tmod_n f 2 hf.1
  have hw : ∀ z : Int, IntKind.u8.wrap z = z % 256 := fun _ => rfl
  have hw2 : f % 2 % 256 = f % 2 := by omega
  clear hFil
  go_enter Try.func17, Try.ntmps17
  go_upto_region 1 with fail
  generalize hW : World.alloc (World.alloc w (.cells (cc (kf 4 f)) 39)) _ = W at *
  clear hW
  have q0 : W.cell? ⟨w.heap.size, 0, none⟩ = some (.int .u8 4) := HS.out.1.c0
  have q1 : W.cell? ⟨w.heap.size, 1, none⟩ = some (.int .u8 f) := HS.out.1.c1
  have z1 := HS.out.1.fr 1
  have s1 : Ds w (W.setCell ⟨w.heap.size, 1, none⟩ (.int .u8 (0))) (kf 4 (0)) := HS.out.store (HS.out.1.s1 (0)) (kf_lsts _ _ _ _)
  have l1 := s1.1.ld
  have HS1 := hidden s1
  clear s1
  go_wp2_with fail
  clear q0 q1 z1 l1
  generalize World.setCell _ ⟨w.heap.size, 1, none⟩ (.int .u8 (0)) = W1 at *
  refine Calls.mono (rParams base W1 a len cap v (kf 4 (0)) (HR.out.later HS1.out.2.2.1) hlc hnn (kf_lsts _ _)) ?_
  rintro e w2 ⟨c', er, rfl, b2, l, q, cd, hO, h⟩
  obtain ⟨t1, t2, t3, t4⟩ := HS1.out.sub b2 c'
  have T2 := hidden t2
  have T3 := hidden t3
  have T4 := hidden t4
  have HO := hidden hO
  have HH := hidden h
  clear t2 t3 t4 hO h b2
  go_wp2
  refine bodyPost_ret (v := .tuple #[cv c', .int .i64 er]) (cell_res2 Try.results17 T2.out _ rfl rfl) rfl ?_
  rcases HH.out with ⟨h1, rfl⟩ | ⟨h1, h2, h3, rfl⟩ | ⟨h1, h2, rfl, h4, h5⟩
  · exact RdR.of (W1 := W1) (w2 := w2) (y := val c') (HFil.out l q _ _ _ HO.out (.inl ⟨h1, rfl⟩)) (fun e => absurd e h1) T4.out T3.out
  · exact RdR.of (W1 := W1) (w2 := w2) (y := val c') (HFil.out l q _ _ _ HO.out (.inr (.inl ⟨h1, h3, rfl⟩))) (fun e => by cases e) T4.out T3.out
  · exact RdR.of (W1 := W1) (w2 := w2) (HFil.out l q _ _ _ HO.out (.inr (.inr ⟨h1, h2 rfl, rfl, rfl⟩))) (fun _ => ⟨h4, h5⟩) T4.out T3.out
set_option maxRecDepth 20000 in
set_option maxHeartbeats 1000000 in
theorem read5 (base : Nat) (w : World) (a : Option Addr) (len cap : Nat) (v : List Int) (f : Int) (hf : 0 ≤ f ∧ f < 256) (hr : Row base w a len v) (hlc : len ≤ cap) (hnn : a = none → len = 0 ∧ cap = 0) :
    Calls Try.prog 17 #[cv (kf 5 f), .slice a len cap] w fun e w' => RdR w v 5 (zch 5 (flg 5 f)) e w' := by
  have S0 := Ds.start w (kf 5 f) (kf_lsts 5 f)
  have hcc : (cc (zck 0)) = #[.int .u8 0, .int .u8 0, .int .u32 0, .int .u16 0, .int .u16 0, .int .u32 0, .int .u32 0, .int .u32 0, .int .u16 0, .int .u16 0, .slice none 0 0, .slice none 0 0, .slice none 0 0, .slice none 0 0, .slice none 0 0] := rfl
  rw [hcc] at S0
  have HS := hidden S0
  have hzl := hr.1
  have hlim := hr.2.2.1
  have HR := hidden hr
  have HBY := hidden hr.2.1
  clear S0 hcc hr
  have hfl : flg 5 f = 0 := by simp [flg]
  rw [hfl]
  have hFil : ∀ l q cd er y, Par.Out v l q cd → ((cd ≠ 0 ∧ er = cd) ∨ (cd = 0 ∧ ¬ OneBeat l ∧ er = 61) ∨ (cd = 0 ∧ OneBeat l ∧ er = 0 ∧ y = { zch 5 (0) with ps := l })) → Fil 5 v (zch 5 (0)) er y := by
    intro l q cd er y hO h
    unfold Fil
    rw [if_neg (by simp [nb]), if_neg (by decide), if_neg (by decide), if_neg (by decide), if_neg (by decide), if_pos (by decide)]
    exact ⟨l, q, cd, hO, h⟩
  have HFil := hidden hFil
  have hrm : f.tmod 2 = f % 2 := tmod_n f 2 hf.1
  have hw : ∀ z : Int, IntKind.u8.wrap z = z % 256 := fun _ => rfl
  have hw2 : f % 2 % 256 = f % 2 := by omega
  clear hFil
  go_enter Try.func17, Try.ntmps17
  go_upto_region 1 with fail
  generalize hW : World.alloc (World.alloc w (.cells (cc (kf 5 f)) 39)) _ = W at *
  clear hW
  have q0 : W.cell? ⟨w.heap.size, 0, none⟩ = some (.int .u8 5) := HS.out.1.c0
  have q1 : W.cell? ⟨w.heap.size, 1, none⟩ = some (.int .u8 f) := HS.out.1.c1
  have z1 := HS.out.1.fr 1
  have s1 : Ds w (W.setCell ⟨w.heap.size, 1, none⟩ (.int .u8 (0))) (kf 5 (0)) := HS.out.store (HS.out.1.s1 (0)) (kf_lsts _ _ _ _)
  have l1 := s1.1.ld
  have HS1 := hidden s1
  clear s1
  go_wp2_with fail
  clear q0 q1 z1 l1
  generalize World.setCell _ ⟨w.heap.size, 1, none⟩ (.int .u8 (0)) = W1 at *
  refine Calls.mono (rParams base W1 a len cap v (kf 5 (0)) (HR.out.later HS1.out.2.2.1) hlc hnn (kf_lsts _ _)) ?_
  rintro e w2 ⟨c', er, rfl, b2, l, q, cd, hO, h⟩
  obtain ⟨t1, t2, t3, t4⟩ := HS1.out.sub b2 c'
  have T2 := hidden t2
  have T3 := hidden t3
  have T4 := hidden t4
  have HO := hidden hO
  have HH := hidden h
  clear t2 t3 t4 hO h b2
  go_wp2
  refine bodyPost_ret (v := .tuple #[cv c', .int .i64 er]) (cell_res2 Try.results17 T2.out _ rfl rfl) rfl ?_
  rcases HH.out with ⟨h1, rfl⟩ | ⟨h1, h2, h3, rfl⟩ | ⟨h1, h2, rfl, h4, h5⟩
  · exact RdR.of (W1 := W1) (w2 := w2) (y := val c') (HFil.out l q _ _ _ HO.out (.inl ⟨h1, rfl⟩)) (fun e => absurd e h1) T4.out T3.out
  · exact RdR.of (W1 := W1) (w2 := w2) (y := val c') (HFil.out l q _ _ _ HO.out (.inr (.inl ⟨h1, h3, rfl⟩))) (fun e => by cases e) T4.out T3.out
  · exact RdR.of (W1 := W1) (w2 := w2) (HFil.out l q _ _ _ HO.out (.inr (.inr ⟨h1, h2 rfl, rfl, rfl⟩))) (fun _ => ⟨h4, h5⟩) T4.out T3.out
set_option maxRecDepth 20000 in
set_option maxHeartbeats 1000000 in
theorem read6 (base : Nat) (w : World) (a : Option Addr) (len cap : Nat) (v : List Int) (f : Int) (hf : 0 ≤ f ∧ f < 256) (hr : Row base w a len v) (hlc : len ≤ cap) (hnn : a = none → len = 0 ∧ cap = 0) :
    Calls Try.prog 17 #[cv (kf 6 f), .slice a len cap] w fun e w' => RdR w v 6 (zch 6 (flg 6 f)) e w' := by
  have S0 := Ds.start w (kf 6 f) (kf_lsts 6 f)
  have hcc : (cc (zck 0)) = #[.int .u8 0, .int .u8 0, .int .u32 0, .int .u16 0, .int .u16 0, .int .u32 0, .int .u32 0, .int .u32 0, .int .u16 0, .int .u16 0, .slice none 0 0, .slice none 0 0, .slice none 0 0, .slice none 0 0, .slice none 0 0] := rfl
  rw [hcc] at S0
  have HS := hidden S0
  have hzl := hr.1
  have hlim := hr.2.2.1
  have HR := hidden hr
  have HBY := hidden hr.2.1
  clear S0 hcc hr
  have hfl : flg 6 f = f % 2 := by simp [flg]
  rw [hfl]
  have hFil : ∀ l q cd er y, Par.Out v l q cd → ((cd ≠ 0 ∧ er = cd) ∨ (cd = 0 ∧ er = 0 ∧ y = { zch 6 (f % 2) with ps := l })) → Fil 6 v (zch 6 (f % 2)) er y := by
    intro l q cd er y hO h
    unfold Fil
    rw [if_neg (by simp [nb]), if_neg (by decide), if_neg (by decide), if_neg (by decide), if_neg (by decide), if_neg (by decide), if_pos (by decide)]
    exact ⟨l, q, cd, hO, h⟩
  have HFil := hidden hFil
  have hrm : f.tmod 2 = f % 2 := tmod_n f 2 hf.1
  have hw : ∀ z : Int, IntKind.u8.wrap z = z % 256 := fun _ => rfl
  have hw2 : f % 2 % 256 = f % 2 := by omega
  clear hFil
  go_enter Try.func17, Try.ntmps17
  go_upto_region 1 with fail
  generalize hW : World.alloc (World.alloc w (.cells (cc (kf 6 f)) 39)) _ = W at *
  clear hW
  have q0 : W.cell? ⟨w.heap.size, 0, none⟩ = some (.int .u8 6) := HS.out.1.c0
  have q1 : W.cell? ⟨w.heap.size, 1, none⟩ = some (.int .u8 f) := HS.out.1.c1
  have z1 := HS.out.1.fr 1
  have s1 : Ds w (W.setCell ⟨w.heap.size, 1, none⟩ (.int .u8 (f % 2))) (kf 6 (f % 2)) := HS.out.store (HS.out.1.s1 (f % 2)) (kf_lsts _ _ _ _)
  have l1 := s1.1.ld
  have HS1 := hidden s1
  clear s1
  go_wp2_with fail
  clear q0 q1 z1 l1
  generalize World.setCell _ ⟨w.heap.size, 1, none⟩ (.int .u8 (f % 2)) = W1 at *
  refine Calls.mono (rParams base W1 a len cap v (kf 6 (f % 2)) (HR.out.later HS1.out.2.2.1) hlc hnn (kf_lsts _ _)) ?_
  rintro e w2 ⟨c', er, rfl, b2, l, q, cd, hO, h⟩
  obtain ⟨t1, t2, t3, t4⟩ := HS1.out.sub b2 c'
  have T2 := hidden t2
  have T3 := hidden t3
  have T4 := hidden t4
  have HO := hidden hO
  have HH := hidden h
  clear t2 t3 t4 hO h b2
  go_wp2
  refine bodyPost_ret (v := .tuple #[cv c', .int .i64 er]) (cell_res2 Try.results17 T2.out _ rfl rfl) rfl ?_
  rcases HH.out with ⟨h1, rfl⟩ | ⟨h1, h2, h3, rfl⟩ | ⟨h1, h2, rfl, h4, h5⟩
  · exact RdR.of (W1 := W1) (w2 := w2) (y := val c') (HFil.out l q _ _ _ HO.out (.inl ⟨h1, rfl⟩)) (fun e => absurd e h1) T4.out T3.out
  · exact absurd h2 (by simp [beat, kf, zck])
  · exact RdR.of (W1 := W1) (w2 := w2) (HFil.out l q _ _ _ HO.out (.inr ⟨h1, rfl, rfl⟩)) (fun _ => ⟨h4, h5⟩) T4.out T3.out
set_option maxRecDepth 20000 in
set_option maxHeartbeats 1000000 in
theorem read9 (base : Nat) (w : World) (a : Option Addr) (len cap : Nat) (v : List Int) (f : Int) (hf : 0 ≤ f ∧ f < 256) (hr : Row base w a len v) (hlc : len ≤ cap) (hnn : a = none → len = 0 ∧ cap = 0) :
    Calls Try.prog 17 #[cv (kf 9 f), .slice a len cap] w fun e w' => RdR w v 9 (zch 9 (flg 9 f)) e w' := by
  have S0 := Ds.start w (kf 9 f) (kf_lsts 9 f)
  have hcc : (cc (zck 0)) = #[.int .u8 0, .int .u8 0, .int .u32 0, .int .u16 0, .int .u16 0, .int .u32 0, .int .u32 0, .int .u32 0, .int .u16 0, .int .u16 0, .slice none 0 0, .slice none 0 0, .slice none 0 0, .slice none 0 0, .slice none 0 0] := rfl
  rw [hcc] at S0
  have HS := hidden S0
  have hzl := hr.1
  have hlim := hr.2.2.1
  have HR := hidden hr
  have HBY := hidden hr.2.1
  clear S0 hcc hr
  have hfl : flg 9 f = 0 := by simp [flg]
  rw [hfl]
  have hFil : ∀ l q cd er y, Par.Out v l q cd → ((cd ≠ 0 ∧ er = cd) ∨ (cd = 0 ∧ er = 0 ∧ y = { zch 9 (0) with ps := l })) → Fil 9 v (zch 9 (0)) er y := by
    intro l q cd er y hO h
    unfold Fil
    rw [if_neg (by simp [nb]), if_neg (by decide), if_neg (by decide), if_neg (by decide), if_neg (by decide), if_neg (by decide), if_pos (by decide)]
    exact ⟨l, q, cd, hO, h⟩
  have HFil := hidden hFil
  have hrm : f.tmod 2 = f % 2 := tmod_n f 2 hf.1
  have hw : ∀ z : Int, IntKind.u8.wrap z = z % 256 := fun _ => rfl
  have hw2 : f % 2 % 256 = f % 2 := by omega
  clear hFil
  go_enter Try.func17, Try.ntmps17
  go_upto_region 1 with fail
  generalize hW : World.alloc (World.alloc w (.cells (cc (kf 9 f)) 39)) _ = W at *
  clear hW
  have q0 : W.cell? ⟨w.heap.size, 0, none⟩ = some (.int .u8 9) := HS.out.1.c0
  have q1 : W.cell? ⟨w.heap.size, 1, none⟩ = some (.int .u8 f) := HS.out.1.c1
  have z1 := HS.out.1.fr 1
  have s1 : Ds w (W.setCell ⟨w.heap.size, 1, none⟩ (.int .u8 (0))) (kf 9 (0)) := HS.out.store (HS.out.1.s1 (0)) (kf_lsts _ _ _ _)
  have l1 := s1.1.ld
  have HS1 := hidden s1
  clear s1
  go_wp2_with fail
  clear q0 q1 z1 l1
  generalize World.setCell _ ⟨w.heap.size, 1, none⟩ (.int .u8 (0)) = W1 at *
  refine Calls.mono (rParams base W1 a len cap v (kf 9 (0)) (HR.out.later HS1.out.2.2.1) hlc hnn (kf_lsts _ _)) ?_
  rintro e w2 ⟨c', er, rfl, b2, l, q, cd, hO, h⟩
  obtain ⟨t1, t2, t3, t4⟩ := HS1.out.sub b2 c'
  have T2 := hidden t2
  have T3 := hidden t3
  have T4 := hidden t4
  have HO := hidden hO
  have HH := hidden h
  clear t2 t3 t4 hO h b2
  go_wp2
  refine bodyPost_ret (v := .tuple #[cv c', .int .i64 er]) (cell_res2 Try.results17 T2.out _ rfl rfl) rfl ?_
  rcases HH.out with ⟨h1, rfl⟩ | ⟨h1, h2, h3, rfl⟩ | ⟨h1, h2, rfl, h4, h5⟩
  · exact RdR.of (W1 := W1) (w2 := w2) (y := val c') (HFil.out l q _ _ _ HO.out (.inl ⟨h1, rfl⟩)) (fun e => absurd e h1) T4.out T3.out
  · exact absurd h2 (by simp [beat, kf, zck])
  · exact RdR.of (W1 := W1) (w2 := w2) (HFil.out l q _ _ _ HO.out (.inr ⟨h1, rfl, rfl⟩)) (fun _ => ⟨h4, h5⟩) T4.out T3.out
set_option maxRecDepth 20000 in
set_option maxHeartbeats 1000000 in
theorem read7 (base : Nat) (w : World) (a : Option Addr) (len cap : Nat) (v : List Int) (f : Int) (hf : 0 ≤ f ∧ f < 256) (hr : Row base w a len v) (hlc : len ≤ cap) (hnn : a = none → len = 0 ∧ cap = 0) :
    Calls Try.prog 17 #[cv (kf 7 f), .slice a len cap] w fun e w' => RdR w v 7 (zch 7 (flg 7 f)) e w' := by
  have S0 := Ds.start w (kf 7 f) (kf_lsts 7 f)
  have hcc : (cc (zck 0)) = #[.int .u8 0, .int .u8 0, .int .u32 0, .int .u16 0, .int .u16 0, .int .u32 0, .int .u32 0, .int .u32 0, .int .u16 0, .int .u16 0, .slice none 0 0, .slice none 0 0, .slice none 0 0, .slice none 0 0, .slice none 0 0] := rfl
  rw [hcc] at S0
  have HS := hidden S0
  have hzl := hr.1
  have hlim := hr.2.2.1
  have HR := hidden hr
  have HBY := hidden hr.2.1
  clear S0 hcc hr
  have hfl : flg 7 f = 0 := by simp [flg]
  rw [hfl]
  go_enter Try.func17, Try.ntmps17
  go_upto_region 1 with fail
  generalize hW : World.alloc (World.alloc w (.cells (cc (kf 7 f)) 39)) _ = W at *
  clear hW
  have q0 : W.cell? ⟨w.heap.size, 0, none⟩ = some (.int .u8 7) := HS.out.1.c0
  have q1 : W.cell? ⟨w.heap.size, 1, none⟩ = some (.int .u8 f) := HS.out.1.c1
  have z1 := HS.out.1.fr 1
  by_cases h4 : len = 4
  case neg =>
    have e4 : ((len : Int) != 4) = true := bne_t (by omega)
    obtain ⟨f1, f2, f3, f4, f5⟩ := HS.out.fin
    have F3 := hidden f3
    have F4 := hidden f4
    clear f3 f4 f5
    go_wp2
    exact bodyPost_ret (v := .tuple #[cv (kf 7 f), .int .i64 61]) (cell_res2 Try.results17 F3.out _ rfl rfl) rfl (rd_bad (fun y => fil7_bad (by omega) y) (by decide) F4.out)
  subst h4
  have s1 : Ds w _ (kf 7 0) := HS.out.store (HS.out.1.s1 0) (kf_lsts _ _ _ _)
  have q2 := HS.out.1.c2
  have z2 := HS.out.1.fr 2
  have s2 : Ds w _ { kf 7 0 with tsn := n4 v 0 } := s1.store (s1.1.s2 (n4 v 0)) s1.2.2.2.2
  obtain ⟨f1, f2, f3, f4, f5⟩ := s2.fin
  have F3 := hidden f3
  have F4 := hidden f4
  have F5 := hidden f5
  clear s1 s2 f3 f4 f5
  go_wp2_with fail
  refine Calls.mono (rGet4 base _ a 4 cap 0 v (HR.out.later HS.out.2.2.1) (by omega)) ?_
  rintro e wz ⟨rfl, rfl⟩
  go_wp2
  exact bodyPost_ret (v := .tuple #[cv { kf 7 0 with tsn := n4 v 0 }, .int .i64 0]) (cell_res2 Try.results17 F3.out _ rfl rfl) rfl (rd_ok (fil7_ok (by omega)) F5.out F4.out)
set_option maxRecDepth 20000 in
set_option maxHeartbeats 1000000 in
theorem read8 (base : Nat) (w : World) (a : Option Addr) (len cap : Nat) (v : List Int) (f : Int) (hf : 0 ≤ f ∧ f < 256) (hr : Row base w a len v) (hlc : len ≤ cap) (hnn : a = none → len = 0 ∧ cap = 0) :
    Calls Try.prog 17 #[cv (kf 8 f), .slice a len cap] w fun e w' => RdR w v 8 (zch 8 (flg 8 f)) e w' := by
  have S0 := Ds.start w (kf 8 f) (kf_lsts 8 f)
  have hcc : (cc (zck 0)) = #[.int .u8 0, .int .u8 0, .int .u32 0, .int .u16 0, .int .u16 0, .int .u32 0, .int .u32 0, .int .u32 0, .int .u16 0, .int .u16 0, .slice none 0 0, .slice none 0 0, .slice none 0 0, .slice none 0 0, .slice none 0 0] := rfl
  rw [hcc] at S0
  have HS := hidden S0
  have hzl := hr.1
  have hlim := hr.2.2.1
  have HR := hidden hr
  have HBY := hidden hr.2.1
  clear S0 hcc hr
  go_enter Try.func17, Try.ntmps17
  go_upto_region 1 with fail
  generalize hW : World.alloc (World.alloc w (.cells (cc (kf 8 f)) 39)) _ = W at *
  clear hW
  have q0 : W.cell? ⟨w.heap.size, 0, none⟩ = some (.int .u8 8) := HS.out.1.c0
  have q1 : W.cell? ⟨w.heap.size, 1, none⟩ = some (.int .u8 f) := HS.out.1.c1
  have z1 := HS.out.1.fr 1
  by_cases h0 : len = 0
  case neg =>
    have e0 : ((len : Int) != 0) = true := bne_t (by omega)
    obtain ⟨f1, f2, f3, f4, f5⟩ := HS.out.fin
    have F3 := hidden f3
    have F4 := hidden f4
    clear f3 f4 f5
    go_wp2
    exact bodyPost_ret (v := .tuple #[cv (kf 8 f), .int .i64 61]) (cell_res2 Try.results17 F3.out _ rfl rfl) rfl (rd_bad (fun y => by unfold Fil; rw [if_neg (by simp [nb]), if_neg (by decide), if_neg (by decide), if_pos (by decide)]; exact .inl ⟨by omega, rfl⟩) (by decide) F4.out)
  have e0 : ((len : Int) != 0) = false := bne_f (by omega)
  have l0 := HS.out.1.ld
  go_wp2_with fail
  clear q0 q1 z1 l0
  refine Calls.mono (rBareF (kf 8 f) W (by simp [kf, zck]) hf) ?_
  rintro e w2 ⟨d, rfl, hd, b2⟩
  have hd' : d.flags = flg 8 f := hd
  have hfd : ∀ x, (Instr.field 39 (cv d) 1).run Try.prog x = .ok (.int .u8 (flg 8 f)) x := fun x => by rw [← hd']; rfl
  have s2 := HS.out.later b2
  have q1 := s2.1.c1
  have z1 := s2.1.fr 1
  have s3 : Ds w _ (kf 8 (flg 8 f)) := s2.store (s2.1.s1 (flg 8 f)) (kf_lsts _ _ _ _)
  obtain ⟨f1, f2, f3, f4, f5⟩ := s3.fin
  have F3 := hidden f3
  have F4 := hidden f4
  have F5 := hidden f5
  clear s2 s3 f3 f4 f5 b2 hd hd'
  generalize hff : flg 8 f = ff at *
  have HFF := hidden hff
  clear hff
  go_wp2
  exact bodyPost_ret (v := .tuple #[cv (kf 8 ff), .int .i64 0]) (cell_res2 Try.results17 F3.out _ rfl rfl) rfl (rd_ok (by unfold Fil; rw [if_neg (by simp [nb]), if_neg (by decide), if_neg (by decide), if_pos (by decide)]; exact .inr ⟨by omega, rfl, by rw [HFF.out]; rfl⟩) F5.out F4.out)
set_option maxRecDepth 20000 in
set_option maxHeartbeats 1000000 in
theorem read11 (base : Nat) (w : World) (a : Option Addr) (len cap : Nat) (v : List Int) (f : Int) (hf : 0 ≤ f ∧ f < 256) (hr : Row base w a len v) (hlc : len ≤ cap) (hnn : a = none → len = 0 ∧ cap = 0) :
    Calls Try.prog 17 #[cv (kf 11 f), .slice a len cap] w fun e w' => RdR w v 11 (zch 11 (flg 11 f)) e w' := by
  have S0 := Ds.start w (kf 11 f) (kf_lsts 11 f)
  have hcc : (cc (zck 0)) = #[.int .u8 0, .int .u8 0, .int .u32 0, .int .u16 0, .int .u16 0, .int .u32 0, .int .u32 0, .int .u32 0, .int .u16 0, .int .u16 0, .slice none 0 0, .slice none 0 0, .slice none 0 0, .slice none 0 0, .slice none 0 0] := rfl
  rw [hcc] at S0
  have HS := hidden S0
  have hzl := hr.1
  have hlim := hr.2.2.1
  have HR := hidden hr
  have HBY := hidden hr.2.1
  clear S0 hcc hr
  go_enter Try.func17, Try.ntmps17
  go_upto_region 1 with fail
  generalize hW : World.alloc (World.alloc w (.cells (cc (kf 11 f)) 39)) _ = W at *
  clear hW
  have q0 : W.cell? ⟨w.heap.size, 0, none⟩ = some (.int .u8 11) := HS.out.1.c0
  have q1 : W.cell? ⟨w.heap.size, 1, none⟩ = some (.int .u8 f) := HS.out.1.c1
  have z1 := HS.out.1.fr 1
  by_cases h0 : len = 0
  case neg =>
    have e0 : ((len : Int) != 0) = true := bne_t (by omega)
    obtain ⟨f1, f2, f3, f4, f5⟩ := HS.out.fin
    have F3 := hidden f3
    have F4 := hidden f4
    clear f3 f4 f5
    go_wp2
    exact bodyPost_ret (v := .tuple #[cv (kf 11 f), .int .i64 61]) (cell_res2 Try.results17 F3.out _ rfl rfl) rfl (rd_bad (fun y => by unfold Fil; rw [if_neg (by simp [nb]), if_neg (by decide), if_neg (by decide), if_pos (by decide)]; exact .inl ⟨by omega, rfl⟩) (by decide) F4.out)
  have e0 : ((len : Int) != 0) = false := bne_f (by omega)
  have l0 := HS.out.1.ld
  go_wp2_with fail
  clear q0 q1 z1 l0
  refine Calls.mono (rBareF (kf 11 f) W (by simp [kf, zck]) hf) ?_
  rintro e w2 ⟨d, rfl, hd, b2⟩
  have hd' : d.flags = flg 11 f := hd
  have hfd : ∀ x, (Instr.field 39 (cv d) 1).run Try.prog x = .ok (.int .u8 (flg 11 f)) x := fun x => by rw [← hd']; rfl
  have s2 := HS.out.later b2
  have q1 := s2.1.c1
  have z1 := s2.1.fr 1
  have s3 : Ds w _ (kf 11 (flg 11 f)) := s2.store (s2.1.s1 (flg 11 f)) (kf_lsts _ _ _ _)
  obtain ⟨f1, f2, f3, f4, f5⟩ := s3.fin
  have F3 := hidden f3
  have F4 := hidden f4
  have F5 := hidden f5
  clear s2 s3 f3 f4 f5 b2 hd hd'
  generalize hff : flg 11 f = ff at *
  have HFF := hidden hff
  clear hff
  go_wp2
  exact bodyPost_ret (v := .tuple #[cv (kf 11 ff), .int .i64 0]) (cell_res2 Try.results17 F3.out _ rfl rfl) rfl (rd_ok (by unfold Fil; rw [if_neg (by simp [nb]), if_neg (by decide), if_neg (by decide), if_pos (by decide)]; exact .inr ⟨by omega, rfl, by rw [HFF.out]; rfl⟩) F5.out F4.out)
set_option maxRecDepth 20000 in
set_option maxHeartbeats 1000000 in
theorem read14 (base : Nat) (w : World) (a : Option Addr) (len cap : Nat) (v : List Int) (f : Int) (hf : 0 ≤ f ∧ f < 256) (hr : Row base w a len v) (hlc : len ≤ cap) (hnn : a = none → len = 0 ∧ cap = 0) :
    Calls Try.prog 17 #[cv (kf 14 f), .slice a len cap] w fun e w' => RdR w v 14 (zch 14 (flg 14 f)) e w' := by
  have S0 := Ds.start w (kf 14 f) (kf_lsts 14 f)
  have hcc : (cc (zck 0)) = #[.int .u8 0, .int .u8 0, .int .u32 0, .int .u16 0, .int .u16 0, .int .u32 0, .int .u32 0, .int .u32 0, .int .u16 0, .int .u16 0, .slice none 0 0, .slice none 0 0, .slice none 0 0, .slice none 0 0, .slice none 0 0] := rfl
  rw [hcc] at S0
  have HS := hidden S0
  have hzl := hr.1
  have hlim := hr.2.2.1
  have HR := hidden hr
  have HBY := hidden hr.2.1
  clear S0 hcc hr
  go_enter Try.func17, Try.ntmps17
  go_upto_region 1 with fail
  generalize hW : World.alloc (World.alloc w (.cells (cc (kf 14 f)) 39)) _ = W at *
  clear hW
  have q0 : W.cell? ⟨w.heap.size, 0, none⟩ = some (.int .u8 14) := HS.out.1.c0
  have q1 : W.cell? ⟨w.heap.size, 1, none⟩ = some (.int .u8 f) := HS.out.1.c1
  have z1 := HS.out.1.fr 1
  by_cases h0 : len = 0
  case neg =>
    have e0 : ((len : Int) != 0) = true := bne_t (by omega)
    obtain ⟨f1, f2, f3, f4, f5⟩ := HS.out.fin
    have F3 := hidden f3
    have F4 := hidden f4
    clear f3 f4 f5
    go_wp2
    exact bodyPost_ret (v := .tuple #[cv (kf 14 f), .int .i64 61]) (cell_res2 Try.results17 F3.out _ rfl rfl) rfl (rd_bad (fun y => by unfold Fil; rw [if_neg (by simp [nb]), if_neg (by decide), if_neg (by decide), if_pos (by decide)]; exact .inl ⟨by omega, rfl⟩) (by decide) F4.out)
  have e0 : ((len : Int) != 0) = false := bne_f (by omega)
  have l0 := HS.out.1.ld
  go_wp2_with fail
  clear q0 q1 z1 l0
  refine Calls.mono (rBareF (kf 14 f) W (by simp [kf, zck]) hf) ?_
  rintro e w2 ⟨d, rfl, hd, b2⟩
  have hd' : d.flags = flg 14 f := hd
  have hfd : ∀ x, (Instr.field 39 (cv d) 1).run Try.prog x = .ok (.int .u8 (flg 14 f)) x := fun x => by rw [← hd']; rfl
  have s2 := HS.out.later b2
  have q1 := s2.1.c1
  have z1 := s2.1.fr 1
  have s3 : Ds w _ (kf 14 (flg 14 f)) := s2.store (s2.1.s1 (flg 14 f)) (kf_lsts _ _ _ _)
  obtain ⟨f1, f2, f3, f4, f5⟩ := s3.fin
  have F3 := hidden f3
  have F4 := hidden f4
  have F5 := hidden f5
  clear s2 s3 f3 f4 f5 b2 hd hd'
  generalize hff : flg 14 f = ff at *
  have HFF := hidden hff
  clear hff
  go_wp2
  exact bodyPost_ret (v := .tuple #[cv (kf 14 ff), .int .i64 0]) (cell_res2 Try.results17 F3.out _ rfl rfl) rfl (rd_ok (by unfold Fil; rw [if_neg (by simp [nb]), if_neg (by decide), if_neg (by decide), if_pos (by decide)]; exact .inr ⟨by omega, rfl, by rw [HFF.out]; rfl⟩) F5.out F4.out)
set_option maxRecDepth 20000 in
set_option maxHeartbeats 1000000 in
theorem read0 (base : Nat) (w : World) (a : Option Addr) (len cap : Nat) (v : List Int) (f : Int) (hf : 0 ≤ f ∧ f < 256) (hr : Row base w a len v) (hlc : len ≤ cap) (hnn : a = none → len = 0 ∧ cap = 0) :
    Calls Try.prog 17 #[cv (kf 0 f), .slice a len cap] w fun e w' => RdR w v 0 (zch 0 (flg 0 f)) e w' := by
  have S0 := Ds.start w (kf 0 f) (kf_lsts 0 f)
  have hcc : (cc (zck 0)) = #[.int .u8 0, .int .u8 0, .int .u32 0, .int .u16 0, .int .u16 0, .int .u32 0, .int .u32 0, .int .u32 0, .int .u16 0, .int .u16 0, .slice none 0 0, .slice none 0 0, .slice none 0 0, .slice none 0 0, .slice none 0 0] := rfl
  rw [hcc] at S0
  have HS := hidden S0
  have hzl := hr.1
  have hlim := hr.2.2.1
  have HR := hidden hr
  have HBY := hidden hr.2.1
  clear S0 hcc hr
  have hfl : flg 0 f = f % 8 := by simp [flg]
  rw [hfl]
  go_enter Try.func17, Try.ntmps17
  go_upto_region 1 with fail
  generalize hW : World.alloc (World.alloc w (.cells (cc (kf 0 f)) 39)) _ = W at *
  clear hW
  have q0 : W.cell? ⟨w.heap.size, 0, none⟩ = some (.int .u8 0) := HS.out.1.c0
  have q1 : W.cell? ⟨w.heap.size, 1, none⟩ = some (.int .u8 f) := HS.out.1.c1
  have z1 := HS.out.1.fr 1
  by_cases h12 : len = 12
  · subst h12
    obtain ⟨f1, f2, f3, f4, f5⟩ := HS.out.fin
    have F3 := hidden f3
    have F4 := hidden f4
    clear f3 f4 f5
    go_wp2
    exact bodyPost_ret (v := .tuple #[cv (kf 0 f), .int .i64 62]) (cell_res2 Try.results17 F3.out _ rfl rfl) rfl (rd_bad (fun y => by unfold Fil; rw [if_neg (show ¬ v.length < nb 0 from (show ¬ v.length < 12 by omega)), if_neg (by decide), if_neg (by decide), if_neg (by decide), if_neg (by decide), if_neg (by decide), if_neg (by decide), if_pos rfl]; exact .inl ⟨by omega, rfl⟩) (by decide) F4.out)
  have e12 : ((len : Int) == 12) = false := beq_f (by omega)
  rcases Nat.lt_or_ge len 12 with hlt | hge
  · have hlt' : (len : Int) < 12 := by omega
    obtain ⟨f1, f2, f3, f4, f5⟩ := HS.out.fin
    have F3 := hidden f3
    have F4 := hidden f4
    clear f3 f4 f5
    go_wp2
    exact bodyPost_ret (v := .tuple #[cv (kf 0 f), .int .i64 61]) (cell_res2 Try.results17 F3.out _ rfl rfl) rfl (rd_bad (fun y => by unfold Fil; rw [if_pos (show v.length < nb 0 from (show v.length < 12 by omega))]) (by decide) F4.out)
  have hge' : ¬ (len : Int) < 12 := by omega
  obtain ⟨b, off, rfl, _, _⟩ := HR.out.2.2.2.resolve_left (by omega)
  have hrm : f.tmod 8 = f % 8 := tmod_n f 8 hf.1
  have hw : ∀ z : Int, IntKind.u8.wrap z = z % 256 := fun _ => rfl
  have hw2 : f % 8 % 256 = f % 8 := by omega
  have s1 : Ds w (W.setCell ⟨w.heap.size, 1, none⟩ (.int .u8 (f % 8))) (kf 0 (f % 8)) := HS.out.store (HS.out.1.s1 (f % 8)) (kf_lsts _ _ _ _)
  have HS1 := hidden s1
  clear s1
  go_wp2_with fail
  clear q0 q1 z1 hw hw2 hrm
  generalize W.setCell ⟨w.heap.size, 1, none⟩ (.int .u8 (f % 8)) = W1 at *
  have hR1 := HR.out.later HS1.out.2.2.1
  have HR1 := hidden hR1
  have q2 := HS1.out.1.c2
  have z2 := HS1.out.1.fr 2
  have q3 := HS1.out.1.c3
  have z3 := HS1.out.1.fr 3
  have q4 := HS1.out.1.c4
  have z4 := HS1.out.1.fr 4
  have q5 := HS1.out.1.c5
  have z5 := HS1.out.1.fr 5
  have s2 := HS1.out.store (HS1.out.1.s2 (n4 v 0)) HS1.out.2.2.2.2
  have s3 := s2.store (s2.1.s3 (n2 v 4)) s2.2.2.2.2
  have s4 := s3.store (s3.1.s4 (n2 v 6)) s3.2.2.2.2
  have s5 := s4.store (s4.1.s5 (n4 v 8)) s4.2.2.2.2
  have HS5 := hidden s5
  have wb4 := n2_bound HBY.out 4
  have wb6 := n2_bound HBY.out 6
  have hw : ∀ z : Int, IntKind.u16.wrap z = z % 65536 := fun _ => rfl
  have hx4 : n2 v 4 % 65536 = n2 v 4 := by omega
  have hx6 : n2 v 6 % 65536 = n2 v 6 := by omega
  clear hR1 s2 s3 s4 s5
  refine Calls.mono (rGet4 base W1 _ len cap 0 v HR1.out (by omega)) ?_
  rintro e wz ⟨rfl, rfl⟩
  go_wp2_with fail
  refine Calls.mono (rGet2 base W1 _ len cap 4 v HR1.out (by omega)) ?_
  rintro e wz ⟨rfl, rfl⟩
  go_wp2_with fail
  refine Calls.mono (rGet2 base W1 _ len cap 6 v HR1.out (by omega)) ?_
  rintro e wz ⟨rfl, rfl⟩
  go_wp2_with fail
  refine Calls.mono (rGet4 base W1 _ len cap 8 v HR1.out (by omega)) ?_
  rintro e wz ⟨rfl, rfl⟩
  go_upto_region 9 with fail
  generalize World.setCell _ ⟨w.heap.size, 5, none⟩ (.int .u32 (n4 v 8)) = W5 at *
  clear q2 q3 q4 q5 z2 z3 z4 z5 hw hx4 hx6
  have HRD := hidden (show Row base W5 (some ⟨b, off + 12, none⟩) (len - 12) (v.drop 12) from (HR.out.later HS5.out.2.2.1).drop 12 (by omega))
  have i3 : ¬ cap = 12 := by omega
  have i4 : (12 : Int) ≤ (cap : Int) := by omega
  obtain ⟨i0, hi, hz0, hz1, hz2⟩ := info_parts Par.info5
  have hE := Par.own_empty W5 W5.heap.size (Nat.le_refl _)
  have hEB : Below W5.heap.size W5 (W5.alloc (.cells #[] 5)) := (Below.refl _ W5).alloc (Nat.le_refl _) _
  have HE := hidden hE
  have HEB := hidden hEB
  have HN := hidden (((HRD.out).later hEB).news)
  clear hE hEB
  go_wp2_with (at_builtin; refine wpList_append_own _ rfl _ _ 22 rfl W5.heap.size 5 i0 (.int .u8 0) 1 1 Try.underlying22 hi hz0 hz1 hz2 rfl (by decide) _ _ _ rfl HE.out ⟨b, off + 12, none⟩ (len - 12) (cap - 12) (Par.cs (v.drop 12)) rfl ?c0 HN.out (Par.cs_one _) ?c3 ?c4 (by simp) ?_)
  case c0 => rw [Par.cs_len, Nat.mul_one]; rw [List.length_drop]; omega
  case c3 => unfold maxLen; omega
  case c4 => omega
  intro v' w6 ho6 hg6 hv6
  have ho7 : w6.ownsRow W5.heap.size 5 1 v' ((len - 12)) (Par.cs (v.drop 12)) := by simpa using ho6
  obtain ⟨ba, bc, rfl, hrow, hbl, hbm, hbn⟩ := Par.row_own ho7 HRD.out.2.1 (by omega)
  have b6 : Below W5.heap.size W5 w6 := HEB.out.grown hg6 (by simp) (fun j hj => (HE.out.lt j hj).1)
  have s7 := HS5.out.later b6
  have q13 := s7.1.c13
  have z13 := s7.1.fr 13
  have s8 := s7.store (s7.1.s13 ba (len - 12) bc (v.drop 12)) (lsts_b s7.2.2.2.2 (hrow.mono HS5.out.2.2.2.1) hbn)
  obtain ⟨f1, f2, f3, f4, f5⟩ := s8.fin
  have F3 := hidden f3
  have F4 := hidden f4
  have F5 := hidden f5
  clear s7 s8 f3 f4 f5 ho6 ho7 hg6 hv6 hrow b6 HE HEB HN
  generalize hc8 : ({ { kf 0 (f % 8) with tsn := n4 v 0, stream := n2 v 4, ssn := n2 v 6, proto := n4 v 8 } with ba := ba, bl := len - 12, bc := bc, bs := (v.drop 12) } : Ck) = c8 at *
  have HF8 := hidden (show Fil 0 v (zch 0 (f % 8)) 0 (val c8) by
    rw [← hc8]
    unfold Fil; rw [if_neg (show ¬ v.length < nb 0 from (show ¬ v.length < 12 by omega)), if_neg (by decide), if_neg (by decide), if_neg (by decide), if_neg (by decide), if_neg (by decide), if_neg (by decide), if_pos rfl]; exact .inr ⟨by omega, rfl, rfl⟩)
  clear hc8
  go_wp2
  exact bodyPost_ret (v := .tuple #[cv c8, .int .i64 0]) (cell_res2 Try.results17 F3.out _ rfl rfl) rfl (rd_ok HF8.out F5.out F4.out)
end Go.Proofs.Ytifdkpifambhaab.Chu
