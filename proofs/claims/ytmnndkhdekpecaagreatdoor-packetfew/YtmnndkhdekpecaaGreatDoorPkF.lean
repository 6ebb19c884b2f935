/-
  Decode and Head of package packet.
  Conditions: the numbers lie within their kinds, the cells hold them, the program's table holds its sixteen numbers.
-/
import Derived.Test.YtmnndkhdekpecaaGreatDoorPkE
namespace Go.Proofs.YtmnndkhdekpecaaGreatDoor.Pkt
open Go.ChangeShapes Go.WideShapes Go.ChangeAt Go.RowKit
open Chu (Ch Ck Cks Chk val cv cc ld n2 n4 gr_set gr_trans gr_drew gr_drewN gr_own gr_below AllOut)
open Par (hidden Bytes Row cell_lt cutA)
set_option linter.unusedVariables false
set_option maxRecDepth 20000

theorem cell_res3 {w : World} {B p q r : Nat} {P : Pk} {x y : Value} {fn : Func} (h : fn.results = #[.cell p 26, .tmp q, .tmp r]) (hb : Pb w B P) (tmps : Array Value) (hp : tmps.getD p undef = .pointer (some ⟨B, 0, none⟩)) (hq : tmps.getD q undef = x) (hr : tmps.getD r undef = y) :
    (results fn tmps).run Tryz.prog w = .ok (.tuple #[pkv P, x, y]) w := by
  have hp' : tmps[p]?.getD undef = .pointer (some ⟨B, 0, none⟩) := by simpa using hp
  have hq' : tmps[q]?.getD undef = x := by simpa using hq
  have hr' : tmps[r]?.getD undef = y := by simpa using hr
  simp [results, h, hp', hq', hr', asAddr, hb.load]
theorem cell_res2 {w : World} {B p q : Nat} {P : Pk} {x : Value} {fn : Func} (h : fn.results = #[.cell p 26, .tmp q]) (hb : Pb w B P) (tmps : Array Value) (hp : tmps.getD p undef = .pointer (some ⟨B, 0, none⟩)) (hq : tmps.getD q undef = x) :
    (results fn tmps).run Tryz.prog w = .ok (.tuple #[pkv P, x]) w := by
  have hp' : tmps[p]?.getD undef = .pointer (some ⟨B, 0, none⟩) := by simpa using hp
  have hq' : tmps[q]?.getD undef = x := by simpa using hq
  simp [results, h, hp', hq', asAddr, hb.load]
/-- what Decode leaves -/
def DecO (w w' : World) (zs : List Int) (p : Pk) (q : Nat) (er : Int) : Prop :=
  PkOk w.heap.size w' p ∧ DecOut zs (p.l.map val) q er ∧ (er = 0 → p.f = hfrom zs ∧ p.t = hto zs ∧ p.g = htag zs) ∧ (er ≠ 0 → p = zpk) ∧ Below w.heap.size w w'
set_option maxHeartbeats 1000000 in
theorem decode (base : Nat) (w : World) (a : Option Addr) (len cap : Nat) (zs : List Int) (hr : Row base w a len zs) (hlc : len ≤ cap) (hnn : a = none → len = 0 ∧ cap = 0) (ht : Crc.Tab w) :
    Calls Tryz.prog 14 #[.slice a len cap] w fun e w' => ∃ (p : Pk) (q : Nat) (er : Int), e = .returned (.tuple #[pkv p, .int .i64 (q : Int), .int .i64 er]) ∧ DecO w w' zs p q er := by
  have hmf : ∀ (fn : Fn) (first cap : Array Value) (w : World), (Instr.makeFunc fn first cap).run Tryz.prog w = .ok (.func fn first cap) w := fun _ _ _ _ => rfl
  have hb1 : Below w.heap.size w ((w.alloc (.cells #[.int .u16 0, .int .u16 0, .int .u32 0, .slice none 0 0] 26)).alloc (.cells #[.slice a len cap] 72)) := ((Below.refl _ w).alloc (Nat.le_refl _) _).alloc (by simp) _
  have hs1 : ((w.alloc (.cells #[.int .u16 0, .int .u16 0, .int .u32 0, .slice none 0 0] 26)).alloc (.cells #[.slice a len cap] 72)).heap.size = w.heap.size + 2 := by simp
  have hR : Rp w ((w.alloc (.cells #[.int .u16 0, .int .u16 0, .int .u32 0, .slice none 0 0] 26)).alloc (.cells #[.slice a len cap] 72)) (w.heap.size + 1) zs 0 := by
    refine ⟨⟨a, len, cap, ?_, by rw [List.drop_zero]; exact hr.mono (Nat.zero_le _), hlc, hnn⟩, Nat.zero_le _, hr.2.1, hb1, by omega⟩
    have := heap_alloc_new (w.alloc (.cells #[.int .u16 0, .int .u16 0, .int .u32 0, .slice none 0 0] 26)) (.cells #[.slice a len cap] 72)
    rw [World.size_alloc] at this
    exact this
  have hP : Pb ((w.alloc (.cells #[.int .u16 0, .int .u16 0, .int .u32 0, .slice none 0 0] 26)).alloc (.cells #[.slice a len cap] 72)) w.heap.size zpk := (Pb.new w zpk).later (below_new _ _)
  have CA := caughtP ((w.alloc (.cells #[.int .u16 0, .int .u16 0, .int .u32 0, .slice none 0 0] 26)).alloc (.cells #[.slice a len cap] 72)) (w.heap.size + 1) (fun p => DecOut zs (p.l.map val) 0 0 ∧ p.f = hfrom zs ∧ p.t = hto zs ∧ p.g = htag zs) (fun q er => DecOut zs [] q er) hR.lt (by
    intro x hx hbx
    refine (packet_ w x _ zs (hR.later hbx) ((ht.later hb1 ht.pos).later hbx (by omega))).mono ?_
    rintro e x' ⟨hg, ⟨p, rfl, hp, hd, hn⟩ | ⟨q, er, rfl, he, hd⟩⟩
    · exact ⟨hg, .inl ⟨p, rfl, hp, hd, hn⟩⟩
    · exact ⟨hg, .inr ⟨q, er, rfl, he, hd⟩⟩)
  have HCA := hidden CA
  have HP := hidden hP
  have HB1 := hidden hb1
  clear hr ht hb1 hR hP CA hnn
  go_enter Tryz.func14, Tryz.ntmps14
  go_wp2_with fail
  generalize hW : World.alloc (World.alloc w _) _ = W at *
  clear hW
  refine Calls.mono HCA.out ?_
  rintro e w1 ⟨p, q, er, rfl, hg, hor⟩
  have hs2 := hg.size
  have h0 := HP.out.gr hg (by omega)
  obtain ⟨z0, z1, z2, z3⟩ := h0.px
  have k0 := h0.fr 0
  have k1 := h0.fr 1
  have k2 := h0.fr 2
  have k3 := h0.fr 3
  have HS := hidden (h0.set (p := p))
  have hbF : Below w.heap.size w (setW w1 w.heap.size p) := (HB1.out.grown hg (by omega) (fun k hk => by cases hk; omega)).grown (setW_gr _ _ _) (by omega) (fun k hk => by cases hk; exact Nat.le_refl _)
  have HF := hidden (show DecO w (setW w1 w.heap.size p) zs p q er from by
    rcases hor with ⟨rfl, rfl, hp, hd, hn⟩ | ⟨he, rfl, hd⟩
    · exact ⟨⟨hp.1, hp.2.1, hp.2.2.1, Cks.mono (Cks.setW hp.2.2.2 (by omega) _) (by omega)⟩, hd, fun _ => hn, fun h => absurd rfl h, hbF⟩
    · exact ⟨zpk_ok _ _, hd, fun h => absurd h he, fun _ => rfl, hbF⟩)
  clear hor hg h0 hbF
  simp only [setW] at HS HF
  rw [show pkv p = .agg #[.int .u16 p.f, .int .u16 p.t, .int .u32 p.g, .slice p.a p.n p.c] from rfl]
  go_wp2
  exact bodyPost_ret (cell_res3 Tryz.results14 HS.out _ rfl rfl rfl) rfl ⟨p, q, er, rfl, HF.out⟩
set_option maxHeartbeats 1000000 in
theorem head_says (base : Nat) (w : World) (a : Option Addr) (len cap : Nat) (zs : List Int) (hr : Row base w a len zs) (hlc : len ≤ cap) (hnn : a = none → len = 0 ∧ cap = 0) (ht : Crc.Tab w) :
    Calls Tryz.prog 16 #[.slice a len cap] w fun e w' => e = .returned (.tuple #[pkv ⟨hfrom zs, hto zs, htag zs, none, 0, 0, []⟩, .int .i64 (hcode zs)]) ∧ Below w.heap.size w w' := by
  have hmf : ∀ (fn : Fn) (first cap : Array Value) (w : World), (Instr.makeFunc fn first cap).run Tryz.prog w = .ok (.func fn first cap) w := fun _ _ _ _ => rfl
  have hb1 : Below w.heap.size w ((w.alloc (.cells #[.int .u16 0, .int .u16 0, .int .u32 0, .slice none 0 0] 26)).alloc (.cells #[.slice a len cap] 72)) := ((Below.refl _ w).alloc (Nat.le_refl _) _).alloc (by simp) _
  have hs1 : ((w.alloc (.cells #[.int .u16 0, .int .u16 0, .int .u32 0, .slice none 0 0] 26)).alloc (.cells #[.slice a len cap] 72)).heap.size = w.heap.size + 2 := by simp
  have hR : Rp w ((w.alloc (.cells #[.int .u16 0, .int .u16 0, .int .u32 0, .slice none 0 0] 26)).alloc (.cells #[.slice a len cap] 72)) (w.heap.size + 1) zs 0 := by
    refine ⟨⟨a, len, cap, ?_, by rw [List.drop_zero]; exact hr.mono (Nat.zero_le _), hlc, hnn⟩, Nat.zero_le _, hr.2.1, hb1, by omega⟩
    have := heap_alloc_new (w.alloc (.cells #[.int .u16 0, .int .u16 0, .int .u32 0, .slice none 0 0] 26)) (.cells #[.slice a len cap] 72)
    rw [World.size_alloc] at this
    exact this
  have hP : Pb ((w.alloc (.cells #[.int .u16 0, .int .u16 0, .int .u32 0, .slice none 0 0] 26)).alloc (.cells #[.slice a len cap] 72)) w.heap.size zpk := (Pb.new w zpk).later (below_new _ _)
  have hby := hr.2.1
  have CA := caughtH ((w.alloc (.cells #[.int .u16 0, .int .u16 0, .int .u32 0, .slice none 0 0] 26)).alloc (.cells #[.slice a len cap] 72)) (w.heap.size + 1) (fun p => hcode zs = 0 ∧ p = hpk zs) (fun q er => q = 0 ∧ er = hcode zs) hR.lt (by
    intro x hx hbx
    refine (head w x _ zs (hR.later hbx) ((ht.later hb1 ht.pos).later hbx (by omega))).mono ?_
    rintro e x' ⟨hg, ⟨hc, rfl, hr⟩ | ⟨hc, rfl⟩⟩
    · exact ⟨hg, .inl ⟨hpk zs, rfl, ⟨Chu.n2_bound hby 0, Chu.n2_bound hby 2, Chu.n4_bound hby 4, Cks.nil _ _ _⟩, hc, rfl⟩⟩
    · exact ⟨hg, .inr ⟨0, hcode zs, rfl, hc, rfl, rfl⟩⟩)
  have HCA := hidden CA
  have HP := hidden hP
  have HB1 := hidden hb1
  clear hr ht hb1 hR hP CA hnn hby
  go_enter Tryz.func16, Tryz.ntmps16
  go_wp2_with fail
  generalize hW : World.alloc (World.alloc w _) _ = W at *
  clear hW
  refine Calls.mono HCA.out ?_
  rintro e w1 ⟨p, q, er, rfl, hg, hor⟩
  have hs2 := hg.size
  have hbn := below_new w1 (.cells (pkc p) 26)
  have h0 := (HP.out.gr hg (by omega)).later hbn
  have h1 := Pb.new w1 p
  obtain ⟨z0, z1, z2, z3⟩ := h0.px
  obtain ⟨y0, y1, y2, y3⟩ := h1.px
  have k0 := h0.fr 0
  have k1 := h0.fr 1
  have k2 := h0.fr 2
  have k3 := h0.fr 3
  have HS := hidden (h0.set (p := p))
  have hs3 : (w1.alloc (.cells (pkc p) 26)).heap.size = w1.heap.size + 1 := by simp
  have HBF := hidden (show Below w.heap.size w (setW (w1.alloc (.cells (pkc p) 26)) w.heap.size p) from ((HB1.out.grown hg (by omega) (fun k hk => by cases hk; omega)).trans (hbn.mono (by omega))).grown (setW_gr _ _ _) (by omega) (fun k hk => by cases hk; exact Nat.le_refl _))
  have HV := hidden (show pkv p = pkv ⟨hfrom zs, hto zs, htag zs, none, 0, 0, []⟩ ∧ er = hcode zs from by
    rcases hor with ⟨rfl, rfl, hp, hc, rfl⟩ | ⟨he, rfl, _, rfl⟩
    · obtain ⟨j1, j2, j3⟩ := head_ok hc
      rw [j1, j2, j3]
      exact ⟨rfl, hc.symm⟩
    · obtain ⟨j1, j2, j3⟩ := head_bad he
      rw [j1, j2, j3]
      exact ⟨rfl, rfl⟩)
  clear hor hg h0 h1 hbn
  simp only [setW, pkc] at *
  rw [show pkv p = .agg #[.int .u16 p.f, .int .u16 p.t, .int .u32 p.g, .slice p.a p.n p.c] from rfl]
  go_wp2
  exact bodyPost_ret (cell_res2 Tryz.results16 HS.out _ rfl rfl) rfl ⟨by rw [HV.out.1, ← HV.out.2]; rfl, HBF.out⟩
end Go.Proofs.YtmnndkhdekpecaaGreatDoor.Pkt
