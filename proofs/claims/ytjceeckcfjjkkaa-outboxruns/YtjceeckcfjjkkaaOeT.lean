/-
  Both boxes side by side: a report on both; every act; both boxes new; an act that came in; sums of what is kept.
  Conditions: both boxes lie in memory, what comes in can be read.
-/
import Derived.Test.YtjceeckcfjjkkaaOeR
import Derived.Test.YtjceeckcfjjkkaaOeS
import Derived.Test.YtjceeckcfjjkkaaOdJ
namespace Go.Proofs.Ytjceeckcfjjkkaa.Ob
open Go.ChangeShapes Go.WideShapes Go.ChangeAt Go.RowKit
open Ba (hidden Has cell_lt heap_lt)
set_option linter.unusedVariables false
theorem Gp.cl {w : World} {v : Value} {gs : List (Int × Int)} (h : Gp (fun _ => True) w v gs) : Gp (fun k => k < w.heap.size) w v gs := by
  obtain ⟨a, cap, rfl, h1, h2, h3⟩ := h
  refine ⟨a, cap, rfl, h1, h2, ?_⟩
  rcases h3 with h3 | ⟨b, off, rfl, _, hc⟩
  · exact .inl h3
  · cases hg : gs with
    | nil => exact .inl rfl
    | cons g gs' =>
      refine .inr ⟨b, off, rfl, ?_, by rw [← hg]; exact hc⟩
      have := hc 0 (.int .u16 g.1) (by rw [hg]; rfl)
      exact cell_lt this
/-- the report that an act makes -/
def rqT (o : OA) (ts : Int) : Rq := ⟨o.q.c.kd, ts, o.q.gs, o.q.nr⟩
def ckT (o : OA) (ts : Int) : Ck := { o.q.c with tsn := ts }
theorem rp_at {w0 : World} {o : OA} (h : OkO w0 o) {ts : Int} (ht : 0 ≤ ts ∧ ts < 4294967296) : Rp (fun k => k < w0.heap.size) w0 (ckT o ts) (rqT o ts) :=
  ⟨rfl, rfl, ht.1, ht.2, h.2.1.g.cl, h.2.1.n.cl, h.2.1.l, h.2.1.m⟩
theorem Aw.ro {F : Nat → Prop} {X X' : World} {r n0 : Nat} {v : Value} {P : List CV} {n ap : Nat} {c : Int} {L : List Ch} {ak : Nat → Ak} (h : Aw X ap n0 ak) (hR : Ro F X r v P n c L) (hm : Mod (FD r v) X X') : Aw X' ap n0 ak := h.stay hm fun hk => by
  obtain ⟨cs, hh⟩ := h.type
  obtain ⟨cs', ty', hh', e'⟩ := hR.type hk
  have := has_type hh hh'
  subst this
  rcases e' with e' | e' <;> exact absurd e' (by decide)
theorem AcW.other {w0 w X X' : World} {t r : Nat} {S S' : St} {o : OA} (h : AcW w0 w X t r S S' o) {b : Nat} {cs : Array Value} (hh : Has X b cs 48) (hb : w0.heap.size ≤ b) (hm : Mod (fun k => k = b) X X') : AcW w0 w X' t r S S' o :=
  ⟨h.b2.other hh hb (by decide) hm, hm.has h.ob (fun e => h.ob.ne hh (by decide) e), hm.has h.rb (fun e => h.rb.ne hh (by decide) e), h.le⟩
theorem rep_row {w : World} {b : Nat} {cs : Array Value} (a : Option Addr) (l c : Nat) (fr rn : Int) (h : Has w b cs 34) (hs : cs.size = 3) : (Instr.storeAt 34 (.pointer (some ⟨b, 0, none⟩)) (.agg #[.slice a l c, .int .i64 fr, .int .i64 rn])).run Try.prog w = .ok () (w.setRow b #[.slice a l c, .int .i64 fr, .int .i64 rn]) :=
  Ow.store_row h (by kernel_rfl) hs (by simp [Value.oneCell'])
theorem load_rpt {w : World} {b : Nat} (a : Option Addr) (l c : Nat) (fr rn : Int) (h : Has w b #[.slice a l c, .int .i64 fr, .int .i64 rn] 34) : (Instr.loadAt 34 (.pointer (some ⟨b, 0, none⟩))).run Try.prog w = .ok (.agg #[.slice a l c, .int .i64 fr, .int .i64 rn]) w := by
  have e0 := h.cell 0 rfl
  have e1 := h.cell 1 rfl
  have e2 := h.cell 2 rfl
  simp [go_sem, e0, e1, e2]
section
variable {K : Nat} {w0 w X X' : World} {t r f : Nat} {S S' S1 : St} {rv rv' v v' : Value} {P P' : List CV} {o : OA}
set_option maxRecDepth 8000 in
set_option maxHeartbeats 4000000 in
theorem act_report (h : Bx w0 w t r S) (hG : Good K S) (hK : K + 1 ≤ 1000) (o : OA) (ho : OkO w0 o) (hk : o.kd = 3) :
    Calls Try.prog 12 #[.pointer (some ⟨t, 0, none⟩), .pointer (some ⟨r, 0, none⟩), opv o] w fun e w' => AcO K w0 w' t r S o e := by
  obtain ⟨W1, hW1⟩ : ∃ W1, W1 = (w.alloc (.cells (ocell o).toArray 50)).alloc (.cells #[.slice none 0 0, .int .i64 0, .int .i64 0] 34) := ⟨_, rfl⟩
  have hA1 := Own2 o h
  rw [← hW1] at hA1
  have HA1 := hidden hA1
  have HGG := hidden hG
  have HKK := hidden hK
  have HOO := hidden ho
  have HHK := hidden hk
  unfold ocell at hW1
  have HW1 := hidden hW1
  have l0 := hA1.ob.cell 0 (v := .int .i64 o.kd) rfl
  have l1 := hA1.ob.cell 1 (v := .int .i64 o.pa) rfl
  have l2 := hA1.ob.cell 2 (v := .int .i64 o.now) rfl
  rw [hk] at l0
  have m0 := hA1.ob.cell 11 (v := .int .u8 o.q.c.kd) rfl
  have m1 := hA1.ob.cell 12 (v := .int .u8 o.q.c.fg) rfl
  have m2 := hA1.ob.cell 13 (v := .int .u32 o.q.c.tsn) rfl
  have m3 := hA1.ob.cell 14 (v := .int .u16 o.q.c.sm) rfl
  have m4 := hA1.ob.cell 15 (v := .int .u16 o.q.c.sn) rfl
  have m5 := hA1.ob.cell 16 (v := .int .u32 o.q.c.pr) rfl
  have m6 := hA1.ob.cell 17 (v := .int .u32 o.q.c.tag) rfl
  have m7 := hA1.ob.cell 18 (v := .int .u32 o.q.c.win) rfl
  have m8 := hA1.ob.cell 19 (v := .int .u16 o.q.c.out) rfl
  have m9 := hA1.ob.cell 20 (v := .int .u16 o.q.c.inn) rfl
  have m10 := hA1.ob.cell 21 (v := .slice o.q.c.ga o.q.c.gl o.q.c.gc) rfl
  have m11 := hA1.ob.cell 22 (v := .slice o.q.c.na o.q.c.nl o.q.c.nc) rfl
  have m12 := hA1.ob.cell 23 (v := .slice o.q.c.da o.q.c.dl o.q.c.dc) rfl
  have m13 := hA1.ob.cell 24 (v := .slice o.q.c.ba o.q.c.bl o.q.c.bc) rfl
  have m14 := hA1.ob.cell 25 (v := .slice o.q.c.pa o.q.c.pl o.q.c.pc) rfl
  clear h hG hK ho hk hA1 hW1
  unfold opv ocell
  go_enter Try.func12, Try.ntmps12
  go_upto_region 1 with fail
  rw [← HW1.out]
  go_upto_region 12 with fail
  clear m0 m1 m2 m3 m4 m5 m6 m7 m8 m9 m10 m11 m12 m13 m14
  obtain ⟨b18, hb18⟩ : ∃ b18, b18 = W1.heap.size := ⟨_, rfl⟩
  obtain ⟨W2, hW2⟩ : ∃ W2, W2 = W1.alloc (.cells (kcs o.q.c) 48) := ⟨_, rfl⟩
  have hB2 : Below W1.heap.size W1 W2 := by rw [hW2]; exact (Below.refl _ _).alloc (Nat.le_refl _) _
  have HA2 := hidden (HA1.out.later hB2)
  have HC2 : Hid (Has W2 b18 (kcs o.q.c) 48) := by rw [hb18, hW2]; exact Has.new _ _ _
  have HB18 : Hid (w0.heap.size ≤ b18) := by rw [hb18]; exact HA1.out.b2.bl.size
  unfold kcs at hW2
  rw [← hW2, ← hb18]
  clear hB2 hW2 hb18 l0 l1 l2
  obtain ⟨ts, hts⟩ : ∃ ts, ts = (S.c + o.at_) % 4294967296 := ⟨_, rfl⟩
  have HTS : Hid (0 ≤ ts ∧ ts < 4294967296) := by show _ ∧ _; omega
  have HLC0 : Hid (∀ X, Below W2.heap.size W2 X → (Instr.loadAt 22 (.pointer (some ⟨r, 1, none⟩))).run Try.prog X = .ok (.int .u32 S.c) X) := fun X hX => by
    obtain ⟨v, P2, hR, _⟩ := HA2.out.b2.ro
    have := (hR.later hX).q.cell 1 rfl
    simp [go_sem, this]
  have HLAT : Hid (∀ X, Below W2.heap.size W2 X → (Instr.loadAt 22 (.pointer (some ⟨w.heap.size, 10, none⟩))).run Try.prog X = .ok (.int .u32 o.at_) X) := fun X hX => by
    have := (HA2.out.ob.later hX).cell 10 (v := .int .u32 o.at_) rfl
    simp [go_sem, this]
  have HADD : Hid (∀ X, Calls Try.prog 21 #[.int .u32 S.c, .int .u32 o.at_] X fun e w' => e = .returned (.int .u32 ts) ∧ Below X.heap.size X w') := fun X => by
    rw [hts]
    exact (Ser.radd S.c o.at_ ⟨HGG.out.c0, HGG.out.c1⟩ HOO.out.2.2 X).mono (by rintro e w' ⟨rfl, rfl⟩; exact ⟨rfl, Below.refl _ _⟩)
  have HSTS : Hid (∀ X, Below W2.heap.size W2 X → (Instr.storeAt 22 (.pointer (some ⟨b18, 2, none⟩)) (.int .u32 ts)).run Try.prog X = .ok () (X.setCell ⟨b18, 2, none⟩ (.int .u32 ts))) := fun X hX => by
    have hh := HC2.out.later hX
    have h2 := hh.cell 2 (v := .int .u32 o.q.c.tsn) rfl
    have h3 := hh.frozen 2
    simp [go_sem, h2, h3]
  have EADD : Hid (∀ (args : Array Value) (w : World), (callFunc 21 args).run Try.prog w = .ok (.enter 21 args) w) := enters_of Try.func21 (by kernel_rfl) rfl
  clear hts
  refine Ord.wp_region_ex0 (X := Unit) (by kernel_rfl) 161 (fun xq => [(some 102, .pointer (some ⟨r, 0, none⟩)), (some 103, .pointer (some ⟨r, 0, none⟩)), (some 104, .pointer (some ⟨r, 1, none⟩)), (some 105, .int .u32 S.c), (some 106, .pointer (some ⟨w.heap.size, 10, none⟩)), (some 107, .int .u32 o.at_), (some 108, .int .u32 ts), (some 109, .pointer (some ⟨b18, 2, none⟩)), (none, undef)]) [some 102, some 103, some 104, some 105, some 106, some 107, some 108, some 109, none] rfl (fun listed hsz hr => Ord.all_listedC (rank := [0, 1, 2, 3, 4, 5, 6, 7, 8]) (by kernel_rfl) hsz hr) (by rfl) (fun _ => rfl) (by kernel_rfl) (Rg.StM [6, 8] (fun sk sx w' => (sk ≤ 1 → Below W2.heap.size W2 w') ∧ (sk = 2 → ∃ X, Below W2.heap.size W2 X ∧ w' = X.setCell ⟨b18, 2, none⟩ (.int .u32 ts)))) (fun _ _ _ _ hL h => h.ext (n := 9) (by decide) hL) ?_ ?_ () ?_
  case refine_1 =>
    intro xq Lq iq oq ac w' ho hi hcl hdep hF hW
    have f1 : ac.tmps.size = 161 := hF.1
    match iq, ho, hi, hdep with
    | 0, ho, hi, hdep =>
      cases ho
      have da0 : ac.eval (.tmp 1) = .pointer (some ⟨r, 0, none⟩) := hF.old 1 rfl
      exact Ord.ex_value xq rfl rfl (Rg.mv da0 rfl) rfl (hW.keep (by decide))
    | 1, ho, hi, hdep =>
      cases ho
      have da0 : ac.eval (.tmp 102) = .pointer (some ⟨r, 0, none⟩) := hF.2.2.2 0 102 _ rfl (hdep ⟨0, .data⟩ (by simp) rfl)
      exact Ord.ex_value xq rfl rfl (Rg.nilc da0 rfl) rfl (hW.keep (by decide))
    | 2, ho, hi, hdep =>
      cases ho
      have da0 : ac.eval (.tmp 103) = .pointer (some ⟨r, 0, none⟩) := hF.2.2.2 1 103 _ rfl (hdep ⟨1, .data⟩ (by simp) rfl)
      exact Ord.ex_value xq rfl rfl (Rg.fa da0 rfl (by simp [go_sem])) rfl (hW.keep (by decide))
    | 3, ho, hi, hdep =>
      cases ho
      have da0 : ac.eval (.tmp 104) = .pointer (some ⟨r, 1, none⟩) := hF.2.2.2 2 104 _ rfl (hdep ⟨2, .data⟩ (by simp) rfl)
      obtain ⟨kq, hlo, hhi, hA⟩ := hW.range 0 0 (.inl rfl) (.inr ⟨6, rfl, (Rg.no_of (fun h => hcl 6 _ rfl (h) ⟨3, .data⟩ (by simp) rfl) hi)⟩)
      exact Ord.ex_value xq rfl rfl (Rg.load da0 rfl (HLC0.out _ (hA.1 (by omega)))) rfl (hW.keep (by decide))
    | 4, ho, hi, hdep =>
      cases ho
      have da0 : ac.eval (.tmp 5) = .pointer (some ⟨w.heap.size, 0, none⟩) := hF.old 5 rfl
      exact Ord.ex_value xq rfl rfl (Rg.fa da0 rfl (by simp [go_sem])) rfl (hW.keep (by decide))
    | 5, ho, hi, hdep =>
      cases ho
      have da0 : ac.eval (.tmp 106) = .pointer (some ⟨w.heap.size, 10, none⟩) := hF.2.2.2 4 106 _ rfl (hdep ⟨4, .data⟩ (by simp) rfl)
      obtain ⟨kq, hlo, hhi, hA⟩ := hW.range 0 0 (.inl rfl) (.inr ⟨6, rfl, (Rg.no_of (fun h => hcl 6 _ rfl (h) ⟨5, .data⟩ (by simp) rfl) hi)⟩)
      exact Ord.ex_value xq rfl rfl (Rg.load da0 rfl (HLAT.out _ (hA.1 (by omega)))) rfl (hW.keep (by decide))
    | 6, ho, hi, hdep =>
      cases ho
      have da0 : ac.eval (.tmp 105) = .int .u32 S.c := hF.2.2.2 3 105 _ rfl (hdep ⟨3, .data⟩ (by simp) rfl)
      have da1 : ac.eval (.tmp 107) = .int .u32 o.at_ := hF.2.2.2 5 107 _ rfl (hdep ⟨5, .data⟩ (by simp) rfl)
      have hA := hW.at (k := 0) rfl hi (.inl rfl)
      exact Rg.ex_call xq rfl rfl (Rg.enter (args := #[.int .u32 S.c, .int .u32 o.at_]) rfl rfl (by simp [da0, da1]) EADD.out) (Calls.mono (HADD.out _) (by rintro e w2 ⟨rfl, hB⟩; exact ⟨rfl, hW.next (k := 0) rfl (by decide) hi (.inl rfl) ⟨fun _ => (hA.1 (by decide)).trans (hB.mono (hA.1 (by decide)).size), fun e => absurd e (by decide)⟩⟩))
    | 7, ho, hi, hdep =>
      cases ho
      have da0 : ac.eval (.tmp 18) = .pointer (some ⟨b18, 0, none⟩) := hF.old 18 rfl
      exact Ord.ex_value xq rfl rfl (Rg.fa da0 rfl (by simp [go_sem])) rfl (hW.keep (by decide))
    | 8, ho, hi, hdep =>
      cases ho
      have da0 : ac.eval (.tmp 109) = .pointer (some ⟨b18, 2, none⟩) := hF.2.2.2 7 109 _ rfl (hdep ⟨7, .data⟩ (by simp) rfl)
      have da1 : ac.eval (.tmp 108) = .int .u32 ts := hF.2.2.2 6 108 _ rfl (hdep ⟨6, .data⟩ (by simp) rfl)
      have hA := hW.at (k := 1) rfl hi (.inr ⟨6, rfl, (hdep ⟨6, .data⟩ (by simp) rfl)⟩)
      exact Rg.ex_skip xq rfl rfl (Rg.sto da0 da1 rfl (HSTS.out _ (hA.1 (by decide)))) rfl (hW.next (k := 1) rfl (by decide) hi (.inr ⟨6, rfl, (hdep ⟨6, .data⟩ (by simp) rfl)⟩) ⟨fun e => absurd e (by decide), fun _ => ⟨_, hA.1 (by decide), rfl⟩⟩)
  case refine_3 => exact Rg.StM.first ⟨fun _ => (Below.refl _ _).drew, fun e => absurd e (by decide)⟩
  case refine_2 =>
    intro v' w2 hW
    obtain ⟨X, hBX, hw2⟩ := hW.last.2 rfl
    have HW2 := hidden hw2
    clear hW hw2
    simp only [Ord.puts, Ord.prs]
    go_simp
    have HC3 : Hid (Has w2 b18 (kcs (ckT o ts)) 48) := by rw [HW2.out]; exact (HC2.out.later hBX).set 2 (.int .u32 ts)
    have HA3 : Hid (AcW w0 w w2 t r S S o) := by
      rw [HW2.out]
      exact (HA2.out.later hBX).other (HC2.out.later hBX) HB18.out (Mod.setCell (F := fun k => k = b18) X (p := ⟨b18, 2, none⟩) rfl _)
    clear hBX HW2 HA2 HC2 HLC0 HLAT HADD HSTS EADD
    obtain ⟨f, rv, P, hN, hF⟩ := HA3.out.b2.no
    have HRP : Hid (Rp (fun k => k < w0.heap.size) w0 (ckT o ts) (rqT o ts)) := rp_at HOO.out HTS.out
    have TC := report (now := o.now) hN HGG.out (HRP.out.later HA3.out.b2.bl) (fun k hk => Nat.lt_of_lt_of_le hk HA3.out.b2.bl.size)
    have HNF := hidden (And.intro hN hF)
    have k0 := HC3.out.cell 0 (v := .int .u8 o.q.c.kd) rfl
    have k1 := HC3.out.cell 1 (v := .int .u8 o.q.c.fg) rfl
    have k2 := HC3.out.cell 2 (v := .int .u32 ts) rfl
    have k3 := HC3.out.cell 3 (v := .int .u16 o.q.c.sm) rfl
    have k4 := HC3.out.cell 4 (v := .int .u16 o.q.c.sn) rfl
    have k5 := HC3.out.cell 5 (v := .int .u32 o.q.c.pr) rfl
    have k6 := HC3.out.cell 6 (v := .int .u32 o.q.c.tag) rfl
    have k7 := HC3.out.cell 7 (v := .int .u32 o.q.c.win) rfl
    have k8 := HC3.out.cell 8 (v := .int .u16 o.q.c.out) rfl
    have k9 := HC3.out.cell 9 (v := .int .u16 o.q.c.inn) rfl
    have k10 := HC3.out.cell 10 (v := .slice o.q.c.ga o.q.c.gl o.q.c.gc) rfl
    have k11 := HC3.out.cell 11 (v := .slice o.q.c.na o.q.c.nl o.q.c.nc) rfl
    have k12 := HC3.out.cell 12 (v := .slice o.q.c.da o.q.c.dl o.q.c.dc) rfl
    have k13 := HC3.out.cell 13 (v := .slice o.q.c.ba o.q.c.bl o.q.c.bc) rfl
    have k14 := HC3.out.cell 14 (v := .slice o.q.c.pa o.q.c.pl o.q.c.pc) rfl
    have l2 := HA3.out.ob.cell 2 (v := .int .i64 o.now) rfl
    unfold kv kcs ckT at TC
    dsimp only at TC
    have TC := hidden TC
    clear hN hF
    go_wp2_with fail
    clear k0 k1 k2 k3 k4 k5 k6 k7 k8 k9 k10 k11 k12 k13 k14 l2
    refine Calls.mono TC.out ?_
    rintro e X4 hO
    rcases hO with ⟨he, rfl, hB⟩ | ⟨he, ap, rfl, hap, haw, ⟨rv', hN', hown⟩, hm⟩
    · have HE := hidden he
      have HA4 := hidden (HA3.out.later hB)
      have HC4 := hidden (HC3.out.later hB)
      obtain ⟨ec, hec⟩ : ∃ ec, ec = repE S (rqT o ts) o.now := ⟨_, rfl⟩
      rw [← hec]
      have HEC := hidden hec
      clear hB hec he TC HA3 HC3 HNF
      obtain ⟨b19, hb19⟩ : ∃ b19, b19 = X4.heap.size := ⟨_, rfl⟩
      go_upto_region 14 with fail
      obtain ⟨W5, hW5⟩ : ∃ W5, W5 = X4.alloc (.cells (#[.slice none 0 0, .int .i64 0, .int .i64 0]) 34) := ⟨_, rfl⟩
      have hB5 : Below X4.heap.size X4 W5 := by rw [hW5]; exact (Below.refl _ _).alloc (Nat.le_refl _) _
      have HA5 := hidden (HA4.out.later hB5)
      have HC5 := hidden (HC4.out.later hB5)
      have HR5 : Hid (Has W5 b19 (#[.slice none 0 0, .int .i64 0, .int .i64 0]) 34) := by rw [hb19, hW5]; exact Has.new _ _ _
      have HB5 := hidden hB5
      have HB19 : Hid (w.heap.size + 1 < b19) := by rw [hb19]; exact HA4.out.rb.lt
      rw [← hW5, ← hb19]
      clear hW5 hB5 hb19
      obtain ⟨v, P2, hR, hFD⟩ := HA5.out.b2.ro
      have TD := r_report (now := o.now) hR HGG.out (HRP.out.later HA5.out.b2.bl) (fun k hk => ⟨Nat.lt_of_lt_of_le hk HA5.out.b2.bl.size, fun e => by have := hFD k e; omega⟩)
      have HRR := hidden (And.intro hR hFD)
      have j0 := HC5.out.cell 0 (v := .int .u8 o.q.c.kd) rfl
      have j1 := HC5.out.cell 1 (v := .int .u8 o.q.c.fg) rfl
      have j2 := HC5.out.cell 2 (v := .int .u32 ts) rfl
      have j3 := HC5.out.cell 3 (v := .int .u16 o.q.c.sm) rfl
      have j4 := HC5.out.cell 4 (v := .int .u16 o.q.c.sn) rfl
      have j5 := HC5.out.cell 5 (v := .int .u32 o.q.c.pr) rfl
      have j6 := HC5.out.cell 6 (v := .int .u32 o.q.c.tag) rfl
      have j7 := HC5.out.cell 7 (v := .int .u32 o.q.c.win) rfl
      have j8 := HC5.out.cell 8 (v := .int .u16 o.q.c.out) rfl
      have j9 := HC5.out.cell 9 (v := .int .u16 o.q.c.inn) rfl
      have j10 := HC5.out.cell 10 (v := .slice o.q.c.ga o.q.c.gl o.q.c.gc) rfl
      have j11 := HC5.out.cell 11 (v := .slice o.q.c.na o.q.c.nl o.q.c.nc) rfl
      have j12 := HC5.out.cell 12 (v := .slice o.q.c.da o.q.c.dl o.q.c.dc) rfl
      have j13 := HC5.out.cell 13 (v := .slice o.q.c.ba o.q.c.bl o.q.c.bc) rfl
      have j14 := HC5.out.cell 14 (v := .slice o.q.c.pa o.q.c.pl o.q.c.pc) rfl
      have l2 := HA5.out.ob.cell 2 (v := .int .i64 o.now) rfl
      unfold kv kcs ckT at TD
      dsimp only at TD
      have TD := hidden TD
      clear hR hFD
      go_wp2_with fail
      clear j0 j1 j2 j3 j4 j5 j6 j7 j8 j9 j10 j11 j12 j13 j14 l2
      refine Calls.mono TD.out ?_
      rintro e X6 hO
      rcases hO with ⟨he, rfl, hB⟩ | ⟨he, _⟩
      rotate_left
      · exact absurd he HE.out
      rw [← HEC.out]
      have HA6 := hidden (HA5.out.later hB)
      have HR6 := hidden (HR5.out.later hB)
      clear hB he TD HA5 HR5 HRR HC5 HA4 HC4 HB5
      obtain ⟨b21, hb21⟩ : ∃ b21, b21 = X6.heap.size := ⟨_, rfl⟩
      go_upto_region 15 with fail
      obtain ⟨W8, hW8⟩ : ∃ W8, W8 = X6.alloc (.cells (#[.slice none 0 0, .int .i64 0, .int .i64 0]) 34) := ⟨_, rfl⟩
      have hB8 : Below X6.heap.size X6 W8 := by rw [hW8]; exact (Below.refl _ _).alloc (Nat.le_refl _) _
      have HA8 := hidden (HA6.out.later hB8)
      have HR8a := hidden (HR6.out.later hB8)
      have HR8b : Hid (Has W8 b21 (#[.slice none 0 0, .int .i64 0, .int .i64 0]) 34) := by rw [hb21, hW8]; exact Has.new _ _ _
      have HB8 := hidden hB8
      rw [← hW8, ← hb21]
      clear hW8 hB8 hb21
      have HR1 : Hid (∀ X, Below W8.heap.size W8 X → (Instr.loadAt 34 (.pointer (some ⟨b19, 0, none⟩))).run Try.prog X = .ok (.agg #[.slice none 0 0, .int .i64 0, .int .i64 0]) X) := fun X hX => load_rpt _ _ _ _ _ (HR8a.out.later hX)
      have HR2 : Hid (∀ X, Below W8.heap.size W8 X → (Instr.loadAt 34 (.pointer (some ⟨b21, 0, none⟩))).run Try.prog X = .ok (.agg #[.slice none 0 0, .int .i64 0, .int .i64 0]) X) := fun X hX => load_rpt _ _ _ _ _ (HR8b.out.later hX)
      have HSR : Hid (∀ X, Below W8.heap.size W8 X → Calls Try.prog 33 #[.agg #[.slice none 0 0, .int .i64 0, .int .i64 0], .agg #[.slice none 0 0, .int .i64 0, .int .i64 0]] X fun e w' => e = .returned (.bool true) ∧ Below X.heap.size X w') := fun X hX => r_same_none 0 0 X
      have HST : Hid (∀ X, Below W8.heap.size W8 X → (Instr.storeAt 34 (.pointer (some ⟨w.heap.size + 1, 0, none⟩)) (.agg #[.slice none 0 0, .int .i64 0, .int .i64 0])).run Try.prog X = .ok () (X.setRow (w.heap.size + 1) (#[.slice none 0 0, .int .i64 0, .int .i64 0]))) := fun X hX => rep_row _ _ _ _ _ (HA8.out.rb.later hX) rfl
      have ESR : Hid (∀ (args : Array Value) (w : World), (callFunc 33 args).run Try.prog w = .ok (.enter 33 args) w) := enters_of Try.func33 (by kernel_rfl) rfl
      refine Ord.wp_region_ex0 (X := Unit) (by kernel_rfl) 161 (fun xq => [(some 126, .agg #[.slice none 0 0, .int .i64 0, .int .i64 0]), (some 127, .agg #[.slice none 0 0, .int .i64 0, .int .i64 0]), (some 128, .agg #[.slice none 0 0, .int .i64 0, .int .i64 0]), (some 129, .bool true), (some 130, .bool true), (some 131, .int .i64 ec), (some 132, .int .i64 ec), (some 133, .bool true), (some 134, .bool true), (none, undef), (some 7, .bool true)]) [some 126, some 127, some 128, some 129, some 130, some 131, some 132, some 133, some 134, none, some 7] rfl (fun listed hsz hr => Ord.all_listedC (rank := [0, 1, 2, 3, 4, 5, 6, 7, 8, 9, 10]) (by kernel_rfl) hsz hr) (by rfl) (fun _ => rfl) (by kernel_rfl) (Rg.StM [3, 9] (fun sk sx w' => (sk ≤ 1 → Below W8.heap.size W8 w') ∧ (sk = 2 → ∃ X, Below W8.heap.size W8 X ∧ w' = X.setRow (w.heap.size + 1) #[.slice none 0 0, .int .i64 0, .int .i64 0]))) (fun _ _ _ _ hL h => h.ext (n := 11) (by decide) hL) ?_ ?_ () ?_
      case refine_1 =>
        intro xq Lq iq oq ac w' ho hi hcl hdep hF hW
        have f1 : ac.tmps.size = 161 := hF.1
        match iq, ho, hi, hdep with
        | 0, ho, hi, hdep =>
          cases ho
          have da0 : ac.eval (.tmp 19) = .pointer (some ⟨b19, 0, none⟩) := hF.old 19 rfl
          obtain ⟨kq, hlo, hhi, hA⟩ := hW.range 0 1 (.inl rfl) (.inr ⟨9, rfl, (Rg.no_of (fun h => hcl 9 _ rfl (h) ⟨0, .data⟩ (by simp) rfl) hi)⟩)
          exact Ord.ex_value xq rfl rfl (Rg.load da0 rfl (HR1.out _ (hA.1 (by omega)))) rfl (hW.keep (by decide))
        | 1, ho, hi, hdep =>
          cases ho
          have da0 : ac.eval (.tmp 19) = .pointer (some ⟨b19, 0, none⟩) := hF.old 19 rfl
          obtain ⟨kq, hlo, hhi, hA⟩ := hW.range 0 0 (.inl rfl) (.inr ⟨3, rfl, (Rg.no_of (fun h => hcl 3 _ rfl (h) ⟨1, .data⟩ (by simp) rfl) hi)⟩)
          exact Ord.ex_value xq rfl rfl (Rg.load da0 rfl (HR1.out _ (hA.1 (by omega)))) rfl (hW.keep (by decide))
        | 2, ho, hi, hdep =>
          cases ho
          have da0 : ac.eval (.tmp 21) = .pointer (some ⟨b21, 0, none⟩) := hF.old 21 rfl
          obtain ⟨kq, hlo, hhi, hA⟩ := hW.range 0 0 (.inl rfl) (.inr ⟨3, rfl, (Rg.no_of (fun h => hcl 3 _ rfl (h) ⟨2, .data⟩ (by simp) rfl) hi)⟩)
          exact Ord.ex_value xq rfl rfl (Rg.load da0 rfl (HR2.out _ (hA.1 (by omega)))) rfl (hW.keep (by decide))
        | 3, ho, hi, hdep =>
          cases ho
          have da0 : ac.eval (.tmp 127) = .agg #[.slice none 0 0, .int .i64 0, .int .i64 0] := hF.2.2.2 1 127 _ rfl (hdep ⟨1, .data⟩ (by simp) rfl)
          have da1 : ac.eval (.tmp 128) = .agg #[.slice none 0 0, .int .i64 0, .int .i64 0] := hF.2.2.2 2 128 _ rfl (hdep ⟨2, .data⟩ (by simp) rfl)
          have hA := hW.at (k := 0) rfl hi (.inl rfl)
          exact Rg.ex_call xq rfl rfl (Rg.enter (args := #[.agg #[.slice none 0 0, .int .i64 0, .int .i64 0], .agg #[.slice none 0 0, .int .i64 0, .int .i64 0]]) rfl rfl (by simp [da0, da1]) ESR.out) (Calls.mono (HSR.out _ (hA.1 (by decide))) (by rintro e w2 ⟨rfl, hB⟩; exact ⟨rfl, hW.next (k := 0) rfl (by decide) hi (.inl rfl) ⟨fun _ => (hA.1 (by decide)).trans (hB.mono (hA.1 (by decide)).size), fun e => absurd e (by decide)⟩⟩))
        | 4, ho, hi, hdep =>
          cases ho
          have da0 : ac.eval (.tmp 129) = .bool true := hF.2.2.2 3 129 _ rfl (hdep ⟨3, .data⟩ (by simp) rfl)
          exact Ord.ex_value xq rfl rfl (Rg.mv da0 rfl) rfl (hW.keep (by decide))
        | 5, ho, hi, hdep =>
          cases ho
          have dg : ac.eval (.tmp 130) = .bool true := hF.2.2.2 4 130 _ rfl (hdep ⟨4, .guard⟩ (by simp) rfl)
          have da0 : ac.eval (.tmp 20) = .int .i64 ec := hF.old 20 rfl
          exact Ord.ex_value xq rfl (Ord.wanted_of dg (by rw [f1]; decide) rfl rfl) (Rg.mv da0 rfl) rfl (hW.keep (by decide))
        | 6, ho, hi, hdep =>
          cases ho
          have dg : ac.eval (.tmp 130) = .bool true := hF.2.2.2 4 130 _ rfl (hdep ⟨4, .guard⟩ (by simp) rfl)
          have da0 : ac.eval (.tmp 22) = .int .i64 ec := hF.old 22 rfl
          exact Ord.ex_value xq rfl (Ord.wanted_of dg (by rw [f1]; decide) rfl rfl) (Rg.mv da0 rfl) rfl (hW.keep (by decide))
        | 7, ho, hi, hdep =>
          cases ho
          have dg : ac.eval (.tmp 130) = .bool true := hF.2.2.2 4 130 _ rfl (hdep ⟨4, .guard⟩ (by simp) rfl)
          have da0 : ac.eval (.tmp 131) = .int .i64 ec := hF.2.2.2 5 131 _ rfl (hdep ⟨5, .data⟩ (by simp) rfl)
          have da1 : ac.eval (.tmp 132) = .int .i64 ec := hF.2.2.2 6 132 _ rfl (hdep ⟨6, .data⟩ (by simp) rfl)
          exact Ord.ex_value xq rfl (Ord.wanted_of dg (by rw [f1]; decide) rfl rfl) (Rg.bin da0 da1 rfl (by simp [go_sem])) rfl (hW.keep (by decide))
        | 8, ho, hi, hdep =>
          cases ho
          have da0 : ac.eval (.tmp 130) = .bool true := hF.2.2.2 4 130 _ rfl (hdep ⟨4, .data⟩ (by simp) rfl)
          have da1 : ac.eval (.tmp 133) = .bool true := hF.2.2.2 7 133 _ rfl (hdep ⟨7, .data⟩ (by simp) rfl)
          exact Ord.ex_value xq rfl rfl (Rg.pick_t da0 da1 rfl) rfl (hW.keep (by decide))
        | 9, ho, hi, hdep =>
          cases ho
          have da0 : ac.eval (.tmp 6) = .pointer (some ⟨w.heap.size + 1, 0, none⟩) := hF.old 6 rfl
          have da1 : ac.eval (.tmp 126) = .agg #[.slice none 0 0, .int .i64 0, .int .i64 0] := hF.2.2.2 0 126 _ rfl (hdep ⟨0, .data⟩ (by simp) rfl)
          have hA := hW.at (k := 1) rfl hi (.inr ⟨3, rfl, (hcl 4 _ rfl (hdep ⟨4, .chain⟩ (by simp) rfl) ⟨3, .data⟩ (by simp) rfl)⟩)
          exact Rg.ex_skip xq rfl rfl (Rg.sto da0 da1 rfl (HST.out _ (hA.1 (by decide)))) rfl (hW.next (k := 1) rfl (by decide) hi (.inr ⟨3, rfl, (hcl 4 _ rfl (hdep ⟨4, .chain⟩ (by simp) rfl) ⟨3, .data⟩ (by simp) rfl)⟩) ⟨fun e => absurd e (by decide), fun _ => ⟨_, hA.1 (by decide), rfl⟩⟩)
        | 10, ho, hi, hdep =>
          cases ho
          have da0 : ac.eval (.tmp 134) = .bool true := hF.2.2.2 8 134 _ rfl (hdep ⟨8, .data⟩ (by simp) rfl)
          exact Ord.ex_value xq rfl rfl (Rg.asg da0 rfl) rfl (hW.keep (by decide))
      case refine_3 => exact Rg.StM.first ⟨fun _ => (Below.refl _ _).drew, fun e => absurd e (by decide)⟩
      case refine_2 =>
        intro v' w9 hW
        obtain ⟨X9, hBX, hw9⟩ := hW.last.2 rfl
        have HW9 := hidden hw9
        clear hW hw9
        simp only [Ord.puts, Ord.prs]
        go_simp
        have hAX := HA8.out.later hBX
        have hm9 := row_mod X9 (w.heap.size + 1) (#[.slice none 0 0, .int .i64 0, .int .i64 0]) hAX.rb
        have h9 : Has w9 (w.heap.size + 1) (#[.slice none 0 0, .int .i64 0, .int .i64 0]) 34 := by rw [HW9.out]; exact setRow_heap X9 (w.heap.size + 1) _ (#[.slice none 0 0, .int .i64 0, .int .i64 0]) 34 (0, 0) hAX.rb
        rw [← HW9.out] at hm9
        have HFIN := hidden (hAX.fin hm9)
        have H9 := hidden h9
        clear hAX hm9 h9 hBX HW9
        go_wp2
        refine bodyPost_ret (res_ct rfl rfl H9.out) rfl ⟨S, 0, _, _, _, 0, rfl, (Stp.same HGG.out o), (HGG.out.mono (Nat.le_succ K) HKK.out), HFIN.out⟩
    · have HE := hidden he
      have HA4 := hidden (HA3.out.code (S1 := repS S (rqT o ts)) HNF.out.1 HNF.out.2 hm hN' (fun k hk => .inl (hown k hk)))
      have HC4 : Hid (Has X4 b18 (kcs (ckT o ts)) 48) := HNF.out.1.far HC3.out (by decide) hm
      have HAW := hidden haw
      obtain ⟨n, hn⟩ : ∃ n, n = S.n := ⟨_, rfl⟩
      obtain ⟨fr, hfr⟩ : ∃ fr, fr = frV (tlS S (rqT o ts)) (gdS S (rqT o ts)) S.L := ⟨_, rfl⟩
      obtain ⟨rn, hrn⟩ : ∃ rn, rn = rnV (tlS S (rqT o ts)) S.L := ⟨_, rfl⟩
      rw [← hfr, ← hrn, ← hn]
      have HEQ := hidden (And.intro hn (And.intro hfr hrn))
      clear hm hN' hown haw he hn hfr hrn hap TC HA3 HC3 HNF
      obtain ⟨b19, hb19⟩ : ∃ b19, b19 = X4.heap.size := ⟨_, rfl⟩
      go_upto_region 14 with fail
      obtain ⟨W5, hW5⟩ : ∃ W5, W5 = X4.alloc (.cells (#[.slice (some ⟨ap, 0, none⟩) n n, .int .i64 fr, .int .i64 rn]) 34) := ⟨_, rfl⟩
      have hB5 : Below X4.heap.size X4 W5 := by rw [hW5]; exact (Below.refl _ _).alloc (Nat.le_refl _) _
      have HA5 := hidden (HA4.out.later hB5)
      have HC5 := hidden (HC4.out.later hB5)
      have HR5 : Hid (Has W5 b19 (#[.slice (some ⟨ap, 0, none⟩) n n, .int .i64 fr, .int .i64 rn]) 34) := by rw [hb19, hW5]; exact Has.new _ _ _
      have HB5 := hidden hB5
      have HB19 : Hid (w.heap.size + 1 < b19) := by rw [hb19]; exact HA4.out.rb.lt
      rw [← hW5, ← hb19]
      clear hW5 hB5 hb19
      obtain ⟨v, P2, hR, hFD⟩ := HA5.out.b2.ro
      have TD := r_report (now := o.now) hR HGG.out (HRP.out.later HA5.out.b2.bl) (fun k hk => ⟨Nat.lt_of_lt_of_le hk HA5.out.b2.bl.size, fun e => by have := hFD k e; omega⟩)
      have HRR := hidden (And.intro hR hFD)
      have j0 := HC5.out.cell 0 (v := .int .u8 o.q.c.kd) rfl
      have j1 := HC5.out.cell 1 (v := .int .u8 o.q.c.fg) rfl
      have j2 := HC5.out.cell 2 (v := .int .u32 ts) rfl
      have j3 := HC5.out.cell 3 (v := .int .u16 o.q.c.sm) rfl
      have j4 := HC5.out.cell 4 (v := .int .u16 o.q.c.sn) rfl
      have j5 := HC5.out.cell 5 (v := .int .u32 o.q.c.pr) rfl
      have j6 := HC5.out.cell 6 (v := .int .u32 o.q.c.tag) rfl
      have j7 := HC5.out.cell 7 (v := .int .u32 o.q.c.win) rfl
      have j8 := HC5.out.cell 8 (v := .int .u16 o.q.c.out) rfl
      have j9 := HC5.out.cell 9 (v := .int .u16 o.q.c.inn) rfl
      have j10 := HC5.out.cell 10 (v := .slice o.q.c.ga o.q.c.gl o.q.c.gc) rfl
      have j11 := HC5.out.cell 11 (v := .slice o.q.c.na o.q.c.nl o.q.c.nc) rfl
      have j12 := HC5.out.cell 12 (v := .slice o.q.c.da o.q.c.dl o.q.c.dc) rfl
      have j13 := HC5.out.cell 13 (v := .slice o.q.c.ba o.q.c.bl o.q.c.bc) rfl
      have j14 := HC5.out.cell 14 (v := .slice o.q.c.pa o.q.c.pl o.q.c.pc) rfl
      have l2 := HA5.out.ob.cell 2 (v := .int .i64 o.now) rfl
      unfold kv kcs ckT at TD
      dsimp only at TD
      have TD := hidden TD
      clear hR hFD
      go_wp2_with fail
      clear j0 j1 j2 j3 j4 j5 j6 j7 j8 j9 j10 j11 j12 j13 j14 l2
      refine Calls.mono TD.out ?_
      rintro e X6 hO
      rcases hO with ⟨he, _⟩ | ⟨he, ap2, cap2, hcap, rfl, hap2, haw2, ⟨v2, P3, hR2, hown⟩, hm⟩
      · exact absurd HE.out he
      have HA6 := hidden (HA5.out.docc (S1 := repS S (rqT o ts)) HRR.out.1 HRR.out.2 hm ⟨P3, hR2⟩ (fun k hk => .inr (hown k hk)))
      have HR6 : Hid (Has X6 b19 #[.slice (some ⟨ap, 0, none⟩) n n, .int .i64 fr, .int .i64 rn] 34) := HRR.out.1.far HR5.out (by decide) hm
      have HAW6 : Hid (Aw X6 ap n (fun p => akV (tlS S (rqT o ts)) (gdS S (rqT o ts)) o.now S.L p)) := by rw [HEQ.out.1]; exact (HAW.out.later HB5.out).ro HRR.out.1 hm
      rw [← HEQ.out.1] at hcap haw2
      have HAW2 := hidden haw2
      have HCAP := hidden hcap
      rw [← HEQ.out.1, ← HEQ.out.2.1, ← HEQ.out.2.2]
      clear he hap2 haw2 hR2 hown hm hcap TD HA5 HR5 HRR HC5 HA4 HC4 HB5
      obtain ⟨b21, hb21⟩ : ∃ b21, b21 = X6.heap.size := ⟨_, rfl⟩
      go_upto_region 15 with fail
      obtain ⟨W8, hW8⟩ : ∃ W8, W8 = X6.alloc (.cells (#[.slice (some ⟨ap2, 0, none⟩) n cap2, .int .i64 fr, .int .i64 rn]) 34) := ⟨_, rfl⟩
      have hB8 : Below X6.heap.size X6 W8 := by rw [hW8]; exact (Below.refl _ _).alloc (Nat.le_refl _) _
      have HA8 := hidden (HA6.out.later hB8)
      have HR8a := hidden (HR6.out.later hB8)
      have HR8b : Hid (Has W8 b21 (#[.slice (some ⟨ap2, 0, none⟩) n cap2, .int .i64 fr, .int .i64 rn]) 34) := by rw [hb21, hW8]; exact Has.new _ _ _
      have HB8 := hidden hB8
      rw [← hW8, ← hb21]
      clear hW8 hB8 hb21
      have HR1 : Hid (∀ X, Below W8.heap.size W8 X → (Instr.loadAt 34 (.pointer (some ⟨b19, 0, none⟩))).run Try.prog X = .ok (.agg #[.slice (some ⟨ap, 0, none⟩) n n, .int .i64 fr, .int .i64 rn]) X) := fun X hX => load_rpt _ _ _ _ _ (HR8a.out.later hX)
      have HR2 : Hid (∀ X, Below W8.heap.size W8 X → (Instr.loadAt 34 (.pointer (some ⟨b21, 0, none⟩))).run Try.prog X = .ok (.agg #[.slice (some ⟨ap2, 0, none⟩) n cap2, .int .i64 fr, .int .i64 rn]) X) := fun X hX => load_rpt _ _ _ _ _ (HR8b.out.later hX)
      have HSR : Hid (∀ X, Below W8.heap.size W8 X → Calls Try.prog 33 #[.agg #[.slice (some ⟨ap, 0, none⟩) n n, .int .i64 fr, .int .i64 rn], .agg #[.slice (some ⟨ap2, 0, none⟩) n cap2, .int .i64 fr, .int .i64 rn]] X fun e w' => e = .returned (.bool true) ∧ Below X.heap.size X w') := fun X hX => r_same_report ((HAW6.out.later HB8.out).later hX) ((HAW2.out.later HB8.out).later hX) (by rw [HEQ.out.1]; exact HGG.out.n8) n cap2 (Nat.le_refl _) HCAP.out fr rn
      have HST : Hid (∀ X, Below W8.heap.size W8 X → (Instr.storeAt 34 (.pointer (some ⟨w.heap.size + 1, 0, none⟩)) (.agg #[.slice (some ⟨ap, 0, none⟩) n n, .int .i64 fr, .int .i64 rn])).run Try.prog X = .ok () (X.setRow (w.heap.size + 1) (#[.slice (some ⟨ap, 0, none⟩) n n, .int .i64 fr, .int .i64 rn]))) := fun X hX => rep_row _ _ _ _ _ (HA8.out.rb.later hX) rfl
      have ESR : Hid (∀ (args : Array Value) (w : World), (callFunc 33 args).run Try.prog w = .ok (.enter 33 args) w) := enters_of Try.func33 (by kernel_rfl) rfl
      refine Ord.wp_region_ex0 (X := Unit) (by kernel_rfl) 161 (fun xq => [(some 126, .agg #[.slice (some ⟨ap, 0, none⟩) n n, .int .i64 fr, .int .i64 rn]), (some 127, .agg #[.slice (some ⟨ap, 0, none⟩) n n, .int .i64 fr, .int .i64 rn]), (some 128, .agg #[.slice (some ⟨ap2, 0, none⟩) n cap2, .int .i64 fr, .int .i64 rn]), (some 129, .bool true), (some 130, .bool true), (some 131, .int .i64 0), (some 132, .int .i64 0), (some 133, .bool true), (some 134, .bool true), (none, undef), (some 7, .bool true)]) [some 126, some 127, some 128, some 129, some 130, some 131, some 132, some 133, some 134, none, some 7] rfl (fun listed hsz hr => Ord.all_listedC (rank := [0, 1, 2, 3, 4, 5, 6, 7, 8, 9, 10]) (by kernel_rfl) hsz hr) (by rfl) (fun _ => rfl) (by kernel_rfl) (Rg.StM [3, 9] (fun sk sx w' => (sk ≤ 1 → Below W8.heap.size W8 w') ∧ (sk = 2 → ∃ X, Below W8.heap.size W8 X ∧ w' = X.setRow (w.heap.size + 1) #[.slice (some ⟨ap, 0, none⟩) n n, .int .i64 fr, .int .i64 rn]))) (fun _ _ _ _ hL h => h.ext (n := 11) (by decide) hL) ?_ ?_ () ?_
      case refine_1 =>
        intro xq Lq iq oq ac w' ho hi hcl hdep hF hW
        have f1 : ac.tmps.size = 161 := hF.1
        match iq, ho, hi, hdep with
        | 0, ho, hi, hdep =>
          cases ho
          have da0 : ac.eval (.tmp 19) = .pointer (some ⟨b19, 0, none⟩) := hF.old 19 rfl
          obtain ⟨kq, hlo, hhi, hA⟩ := hW.range 0 1 (.inl rfl) (.inr ⟨9, rfl, (Rg.no_of (fun h => hcl 9 _ rfl (h) ⟨0, .data⟩ (by simp) rfl) hi)⟩)
          exact Ord.ex_value xq rfl rfl (Rg.load da0 rfl (HR1.out _ (hA.1 (by omega)))) rfl (hW.keep (by decide))
        | 1, ho, hi, hdep =>
          cases ho
          have da0 : ac.eval (.tmp 19) = .pointer (some ⟨b19, 0, none⟩) := hF.old 19 rfl
          obtain ⟨kq, hlo, hhi, hA⟩ := hW.range 0 0 (.inl rfl) (.inr ⟨3, rfl, (Rg.no_of (fun h => hcl 3 _ rfl (h) ⟨1, .data⟩ (by simp) rfl) hi)⟩)
          exact Ord.ex_value xq rfl rfl (Rg.load da0 rfl (HR1.out _ (hA.1 (by omega)))) rfl (hW.keep (by decide))
        | 2, ho, hi, hdep =>
          cases ho
          have da0 : ac.eval (.tmp 21) = .pointer (some ⟨b21, 0, none⟩) := hF.old 21 rfl
          obtain ⟨kq, hlo, hhi, hA⟩ := hW.range 0 0 (.inl rfl) (.inr ⟨3, rfl, (Rg.no_of (fun h => hcl 3 _ rfl (h) ⟨2, .data⟩ (by simp) rfl) hi)⟩)
          exact Ord.ex_value xq rfl rfl (Rg.load da0 rfl (HR2.out _ (hA.1 (by omega)))) rfl (hW.keep (by decide))
        | 3, ho, hi, hdep =>
          cases ho
          have da0 : ac.eval (.tmp 127) = .agg #[.slice (some ⟨ap, 0, none⟩) n n, .int .i64 fr, .int .i64 rn] := hF.2.2.2 1 127 _ rfl (hdep ⟨1, .data⟩ (by simp) rfl)
          have da1 : ac.eval (.tmp 128) = .agg #[.slice (some ⟨ap2, 0, none⟩) n cap2, .int .i64 fr, .int .i64 rn] := hF.2.2.2 2 128 _ rfl (hdep ⟨2, .data⟩ (by simp) rfl)
          have hA := hW.at (k := 0) rfl hi (.inl rfl)
          exact Rg.ex_call xq rfl rfl (Rg.enter (args := #[.agg #[.slice (some ⟨ap, 0, none⟩) n n, .int .i64 fr, .int .i64 rn], .agg #[.slice (some ⟨ap2, 0, none⟩) n cap2, .int .i64 fr, .int .i64 rn]]) rfl rfl (by simp [da0, da1]) ESR.out) (Calls.mono (HSR.out _ (hA.1 (by decide))) (by rintro e w2 ⟨rfl, hB⟩; exact ⟨rfl, hW.next (k := 0) rfl (by decide) hi (.inl rfl) ⟨fun _ => (hA.1 (by decide)).trans (hB.mono (hA.1 (by decide)).size), fun e => absurd e (by decide)⟩⟩))
        | 4, ho, hi, hdep =>
          cases ho
          have da0 : ac.eval (.tmp 129) = .bool true := hF.2.2.2 3 129 _ rfl (hdep ⟨3, .data⟩ (by simp) rfl)
          exact Ord.ex_value xq rfl rfl (Rg.mv da0 rfl) rfl (hW.keep (by decide))
        | 5, ho, hi, hdep =>
          cases ho
          have dg : ac.eval (.tmp 130) = .bool true := hF.2.2.2 4 130 _ rfl (hdep ⟨4, .guard⟩ (by simp) rfl)
          have da0 : ac.eval (.tmp 20) = .int .i64 0 := hF.old 20 rfl
          exact Ord.ex_value xq rfl (Ord.wanted_of dg (by rw [f1]; decide) rfl rfl) (Rg.mv da0 rfl) rfl (hW.keep (by decide))
        | 6, ho, hi, hdep =>
          cases ho
          have dg : ac.eval (.tmp 130) = .bool true := hF.2.2.2 4 130 _ rfl (hdep ⟨4, .guard⟩ (by simp) rfl)
          have da0 : ac.eval (.tmp 22) = .int .i64 0 := hF.old 22 rfl
          exact Ord.ex_value xq rfl (Ord.wanted_of dg (by rw [f1]; decide) rfl rfl) (Rg.mv da0 rfl) rfl (hW.keep (by decide))
        | 7, ho, hi, hdep =>
          cases ho
          have dg : ac.eval (.tmp 130) = .bool true := hF.2.2.2 4 130 _ rfl (hdep ⟨4, .guard⟩ (by simp) rfl)
          have da0 : ac.eval (.tmp 131) = .int .i64 0 := hF.2.2.2 5 131 _ rfl (hdep ⟨5, .data⟩ (by simp) rfl)
          have da1 : ac.eval (.tmp 132) = .int .i64 0 := hF.2.2.2 6 132 _ rfl (hdep ⟨6, .data⟩ (by simp) rfl)
          exact Ord.ex_value xq rfl (Ord.wanted_of dg (by rw [f1]; decide) rfl rfl) (Rg.bin da0 da1 rfl (by simp [go_sem])) rfl (hW.keep (by decide))
        | 8, ho, hi, hdep =>
          cases ho
          have da0 : ac.eval (.tmp 130) = .bool true := hF.2.2.2 4 130 _ rfl (hdep ⟨4, .data⟩ (by simp) rfl)
          have da1 : ac.eval (.tmp 133) = .bool true := hF.2.2.2 7 133 _ rfl (hdep ⟨7, .data⟩ (by simp) rfl)
          exact Ord.ex_value xq rfl rfl (Rg.pick_t da0 da1 rfl) rfl (hW.keep (by decide))
        | 9, ho, hi, hdep =>
          cases ho
          have da0 : ac.eval (.tmp 6) = .pointer (some ⟨w.heap.size + 1, 0, none⟩) := hF.old 6 rfl
          have da1 : ac.eval (.tmp 126) = .agg #[.slice (some ⟨ap, 0, none⟩) n n, .int .i64 fr, .int .i64 rn] := hF.2.2.2 0 126 _ rfl (hdep ⟨0, .data⟩ (by simp) rfl)
          have hA := hW.at (k := 1) rfl hi (.inr ⟨3, rfl, (hcl 4 _ rfl (hdep ⟨4, .chain⟩ (by simp) rfl) ⟨3, .data⟩ (by simp) rfl)⟩)
          exact Rg.ex_skip xq rfl rfl (Rg.sto da0 da1 rfl (HST.out _ (hA.1 (by decide)))) rfl (hW.next (k := 1) rfl (by decide) hi (.inr ⟨3, rfl, (hcl 4 _ rfl (hdep ⟨4, .chain⟩ (by simp) rfl) ⟨3, .data⟩ (by simp) rfl)⟩) ⟨fun e => absurd e (by decide), fun _ => ⟨_, hA.1 (by decide), rfl⟩⟩)
        | 10, ho, hi, hdep =>
          cases ho
          have da0 : ac.eval (.tmp 134) = .bool true := hF.2.2.2 8 134 _ rfl (hdep ⟨8, .data⟩ (by simp) rfl)
          exact Ord.ex_value xq rfl rfl (Rg.asg da0 rfl) rfl (hW.keep (by decide))
      case refine_3 => exact Rg.StM.first ⟨fun _ => (Below.refl _ _).drew, fun e => absurd e (by decide)⟩
      case refine_2 =>
        intro v' w9 hW
        obtain ⟨X9, hBX, hw9⟩ := hW.last.2 rfl
        have HW9 := hidden hw9
        clear hW hw9
        simp only [Ord.puts, Ord.prs]
        go_simp
        have hAX := HA8.out.later hBX
        have hm9 := row_mod X9 (w.heap.size + 1) (#[.slice (some ⟨ap, 0, none⟩) n n, .int .i64 fr, .int .i64 rn]) hAX.rb
        have h9 : Has w9 (w.heap.size + 1) (#[.slice (some ⟨ap, 0, none⟩) n n, .int .i64 fr, .int .i64 rn]) 34 := by rw [HW9.out]; exact setRow_heap X9 (w.heap.size + 1) _ (#[.slice (some ⟨ap, 0, none⟩) n n, .int .i64 fr, .int .i64 rn]) 34 (0, 0) hAX.rb
        rw [← HW9.out] at hm9
        have HFIN := hidden (hAX.fin hm9)
        have H9 := hidden h9
        clear hAX hm9 h9 hBX HW9
        go_wp2
        refine bodyPost_ret (res_ct rfl rfl H9.out) rfl ⟨repS S (rqT o ts), fr, _, _, _, rn, rfl, (.inr ⟨fun e => absurd (HHK.out.symm.trans e) (by decide), rfl, by rw [HEQ.out.2.1]; exact kp_rep HGG.out _⟩), (HGG.out.rep HKK.out (rqT o ts) o.now HTS.out HE.out), HFIN.out⟩
/-- every act -/
theorem act (h : Bx w0 w t r S) (hG : Good K S) (hK : K + 1 ≤ 1000) (o : OA) (ho : OkO w0 o) :
    Calls Try.prog 12 #[.pointer (some ⟨t, 0, none⟩), .pointer (some ⟨r, 0, none⟩), opv o] w fun e w' => AcO K w0 w' t r S o e := by
  by_cases h1 : o.kd = 1
  · exact act_put h hG hK o ho h1
  by_cases h2 : o.kd = 2
  · exact act_again h hG hK o ho h2
  by_cases h3 : o.kd = 3
  · exact act_report h hG hK o ho h3
  by_cases h4 : o.kd = 4
  · exact act_timeout h hG hK o ho h4
  exact act_none h hG hK o ho (fun h => h.elim h1 (fun h => h.elim h2 (fun h => h.elim h3 h4)))
end
section
variable {K : Nat} {w0 w x1 x2 X X' : World} {t r f : Nat} {S S' : St} {v : Value} {P : List CV} {o : OA} {fi n fr : Int} {F : Nat → Prop}
theorem Bx.new (h1 : 1 ≤ n) (hC : Cd (fun k => w.heap.size ≤ k) x1 t (newS fi n) F) (hF : ∀ k, F k → w.heap.size ≤ k) (hB1 : Below w.heap.size w x1) (hR : Ro (fun k => w.heap.size ≤ k) x2 r (.slice none 0 0) [] n.toNat ((fi - 1) % 4294967296) []) (hr : x1.heap.size ≤ r) (hB2 : Below x1.heap.size x1 x2) : Bx w x2 t r (newS fi n) := by
  obtain ⟨f, rv, P, hN, hFF⟩ := hC.later hB2
  refine ⟨hB1.trans (hB2.mono hB1.size), ⟨f, rv, P, hN, fun k hk => hF k ((hFF k).2 hk)⟩, ⟨_, _, hR, fun k hk => ?_⟩⟩
  rcases hk with rfl | hk
  · exact Nat.le_trans hB1.size hr
  · cases hk
theorem kp_bound (h : Good K S) : 0 ≤ kp S.L ∧ kp S.L ≤ 65536000 := by
  have := sm_bound (f := kpF) (B := 65536) S.L (fun x hx => ⟨kpF_nn x, by have h1 := (h.ch x hx).d2; have h2 := kpF_le x; unfold sz at h2; omega⟩)
  have h1 := h.len
  have h2 := h.k
  unfold kp
  omega
theorem kp_take (h : Good K S) (j : Nat) : 0 ≤ sm kpF (S.L.take j) ∧ sm kpF (S.L.take j) ≤ 65536000 := by
  have := sm_bound (f := kpF) (B := 65536) (S.L.take j) (fun x hx => ⟨kpF_nn x, by have h1 := (h.ch x (List.mem_of_mem_take hx)).d2; have h2 := kpF_le x; unfold sz at h2; omega⟩)
  have h1 := h.len
  have h2 := h.k
  have h3 : (S.L.take j).length ≤ S.L.length := by rw [List.length_take]; omega
  omega
/-- was a chunk put -/
def putB (S S' : St) (o : OA) : Bool := decide (o.kd = 1) && !(nextS S' == nextS S)
theorem Stp.put (h : Stp S o S' fr) (hG : Good K S) (hG' : Good K S') : (putB S S' o = true ∧ o.kd = 1 ∧ S'.L.length = S.L.length + 1 ∧ kp S'.L + fr = kp S.L + (o.p.m.zs.length : Int) ∧ o.p.m.zs.length ≤ 65536) ∨ (putB S S' o = false ∧ kp S'.L + fr = kp S.L) := by
  rcases h with ⟨h1, h2, h3, h4, x, h5, h6, h7⟩ | ⟨h1, h2, h3⟩
  · refine .inl ⟨?_, h1, by rw [h5]; simp, ?_⟩
    · unfold putB
      rw [decide_eq_true h1, Bool.true_and]
      have h0 := hG.c0
      have hl := hG.len
      have hk := hG.k
      have : nextS S' ≠ nextS S := by
        unfold nextS
        rw [h3, h5, List.length_append]
        simp only [List.length_cons, List.length_nil]
        omega
      simp [this]
    · rw [h5, h4]
      unfold kp
      rw [sm_append, sm_one]
      have : kpF x = (o.p.m.zs.length : Int) := by unfold kpF sz; rw [if_neg (by rw [h6]; decide), h7]
      refine ⟨by omega, ?_⟩
      rw [← h7]
      exact (hG'.ch x (by rw [h5]; simp)).d2
  · refine .inr ⟨?_, h3⟩
    unfold putB
    by_cases hk : o.kd = 1
    · rw [h1 hk]; simp
    · rw [decide_eq_false hk]; rfl
/-- an act that came in -/
theorem op_at {a : Option Addr} {n : Nat} {zs : List OA} (h : Ops w a n zs) (hB : Below w.heap.size w X) {j : Nat} (hj : j < n) : ∃ b off z, a = some ⟨b, off, none⟩ ∧ zs[j]? = some z ∧ OkO w z ∧ (∀ c u, (ocell z)[c]? = some u → X.cell? ⟨b, off + j * 26 + c, none⟩ = some u) := h.at hB hj
theorem loads_at {Pr : Program} {w : World} {ad : Addr} {ty : TypeId} (cs : Array Value) (d : TypeDesc) (hc : ∀ j v, cs.toList[j]? = some v → w.cell? (ad.add j) = some v) (hu : Pr.underlying ty = some d) (hd : (match d with | .struct _ | .array _ _ => true | _ => false) = true) (hi : (Pr.info? ty).map (·.size) = some cs.size) :
    (loadVar ty ad).run Pr w = .ok (.agg cs) w := by
  have hl := run_loadCells_list (P := Pr) w ad cs.toList hc
  cases hq : Pr.info? ty with
  | none => simp [hq] at hi
  | some i =>
    have hs : i.size = cs.size := by simpa [hq] using hi
    have ha : (isAgg ty).run Pr w = .ok true w := by
      unfold isAgg
      rw [Sem.run_bind, run_underlying hu w]
      cases d <;> simp_all
    simp only [Array.length_toList, Array.toArray_toList] at hl
    simp [loadVar, Sem.run_bind, ha, sizeOf, typeInfo, hq, hs, hl]
theorem load26 {b o' : Nat} {z : OA} (h : ∀ c u, (ocell z)[c]? = some u → X.cell? ⟨b, o' + c, none⟩ = some u) : (loadVar 50 ⟨b, o', none⟩).run Try.prog X = .ok (opv z) X :=
  loads_at (ocell z).toArray _ (fun j v hj => by rw [add_at]; exact h j v (by simpa using hj)) Try.underlying50 rfl (by kernel_rfl)
theorem wpList_ld {Pr : Program} {ops : Array Oper} {rest : List Oper} {oq : Oper} {a : Act} {w : World} {Q : Exit → Act → World → Prop} (hgd : oq.guard = none) (ty : TypeId) (x : Operand) (ho : oq.op = .load ty x) (ad : Addr) (hx : a.eval x = .pointer (some ad)) (v : Value) (hr : (loadVar ty ad).run Pr w = .ok v w) (h : wpList Pr ops Q rest (a.put oq.dst v) w) : wpList Pr ops Q (oq :: rest) a w :=
  wpList_plain hgd fun K hK => by
    unfold Oper.wp execOp
    simp only [ho, hx, Instr.loadAt, Instr.sureAddr, Sem.run_bind, Sem.run_pure, Result.andThen_ok, hr]
    exact hK _ _ h
end
end Go.Proofs.Ytjceeckcfjjkkaa.Ob
