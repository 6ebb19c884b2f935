/-
  The order of the paths that are fit, the next one, the one that a chunk takes when it is sent anew.
  Conditions: as at each lemma.
-/
import Derived.Test.YtcflcibncbipbaaScF
namespace Go.Proofs.Ytcflcibncbipbaa.Sc
open Go.ChangeShapes Go.WideShapes Go.ChangeAt Go.RowKit Go.Sort Go.Lib
open Ba (hidden Has Only)
open Ow (Own)
set_option linter.unusedVariables false

def ord (kind last : Int) (vs : List Vw) : List Int := srt (lx (cst kind last vs)) (fit vs)
def kB (kind : Int) : Bool := decide (0 ≤ kind ∧ kind ≤ 2)
def oE (kind : Int) (vs : List Vw) : Int := bif decide (chk vs = 0) then (bif kB kind then 0 else 5) else chk vs
def oL (kind last : Int) (vs : List Vw) : List Int := bif decide (chk vs = 0) && kB kind then ord kind last vs else []
theorem o_no {vs : List Vw} (h : ¬ chk vs = 0) (kind last : Int) : oE kind vs = chk vs ∧ oL kind last vs = [] := by unfold oE oL; rw [decide_eq_false h]; exact ⟨rfl, rfl⟩
theorem o_out {vs : List Vw} (h : chk vs = 0) {kind : Int} (hk : ¬ (0 ≤ kind ∧ kind ≤ 2)) (last : Int) : oE kind vs = 5 ∧ oL kind last vs = [] := by unfold oE oL kB; rw [decide_eq_true h, decide_eq_false hk]; exact ⟨rfl, rfl⟩
theorem o_ok {vs : List Vw} (h : chk vs = 0) {kind : Int} (hk : 0 ≤ kind ∧ kind ≤ 2) (last : Int) : oE kind vs = 0 ∧ oL kind last vs = ord kind last vs := by unfold oE oL kB; rw [decide_eq_true h, decide_eq_true hk]; exact ⟨rfl, rfl⟩
/-- a row is told with an error -/
def RowO (w w' : World) (e : Ending) (L : List Int) (E : Int) : Prop := ∃ a k cap, e = .returned (.tuple #[.slice a k cap, .int .i64 E]) ∧ w'.ownsRow w.heap.size 3 1 (.slice a k cap) k (lc L) ∧ Below w.heap.size w w'
theorem fit_wf (vs : List Vw) : (fit vs).Pairwise (· < ·) ∧ (∀ x ∈ fit vs, 0 ≤ x ∧ x < vs.length) ∧ (fit vs).length ≤ vs.length := by
  obtain ⟨h1, h2, h3⟩ := cls_wf (w := 3) (q := all) (vs := vs)
  exact ⟨h1.filter _, fun x hx => h2 x (List.mem_filter.1 hx).1, Nat.le_trans (List.length_filter_le _ _) h3⟩
section
variable {w : World} {a : Option Addr} {n cap : Nat} {vs : List Vw}
theorem order_no (h : Vs w a n vs) (hc : ¬ chk vs = 0) (kind last : Int) : Calls Try.prog 8 #[.int .i64 kind, .int .i64 last, .slice a n cap] w fun e w' => RowO w w' e (oL kind last vs) (oE kind vs) := by
  rw [(o_no hc kind last).1, (o_no hc kind last).2]
  have O := hidden ((Own.refl w).alloc #[.slice a n cap] 22)
  have vc := O.out.cell (.head _) 0 rfl
  have CK := hidden (check (cap := cap) (h.later O.out.below))
  generalize chk vs = C at *
  clear h
  go_enter Try.func8, Try.ntmps8
  go_wp2_with fail
  refine Calls.mono CK.out ?_
  rintro e w1 ⟨rfl, hB⟩
  have BE := hidden (O.out.later hB).below
  clear hB O CK
  go_wp2
  go_ret2
  exact ⟨_, _, _, rfl, World.ownsRow_nil _ _ _ _, BE.out⟩
theorem order_out (h : Vs w a n vs) (hc : chk vs = 0) {kind : Int} (hk : ¬ (0 ≤ kind ∧ kind ≤ 2)) (last : Int) : Calls Try.prog 8 #[.int .i64 kind, .int .i64 last, .slice a n cap] w fun e w' => RowO w w' e (oL kind last vs) (oE kind vs) := by
  rw [(o_out hc hk last).1, (o_out hc hk last).2]
  have O := hidden ((Own.refl w).alloc #[.slice a n cap] 22)
  have vc := O.out.cell (.head _) 0 rfl
  have CK := hidden (check (cap := cap) (h.later O.out.below))
  have WI := hidden (within_f hk)
  rw [hc] at CK
  clear h hk
  go_enter Try.func8, Try.ntmps8
  go_wp2_with fail
  refine Calls.mono CK.out ?_
  rintro e w1 ⟨rfl, hB⟩
  have BE := hidden (O.out.later hB).below
  clear hB O CK
  go_wp2_with fail
  refine Calls.mono (WI.out _) ?_
  rintro e w1 ⟨rfl, rfl⟩
  go_wp2
  go_ret2
  exact ⟨_, _, _, rfl, World.ownsRow_nil _ _ _ _, BE.out⟩
set_option maxHeartbeats 1000000 in
theorem order_ok (h : Vs w a n vs) (hc : chk vs = 0) {kind : Int} (hk : 0 ≤ kind ∧ kind ≤ 2) (last : Int) : Calls Try.prog 8 #[.int .i64 kind, .int .i64 last, .slice a n cap] w fun e w' => RowO w w' e (oL kind last vs) (oE kind vs) := by
  rw [(o_ok hc hk last).1, (o_ok hc hk last).2]
  obtain ⟨h8, hv⟩ := chk_0 hc
  have hl := h.len
  have O := hidden ((Own.refl w).alloc #[.slice a n cap] 22)
  have vc := O.out.cell (.head _) 0 rfl
  have CK := hidden (check (cap := cap) (h.later O.out.below))
  have WI := hidden (within_t hk)
  rw [hc] at CK
  have H := hidden h
  have H8 := hidden h8
  have HV := hidden hv
  have HL := hidden hl
  clear h hk h8 hv hl hc
  go_enter Try.func8, Try.ntmps8
  go_wp2_with fail
  refine Calls.mono CK.out ?_
  rintro e w1 ⟨rfl, hB⟩
  have O1 := hidden (O.out.later hB)
  clear hB O CK vc
  have vc := O1.out.cell (.head _) 0 rfl
  go_wp2_with fail
  refine Calls.mono (WI.out _) ?_
  rintro e w1 ⟨rfl, rfl⟩
  go_wp2_with fail
  refine Calls.mono (class_ (qf := 20) (cb := #[]) (q := all) (H.out.later O1.out.below) (by have := H8.out; have := HL.out; omega) (fun W _ x _ _ => all_ x W) entersA (s := 3) (by decide)) ?_
  rintro e w2 ⟨v, k, rfl, hown, hB⟩
  have O2 := hidden (O1.out.later hB)
  have R2 := hidden hown
  obtain ⟨c1, c2, c3⟩ := cls_wf (w := 3) (q := all) (vs := vs)
  have hlk : (cls 3 all vs).length = k := by have := hown.1; rw [lc_len] at this; omega
  have FN : Hid (∀ g ∈ v.ownBlock.toList, w1.heap.size ≤ g ∧ g < w2.heap.size) := fun g hg => own_base hown g (by simpa using hg)
  clear hB vc WI hown
  have NW : Hid (New w v.ownBlock.toList) := fun g hg => Nat.le_trans O1.out.below.size (FN.out g hg).1
  have hvl := O1.out.lt (.head _)
  have DL := hidden (del (n0 := n) (f := 21) (cb := #[.pointer (some ⟨w.heap.size, 0, none⟩)]) (p := fun k => !fitq vs k) R2.out (by have := H8.out; have := HL.out; omega) (by have := H8.out; have := HL.out; omega) (fun x hx => by have := c2 x hx; have := HL.out; omega)
    (fun W hW x x0 x1 => unfit (vs_only H.out O2.out.below NW.out hW) (((O2.out.has (.head _)).stay hW (fun hm => by have := (FN.out _ hm).1; omega)).cell 0 rfl) x0 x1) entersU)
  have hlk2 := hidden hlk
  clear hlk c1 c2 c3
  go_wp2_with fail
  refine Calls.mono DL.out ?_
  rintro e w3 ⟨v3, rfl, hv3, hown3, ho3⟩
  have hF : ((cls 3 all vs).filter fun x => !(!fitq vs x.toNat)) = fit vs := by
    unfold fit
    congr 1
    funext x
    rw [Bool.not_not]
  rw [hF] at hown3
  have R3 := hidden hown3
  have HO3 := hidden ho3
  have HV3 := hidden hv3
  have O3 := hidden ((O2.out.sub (M := []) (by simp)).1.trans (ho3.below O2.out.below.size NW.out))
  have V3 : Hid (w3.cell? ⟨w.heap.size, 0, none⟩ = some (.slice a n cap)) := ((O2.out.has (.head _)).stay ho3 (fun hm => by have := (FN.out _ hm).1; omega)).cell 0 rfl
  have vc := V3.out
  clear hv3 hown3 ho3 DL R2 hF hvl V3
  go_wp2_with fail
  refine Calls.mono (cost_ (F := v.ownBlock.toList) H.out O3.out NW.out (fun g hg => Nat.lt_of_lt_of_le (FN.out g hg).2 HO3.out.size) (by have := H8.out; have := HL.out; omega) HV.out kind last) ?_
  rintro e w4 ⟨f, cb, rfl, eg, G4, hB4⟩
  obtain ⟨d1, d2, d3⟩ := fit_wf vs
  have G4' : Gv v3.ownBlock.toList w4 n f cb (fun x => .int .i64 (cst kind last vs x.toNat)) := by rw [HV3.out]; exact G4
  have RK := hidden (ranked (co := cst kind last vs) (row_below R3.out hB4) (by have := H8.out; omega) (by have := H8.out; have := HL.out; omega) (fun x hx => by have := d2 x hx; have := HL.out; omega) d1 G4' eg)
  have B4 := hidden hB4
  clear d1 d2 d3 G4 G4' eg hB4 vc
  go_wp2_with fail
  refine Calls.mono RK.out ?_
  rintro e w5 ⟨rfl, hown5, ho5⟩
  rw [HV3.out] at ho5
  have B5 := hidden ((O3.out.trans (B4.out.mono O3.out.size)).trans (ho5.below (Nat.le_trans O3.out.size B4.out.size) NW.out))
  obtain ⟨a5, cap5, rfl⟩ := Ba.own_len hown5
  have hln : (srt (lx (cst kind last vs)) (fit vs)).length = (fit vs).length := (srt_perm _ _).length_eq
  have R5 := hidden (Ba.own_mono (base' := w.heap.size) hown5 fun g hg => Nat.le_trans O1.out.below.size (own_base hown5 g hg).1)
  clear hown5 ho5 RK R3 hln
  go_wp2
  go_ret2
  exact ⟨_, _, _, rfl, R5.out, B5.out⟩
theorem order (h : Vs w a n vs) (kind last : Int) : Calls Try.prog 8 #[.int .i64 kind, .int .i64 last, .slice a n cap] w fun e w' => RowO w w' e (oL kind last vs) (oE kind vs) := by
  by_cases hc : chk vs = 0
  · by_cases hk : 0 ≤ kind ∧ kind ≤ 2
    · exact order_ok h hc hk last
    · exact order_out h hc hk last
  · exact order_no h hc kind last
end
end Go.Proofs.Ytcflcibncbipbaa.Sc
