/-
  Rows of chunks as bytes, as package chunk makes them.
  Conditions: the numbers lie within their kinds, the cells hold them.
-/
import Derived.Test.YtifdkpifambhaaaChH
namespace Go.Proofs.Ytifdkpifambhaaa.Chu
open Go.ChangeShapes Go.WideShapes Go.ChangeAt Go.RowKit
open Par (hidden Bytes Row Prm Prms cell_lt Cap cells_new)
set_option linter.unusedVariables false
attribute [local go_sem ↓] execOp_ld execOp_bx execOp_st
attribute [local go_sem] run_box cc_0 cc_1 cc_2 cc_3 cc_4 cc_5 cc_6 cc_7 cc_8 cc_9 cc_10 cc_11 cc_12 cc_13 cc_14

set_option maxHeartbeats 1000000 in
theorem appendChunk (base : Nat) (w0 w : World) (g cap n : Nat) (zs : List Int) (c : Ck) (hc : Chk base w0 c) (hb : Below w0.heap.size w0 w) (hC : Cap w w0.heap.size g cap zs) (hn : zs.length = n) (hok : chk (val c) = 0) (hroom : n + clen (val c) ≤ cap) :
    Calls Try.prog 24 #[.slice (some ⟨g, 0, none⟩) n cap, cv c] w fun e w' => e = .returned (.slice (some ⟨g, 0, none⟩) (n + clen (val c)) cap) ∧ Cap w' w0.heap.size g cap (zs ++ encC (val c)) ∧ Below w0.heap.size w0 w' := by
  have hcl : cap ≤ 140737488355328 := by obtain ⟨_, _, _, _, _, h, _⟩ := hC; exact h
  have hg0 : w0.heap.size ≤ g := by obtain ⟨_, _, h, _⟩ := hC; exact h
  have hgw := cap_lt hC
  obtain ⟨hpast, hm, hpc, hvl⟩ := chk_ok hok
  obtain ⟨y0, y1⟩ := hc.1.1
  obtain ⟨y2, y3⟩ := hc.1.2.1
  have l1 : c.gs.length = c.gl := hc.2.1.1
  have l2 : c.ns.length = c.nl := hc.2.2.1.1
  have l3 : c.ds.length = c.dl := hc.2.2.2.1.1
  have l4 : c.bs.length = c.bl := hc.2.2.2.2.1.1
  have m1 : c.gl ≤ 4096 := by rw [← l1]; exact Nat.not_lt.1 fun h => hm (.inl h)
  have m2 : c.nl ≤ 4096 := by rw [← l2]; exact Nat.not_lt.1 fun h => hm (.inr (.inl h))
  have m3 : c.dl ≤ 4096 := by rw [← l3]; exact Nat.not_lt.1 fun h => hm (.inr (.inr h))
  have hfl := Par.fill4_le (4 + vlen (val c))
  have hcln : clen (val c) = Par.fill4 (4 + vlen (val c)) := rfl
  have HV := hidden (show vlen (val c) = nb c.kind + 4 * c.gl + 4 * c.nl + 4 * c.dl + (Par.enc (c.ps.map Par.val)).length + c.bl by
    have := vby_len (val c) hpc
    unfold vlen psz
    rw [if_pos hpc, show (val c).gs.length = c.gl from l1, show (val c).ns.length = c.nl from l2, show (val c).ds.length = c.dl from l3, show (val c).bs.length = c.bl from l4]
    show nb c.kind + 4 * (c.gl + c.nl + c.dl) + (Par.enc (c.ps.map Par.val)).length + c.bl = _
    omega)
  have HNV := hidden (num_val c l1 l2 l3)
  have hbB := hb.alloc hb.size (.cells (cc c) 37)
  have HB0 := hidden hbB
  have HC0 := hidden (cap_alloc hC (.cells (cc c) 37))
  have H0 := hidden (Bx.new w c)
  have HNE := hidden (show w.heap.size ≠ g by omega)
  have HCK := hidden hc
  have HPC := hidden (show pcode (c.ps.map Par.val) = 0 from hpc)
  have HEN := hidden (show encC (val c) = [c.kind, c.flags] ++ twos [4 + (vlen (val c) : Int)] ++ (num (val c) ++ lisB (val c)) ++ List.replicate (clen (val c) - (4 + vlen (val c))) 0 from rfl)
  have VB := hidden (valueBytes base c _ (hc.later hbB))
  have hl0 := H0.out.ld
  clear hC hbB hb hc hok hpast hm hpc l1 l2 l3 l4
  generalize hCL : clen (val c) = CL at *
  generalize hVL : vlen (val c) = VL at *
  have HCL := hidden hCL
  have HVL := hidden hVL
  rw [← hcln] at hfl
  have HCN := hidden hcln
  clear hCL hVL hcln
  go_enter Try.func24, Try.ntmps24
  go_wp2_with fail
  refine Calls.mono VB.out ?_
  rintro e w1 ⟨rfl, b1⟩
  have HB1 := hidden (HB0.out.trans (b1.mono HB0.out.size))
  have HC1 := hidden (HC0.out.later b1)
  have H1 := hidden (H0.out.later b1)
  have k0 := H1.out.c0
  have k1 := H1.out.c1
  have hw1 : w.heap.size < w1.heap.size := H1.out.lt
  clear b1 VB HC0 HB0 hl0
  go_wp2_with (at_builtin; refine Par.wpList_room rfl _ _ rfl w0.heap.size g cap n zs rfl hn (cap_alloc HC1.out _) ⟨w1.heap.size, 0, none⟩ 2 2 [c.kind, c.flags] rfl rfl (cells_new w1 _ 5) (by omega) ?_)
  intro w2 hc2 g2
  have g2' := gr_trans (World.grownBy_alloc w1 _ _) g2
  have HB2 := hidden (HB1.out.grown g2' HB1.out.size (fun k hk => by cases hk; exact hg0))
  have HC2 := hidden hc2
  have H2 := hidden (H1.out.grown g2' HNE.out)
  have hn2 : (zs ++ [c.kind, c.flags]).length = n + 2 := by rw [List.length_append, hn]; rfl
  clear hc2 g2 g2' k0 k1 HC1 HB1 H1
  have hw16 : ∀ x : Int, IntKind.u16.wrap x = x % 65536 := fun _ => rfl
  have hu : (4 + (VL : Int)) % 65536 = 4 + (VL : Int) := by omega
  have T := hidden (newTwos (show Wr w2 w0.heap.size g cap w2 (zs ++ [c.kind, c.flags]) from ⟨HC2.out, World.grownBy.refl _ _⟩) hn2 [4 + (VL : Int)] 1 rfl (by intro x hx; simp only [List.mem_cons, List.not_mem_nil, or_false] at hx; subst hx; omega) (by omega))
  go_wp2_with fail
  refine Calls.mono T.out ?_
  rintro e w3 ⟨rfl, hW3⟩
  have HB3 := hidden (HB2.out.grown hW3.2 HB2.out.size (fun k hk => by cases hk; exact hg0))
  have HC3 := hidden hW3.1
  have H3 := hidden (H2.out.grown hW3.2 HNE.out)
  have hn3 : (zs ++ [c.kind, c.flags] ++ twos [4 + (VL : Int)]).length = n + 2 + 2 * 1 := by rw [List.length_append, hn2]; rfl
  have l3 := H3.out.ld
  clear hW3 T HC2 HB2 H2
  have AN := hidden (appendNumbers w3 w0.heap.size g cap (n + 2 + 2 * 1) _ c HC3.out hn3 HCK.out.1 m1 m2 m3 (by have := HV.out; omega))
  go_wp2_with fail
  refine Calls.mono AN.out ?_
  rintro e w4 ⟨rfl, hW4⟩
  have HB4 := hidden (HB3.out.grown hW4.2 HB3.out.size (fun k hk => by cases hk; exact hg0))
  have HC4 := hidden hW4.1
  have H4 := hidden (H3.out.grown hW4.2 HNE.out)
  have hn4 : (zs ++ [c.kind, c.flags] ++ twos [4 + (VL : Int)] ++ numB c).length = n + 2 + 2 * 1 + nb c.kind := by rw [List.length_append, hn3, HNV.out, num_len]; rfl
  have l4 := H4.out.ld
  clear hW4 AN HC3 HB3 H3 l3
  have AL := hidden (appendLists base w0 w4 g cap (n + 2 + 2 * 1 + nb c.kind) _ c HCK.out HB4.out HC4.out hn4 HPC.out (by have := HV.out; omega))
  go_wp2_with fail
  refine Calls.mono AL.out ?_
  rintro e w5 ⟨rfl, hc5, hb5⟩
  have HC5 := hidden hc5
  have HB5 := hidden hb5
  have hn5 : (zs ++ [c.kind, c.flags] ++ twos [4 + (VL : Int)] ++ numB c ++ lisB (val c)).length = n + (4 + VL) := by
    have h1 : (lisB (val c)).length + nb c.kind = VL := by
      have h2 := vby_len (val c) HPC.out
      unfold vby at h2
      rw [List.length_append, num_len] at h2
      have h3 := HVL.out
      have h4 : nb (val c).kind = nb c.kind := rfl
      omega
    rw [List.length_append, hn4]
    omega
  have hlen : n + 2 + 2 * 1 + nb c.kind + 4 * c.gl + 4 * c.nl + 4 * c.dl + (Par.enc (c.ps.map Par.val)).length + c.bl = n + (4 + VL) := by have := HV.out; omega
  rw [hlen]
  clear hlen hc5 hb5 AL HC4 HB4 H4 l4
  have F := hidden (filled (4 + VL) (by omega) w5)
  rw [← HCN.out, show ((4 + VL : Nat) : Int) = 4 + (VL : Int) by omega] at F
  go_wp2_with fail
  refine Calls.mono F.out ?_
  rintro e w6 ⟨rfl, rfl⟩
  obtain ⟨d, hd⟩ : ∃ d : Nat, CL = 4 + VL + d := ⟨CL - (4 + VL), by omega⟩
  have hdd : (CL : Int) - (4 + (VL : Int)) = (d : Int) := by omega
  have hd3 : d ≤ 3 := by omega
  have HD := hidden hd
  have HDD := hidden hdd
  clear F hd hdd
  go_wp2_with (at_builtin; refine Par.wpList_room_zeros rfl _ _ rfl w0.heap.size g cap (n + (4 + VL)) _ rfl hn5 HC5.out d ?c1 ?c2 ?c3 ?_)
  case c1 =>
    show Value.int IntKind.i64 ((CL : Int) - (4 + (VL : Int))) = _
    rw [HDD.out]
  case c2 => omega
  case c3 => have := HD.out; omega
  intro w7 hc7 g7
  have HB7 := hidden (HB5.out.grown g7 HB5.out.size (fun k hk => by cases hk; exact hg0))
  have HC7 := hidden hc7
  clear hc7 g7
  go_wp2
  go_ret
  refine ⟨congrArg (fun k => Ending.returned (.slice (some ⟨g, 0, none⟩) k cap)) (show n + (4 + VL) + d = n + CL by have := HD.out; omega), ?_, HB7.out⟩
  rw [HEN.out, ← HNV.out, show CL - (4 + VL) = d by have := HD.out; omega]
  simpa only [List.append_assoc, List.cons_append, List.nil_append] using HC7.out
/-- a new variable that a chunk is stored into -/
theorem newvar (w : World) (c : Ck) : ∃ W, (sto (.pointer (some ⟨w.heap.size, 0, none⟩)) (cv c)).run Try.prog (w.alloc (.cells #[.int .u8 0, .int .u8 0, .int .u32 0, .int .u16 0, .int .u16 0, .int .u32 0, .int .u32 0, .int .u32 0, .int .u16 0, .int .u16 0, .slice none 0 0, .slice none 0 0, .slice none 0 0, .slice none 0 0, .slice none 0 0] 37)) = .ok () W ∧ Bx W w.heap.size c ∧ Below w.heap.size w W := by
  have hz : Bx (w.alloc (.cells #[.int .u8 0, .int .u8 0, .int .u32 0, .int .u16 0, .int .u16 0, .int .u32 0, .int .u32 0, .int .u32 0, .int .u16 0, .int .u16 0, .slice none 0 0, .slice none 0 0, .slice none 0 0, .slice none 0 0, .slice none 0 0] 37)) w.heap.size (zck 0) := Bx.new w (zck 0)
  exact ⟨_, sto_run hz c, stoW_bx hz c, stoW_below c ((Below.refl _ w).alloc (Nat.le_refl _) _) (Nat.le_refl _)⟩
/-- a row of chunks as cells -/
def ccs (l : List Ck) : List Value := l.flatMap fun c => (cc c).toList
/-- a row of chunks can be read -/
def Cks (base : Nat) (w : World) (a : Option Addr) (n : Nat) (l : List Ck) : Prop := l.length = n ∧ n ≤ 1000000000000 ∧ (∀ c ∈ l, Chk base w c) ∧ Lies base w a (ccs l)
theorem Cks.later {base : Nat} {w w' : World} {a : Option Addr} {n : Nat} {l : List Ck} (h : Cks base w a n l) (hb : Below w.heap.size w w') : Cks base w' a n l := ⟨h.1, h.2.1, fun c hc => (h.2.2.1 c hc).later hb, h.2.2.2.later hb⟩
theorem Cks.set {base : Nat} {w : World} {a : Option Addr} {n : Nat} {l : List Ck} (h : Cks base w a n l) {x : Addr} (hx : x.block < base) (v : Value) : Cks base (w.setCell x v) a n l := ⟨h.1, h.2.1, fun c hc => (h.2.2.1 c hc).set hx v, h.2.2.2.set hx v⟩
theorem Cks.nil (base : Nat) (w : World) (a : Option Addr) : Cks base w a 0 [] := ⟨rfl, by decide, (fun c hc => by cases hc), .inl rfl⟩
theorem ccs_len (l : List Ck) : (ccs l).length = l.length * 15 := by
  induction l with
  | nil => rfl
  | cons x l ih =>
    have e : ccs (x :: l) = (cc x).toList ++ ccs l := rfl
    rw [e, List.length_append, ih, List.length_cons, show (cc x).toList.length = 15 from rfl]
    omega
theorem ccs_get (l : List Ck) (k : Nat) (c : Ck) (h : l[k]? = some c) (j : Nat) (u : Value) (hu : (cc c).toList[j]? = some u) : (ccs l)[k * 15 + j]? = some u := by
  induction l generalizing k with
  | nil => simp at h
  | cons x l ih =>
    have e : ccs (x :: l) = (cc x).toList ++ ccs l := rfl
    have hj : j < 15 := (List.getElem?_eq_some_iff.1 hu).1
    cases k with
    | zero =>
      simp only [List.getElem?_cons_zero, Option.some.injEq] at h
      subst h
      rw [e, Nat.zero_mul, Nat.zero_add, List.getElem?_append_left (by show j < 15; exact hj)]
      exact hu
    | succ k =>
      rw [e, List.getElem?_append_right (by show 15 ≤ _; omega), show (k + 1) * 15 + j - (cc x).toList.length = k * 15 + j by show (k + 1) * 15 + j - 15 = _; omega]
      exact ih k (by simpa using h)
theorem ld_mid {w : World} {b o : Nat} {c : Ck} (h : ∀ j u, (cc c).toList[j]? = some u → w.cell? ⟨b, o + j, none⟩ = some u) : (ld (.pointer (some ⟨b, o, none⟩))).run Try.prog w = .ok (cv c) w := by
  unfold ld cv
  have := run_loadAt_mid (P := Try.prog) w b o 37 (cc c).toList _ h Try.underlying37 rfl infoC
  simpa using this
theorem Cks.get {base : Nat} {w : World} {a : Option Addr} {n k : Nat} {l : List Ck} (h : Cks base w a n l) (hk : k < n) :
    ∃ b off c, a = some ⟨b, off, none⟩ ∧ l[k]? = some c ∧ (ld (.pointer (some ⟨b, off + k * 15, none⟩))).run Try.prog w = .ok (cv c) w ∧ Chk base w c := by
  obtain ⟨h1, h2, h3, h4⟩ := h
  have hkl : k < l.length := by omega
  rcases h4 with h0 | ⟨b, off, rfl, hbb, hc⟩
  · have := ccs_len l
    rw [h0] at this
    simp at this
    omega
  · refine ⟨b, off, l[k], rfl, List.getElem?_eq_getElem hkl, ld_mid (fun j u hu => ?_), h3 _ (List.getElem_mem hkl)⟩
    rw [Nat.add_assoc]
    exact hc _ _ (ccs_get l k _ (List.getElem?_eq_getElem hkl) j u hu)
/-- how many bytes chunks have together; these bytes -/
def tot (vs : List Ch) : Nat := (vs.map clen).sum
def encA (vs : List Ch) : List Int := vs.flatMap encC
/-- what Encode tells -/
def EncR (vs : List Ch) (e : Int) : Prop :=
  (∃ k v, vs[k]? = some v ∧ (∀ u ∈ vs.take k, chk u = 0) ∧ chk v ≠ 0 ∧ e = chk v) ∨ ((∀ u ∈ vs, chk u = 0) ∧ 65536 < tot vs ∧ e = 2) ∨ ((∀ u ∈ vs, chk u = 0) ∧ tot vs ≤ 65536 ∧ e = 0)
theorem tot_snoc {vs : List Ch} {k : Nat} {v : Ch} (h : vs[k]? = some v) : tot (vs.take (k + 1)) = tot (vs.take k) + clen v := by
  rw [List.take_add_one, h]; unfold tot; simp
theorem encA_snoc {vs : List Ch} {k : Nat} {v : Ch} (h : vs[k]? = some v) : encA (vs.take (k + 1)) = encA (vs.take k) ++ encC v := by
  rw [List.take_add_one, h]; unfold encA; rw [List.flatMap_append]; simp
theorem tot_take (vs : List Ch) (k : Nat) : tot (vs.take k) ≤ tot vs := by
  have : tot vs = tot (vs.take k) + tot (vs.drop k) := by
    unfold tot
    rw [← List.sum_append, ← List.map_append, List.take_append_drop]
  omega
theorem clen_le {v : Ch} (h : chk v = 0) : clen v ≤ 65536 := by
  obtain ⟨_, _, _, h3⟩ := chk_ok h
  have := Par.fill4_le (4 + vlen v)
  unfold clen Par.fill4
  omega
theorem tot_le {vs : List Ch} {k : Nat} (h : ∀ u ∈ vs.take k, chk u = 0) : tot (vs.take k) ≤ k * 65536 := by
  have : ∀ l : List Ch, (∀ u ∈ l, chk u = 0) → tot l ≤ l.length * 65536 := by
    intro l
    induction l with
    | nil => intro _; exact Nat.zero_le _
    | cons x l ih =>
      intro h
      have h1 := clen_le (h x (by simp))
      have h2 := ih (fun u hu => h u (by simp [hu]))
      have e : tot (x :: l) = clen x + tot l := by unfold tot; simp
      rw [e, List.length_cons]
      omega
  have h1 := this _ h
  have h2 : (vs.take k).length ≤ k := by rw [List.length_take]; omega
  calc _ ≤ _ := h1
    _ ≤ _ := Nat.mul_le_mul_right _ h2
theorem encA_len {vs : List Ch} (h : ∀ u ∈ vs, chk u = 0) : (encA vs).length = tot vs := by
  induction vs with
  | nil => rfl
  | cons x l ih =>
    have e : tot (x :: l) = clen x + tot l := by unfold tot; simp
    have e2 : encA (x :: l) = encC x ++ encA l := rfl
    rw [e, e2, List.length_append, ih (fun u hu => h u (by simp [hu])), encC_len x (chk_ok (h x (by simp))).2.2.1]
end Go.Proofs.Ytifdkpifambhaaa.Chu
