/-
  For every cum and every row of short distances the law SpansBack returns true: the set that is made of a set's cum and its blocks is that set (P3.5). Conditions: none; the table of math/bits starts as the program's text lays it (the card ties it).
-/
import Derived.Test.YtllipbkpbopomaaDoorCards
import Derived.Test.YtllipbkpbopomaaDoorTie
import Derived.WalkKit
import Derived.ProofKit
import Derived.OpenShut
import Derived.ShutString
import Derived.ChangeOld
import Derived.Below
import Derived.SizedLaws
import Derived.Deep.DeepHandedRow
import Derived.Lib.LaidTab
import Derived.Test.YtllipbkpbopomaaDoorSpFrom
import Derived.Test.YtllipbkpbopomaaDoorSpCanon
import Derived.Test.YtllipbkpbopomaaDoorSpFill
namespace Go.Proofs.YtllipbkpbopomaaDoor.spansBack
open Go.ChangeShapes Go.WideShapes Go.ChangeAt Go.RowKit
set_option linter.unusedVariables false

theorem own : ownKnob Tryd.prog.godebug = none := by kernel_rfl
theorem laidOut : laidOutB Tryd.prog = true := by kernel_rfl
theorem gTab : Tryd.prog.globalNamed "math/bits.deBruijn64tab" = some 0 := by kernel_rfl
theorem gTabType : (Tryd.prog.globals[0]?).map (·.type) = some 98 := by kernel_rfl
theorem table {W : World} (h : laidMetH Tryd.prog Rows.spansBackRow.laid W) : Sp.Tab W := fun i hi =>
  (show Lib.TabIs Tryd.prog W "math/bits.deBruijn64tab" .u8 Sp.tab64 from
    Lib.tabIs_of_head (rest := []) gTab gTabType Tryd.underlying98 Tryd.underlying5 (by kernel_rfl) (by kernel_rfl) h).cell gTab i hi

theorem row_g {w : World} {base n : Nat} {v : Value} {X : List (Nat × Nat)} (h : w.ownsRow base 76 2 v n (X.flatMap Sp.gapC)) (hn : X.length = n) (hb : ∀ g ∈ X, g.1 < 65536 ∧ g.2 < 65536) (h3 : n ≤ 4096) : ∃ a cap, v = .slice a n cap ∧ Sp.RowG w a n X := by
  rcases h.2 with ⟨rfl, rfl⟩ | ⟨g, cap, cur, rfl, hbb, hg, hnc, _⟩
  · exact ⟨none, 0, rfl, ⟨hn, hb, by omega, .inl rfl⟩⟩
  · refine ⟨_, cap, rfl, ⟨hn, hb, by omega, .inr ⟨g, 0, rfl, (Array.getElem?_eq_some_iff.1 hg).1, fun j hj => ?_⟩⟩⟩
    obtain ⟨g1, g2⟩ := Sp.gapC_at X j (by omega)
    rw [Nat.zero_add, h.cellAt _ (by omega), h.cellAt _ (by omega)]
    exact ⟨g1, g2⟩
theorem subset_len : ∀ (A B : List Nat), A.Nodup → (∀ x ∈ A, x ∈ B) → A.length ≤ B.length
  | [], _, _, _ => Nat.zero_le _
  | a :: A, B, hn, hs => by
    obtain ⟨h1, h2⟩ := List.nodup_cons.1 hn
    have h3 := subset_len A (B.erase a) h2 fun x hx => (List.mem_erase_of_ne (fun e : x = a => h1 (e ▸ hx))).2 (hs x (List.mem_cons_of_mem _ hx))
    have h4 := List.length_erase_of_mem (hs a List.mem_cons_self)
    have h5 := List.length_pos_of_mem (hs a List.mem_cons_self)
    simp only [List.length_cons]
    omega
theorem canon_len {cum : Nat} {zs : List Int} {c : Nat} {L : List Nat} (h : Sp.Canon cum (Sp.dists zs) c L) (hg : Sp.Good 2 L) : L.length ≤ 300 := by
  obtain ⟨m, _, _, _, h4⟩ := h
  have h5 := subset_len (L.map (· + m)) (Sp.dists zs) ?_ ?_
  · have h6 : (Sp.dists zs).length ≤ 300 := by unfold Sp.dists; simp; omega
    simp at h5
    omega
  · refine List.Pairwise.map _ (fun a b hab => ?_) hg.1
    show a + m ≠ b + m
    have : a < b := hab
    omega
  · intro x hx
    obtain ⟨e, he, rfl⟩ := List.mem_map.1 hx
    exact (h4 e (by have := hg.2 e he; omega)).1 he
theorem mem_expand : ∀ (X : List (Nat × Nat)) (d : Nat), d ∈ Sp.expand X ↔ ∃ g ∈ X, g.1 ≤ d ∧ d ≤ g.2 := by
  intro X d
  unfold Sp.expand
  simp only [List.mem_flatMap, List.mem_range'_1]
  exact ⟨fun ⟨g, h1, h2⟩ => ⟨g, h1, by omega⟩, fun ⟨g, h1, h2⟩ => ⟨g, h1, by omega⟩⟩
theorem uni_blk {L L' : List Nat} (h : Sp.Uni (Sp.blk L) L') (hg : Sp.Good 2 L) (hg' : Sp.Good 2 L') : L' = L :=
  Sp.up_ext hg'.1 hg.1 fun e => by rw [h e, ← mem_expand, Sp.expand_blk]
theorem blk_bad {L : List Nat} (hg : Sp.Good 2 L) : (Sp.blk L).any Sp.bad = false :=
  List.any_eq_false.2 fun g h => by
    have := Sp.blk_good L 2 hg g h
    simp [Sp.bad]; omega

set_option maxRecDepth 20000 in
set_option maxHeartbeats 1000000 in
theorem walk (a0 : Int) (a1 : Option Addr) (len1 cap1 : Nat) (z1 : List Int) (w : World) (w0 : (Lit.int .u32 a0).wf = true) (w1 : Sp.Row w a1 len1 z1) (s1 : len1 ≤ cap1 ∧ cap1 ≤ 140737488351232 ∧ (a1 = none → len1 = 0 ∧ cap1 = 0)) (ht : Sp.Tab w) :
    Calls Tryd.prog 5 #[.int .u32 a0, .slice a1 len1 cap1] w fun e w' => e = .returned (.bool true) ∧ Below w.heap.size w w' := by
  obtain ⟨cum, rfl, hcum⟩ : ∃ c : Nat, a0 = (c : Int) ∧ c < 4294967296 := by have := Ser.b32 w0; exact ⟨a0.toNat, by omega, by omega⟩
  clear w0
  obtain ⟨s1, s2, s3⟩ := s1
  have hpos := ht.pos
  go_enter Tryd.func5, Tryd.ntmps5
  go_wp2_with fail
  refine (Sp.filled cum hcum a1 len1 cap1 z1 w w1 s1 ht).mono ?_
  rintro e x1 ⟨c, L, rfl, hS, hC, b1⟩
  have hT1 := ht.below b1 ht.pos
  have hc := hS.1
  have hg := hS.2.1
  have hlen := canon_len hC hg
  have hbl := Sp.blk_len L
  have HG : Hid _ := hg
  have HCn : Hid _ := hC
  clear w1 hg hC
  go_wp2_with fail
  refine (Sp.cumS hS).mono ?_
  rintro e w' ⟨rfl, rfl⟩
  go_wp2_with fail
  refine (Sp.gapsS hS hT1 4096).mono ?_
  rintro e x2 ⟨v2, rfl, o2, b2⟩
  rw [List.take_of_length_le (by show _ ≤ 4096; omega)] at o2
  have hT2 := hT1.below b2 hT1.pos
  have hS2 := hS.below b2 hS.lt
  obtain ⟨g2, cap2, rfl, hR2⟩ := row_g o2 rfl (fun g h => by have := Sp.blk_good L 2 HG.out g h; omega) (by omega)
  have HF : Hid _ := Sp.from_good x2 c hc g2 _ cap2 _ hR2 (by omega) (blk_bad HG.out)
  clear hR2 o2
  go_wp2_with fail
  refine Calls.mono HF.out ?_
  rintro e x3 ⟨bt, L', hbt, rfl, hS3, hU, b3⟩
  obtain rfl := uni_blk hU HG.out hS3.2.1
  have hT3 := hT2.below b3 hT2.pos
  have hSs := hS2.below b3 hS2.lt
  clear hU HF
  go_wp2_with fail
  refine (Sp.cumS hS3).mono ?_
  rintro e w' ⟨rfl, rfl⟩
  go_wp2_with fail
  refine (Sp.cumS hSs).mono ?_
  rintro e w' ⟨rfl, rfl⟩
  go_wp2_with fail
  refine (Sp.allS hS3 hT3).mono ?_
  rintro e x4 ⟨v4, rfl, o4, b4⟩
  have hT4 := hT3.below b4 hT3.pos
  have hS4 := hSs.below b4 hSs.lt
  have n4 := Sp.nums_own o4 rfl
  go_wp2_with fail
  refine (Sp.allS hS4 hT4).mono ?_
  rintro e x5 ⟨v5, rfl, o5, b5⟩
  have hT5 := hT4.below b5 hT4.pos
  have n5 := Sp.nums_own o5 rfl
  have n4' := n4.later b5
  go_wp2_with fail
  refine (Sp.numbers x5 v4 v5 _ _ n4' n5).mono ?_
  rintro e x6 ⟨rfl, b6⟩
  have hT6 := hT5.below b6 hT5.pos
  go_wp2_with fail
  refine (Sp.alive x6 hT6).mono ?_
  rintro e x7 ⟨rfl, b7⟩
  have t1 := b1.size
  have t2 := b2.size
  have t3 := b3.size
  have t4 := b4.size
  have t5 := b5.size
  have t6 := b6.size
  go_wp2
  go_ret
  exact ⟨rfl, (((((b1.trans (b2.mono (by omega))).trans (b3.mono (by omega))).trans (b4.mono (by omega))).trans (b5.mono (by omega))).trans (b6.mono (by omega))).trans (b7.mono (by omega))⟩

set_option maxRecDepth 100000 in
theorem contract (H : Type) (enc : TypeId × Value → H) (W : World) (base : Nat) (args : Array Value) (ds gs : List (DataW H)) (before : List MemPlace)
    (hval : ∀ (j : Nat) t v, Tryd.f5.params[j]? = some t → args[j]? = some v → Value.okWide Tryd.prog W .any base t v)
    (hW : DataW.Whole enc Tryd.prog Tryd.f5.params.toList Rows.spansBackSpec.vars false W args.toList ds gs before)
    (hsz0 : (DataW.weightsEach Tryd.prog (Tryd.f5.params.toList ++ Rows.spansBackSpec.plain.varTypes Tryd.prog) (ds ++ gs)).all (· ≤ reachBytes) = true)
    (hL : laidMetH Tryd.prog Rows.spansBackRow.laid W) :
    Calls Tryd.prog 5 args W fun e W' => ∃ v, e = .returned v ∧ Rows.spansBackSpec.post enc Tryd.prog Tryd.f5 false true false false W args v W' := by
  have hW' := hW
  obtain ⟨p, q, hA0, hV, rfl, hfz, hnd⟩ := hW
  have hA : DataW.TrodAll enc Tryd.prog W 0 (fun _ => true) true Tryd.f5.params.toList args.toList ds p := hA0
  have hsz := hsz0
  rw [Tryd.params5] at hA hval hsz
  obtain ⟨v0, vs0, d0, ds0, p0, q0, hargs, rfl, rfl, h0, r0⟩ := trodAll_cons hA
  obtain ⟨v1, vs1, d1, ds1, p1, q1, rfl, rfl, rfl, h1, r1⟩ := trodAll_cons r0
  obtain ⟨rfl, rfl, rfl⟩ := trodAll_nil r1
  obtain rfl : args = #[v0, v1] := by cases args; simp_all
  obtain ⟨rfl, rfl⟩ := trodVars_none hV
  obtain ⟨a0, rfl, rfl, rfl, w0⟩ := open_int Tryd.underlying22 (hval 0 22 v0 rfl rfl) h0
  obtain ⟨a1, len1, cap1, rfl⟩ := okWide_slice Tryd.underlying54 (hval 1 54 v1 rfl rfl)
  have k1 := h1
  have lt1 : ∀ x ∈ p1, x.block < W.heap.size := by obtain ⟨m, hm⟩ := k1; exact DataW.trod_lt m _ _ _ hm
  obtain ⟨z1, w1, s1⟩ : ∃ zs, Sp.Row W a1 len1 zs ∧ len1 ≤ cap1 ∧ cap1 ≤ 140737488351232 ∧ (a1 = none → len1 = 0 ∧ cap1 = 0) := by
    obtain ⟨fuel, hf⟩ := h1
    refine Sp.row_of hf fun elems spare hd => ?_
    simp only at hd
    subst hd
    have sz := sized_slice hsz (j := 1) (t := 54) (elems := elems) (spare := spare) rfl rfl Tryd.underlying54
    rw [show Tryd.prog.bytesOf 60 = 2 by kernel_rfl] at sz
    unfold reachBytes at sz
    omega
  clear hA0 hsz0 hsz
  refine (walk a0 a1 len1 cap1 z1 W w0 w1 s1 (table hL)).mono fun e W' ⟨he, bel⟩ => ?_
  subst he
  exact ⟨_, rfl, _, _, _, [], _, [], hW', trodAll_mk1 (shut_bool Tryd.underlying4 _), (trodAll_cons_mk (shut_int Tryd.underlying22 w0) (trodAll_cons_mk (Below.trod laidOut (by kernel_rfl) (of_decide_eq_true (by kernel_rfl)) k1 bel lt1) trodAll_mk0)), rfl, bel.frame _, fun h => by cases h⟩

noncomputable def laidWorld (os : Os) : World :=
  { World.holding Tryd.prog os ⟨#[], #[], []⟩ with heap := (World.holding Tryd.prog os ⟨#[], #[], []⟩).heap.modify 0 fun
      | .cells _ t frozen => .cells #[.int .u8 0, .int .u8 1, .int .u8 56, .int .u8 2, .int .u8 57, .int .u8 49, .int .u8 28, .int .u8 3, .int .u8 61, .int .u8 58, .int .u8 42, .int .u8 50, .int .u8 38, .int .u8 29, .int .u8 17, .int .u8 4, .int .u8 62, .int .u8 47, .int .u8 59, .int .u8 36, .int .u8 45, .int .u8 43, .int .u8 51, .int .u8 22, .int .u8 53, .int .u8 39, .int .u8 33, .int .u8 30, .int .u8 24, .int .u8 18, .int .u8 12, .int .u8 5, .int .u8 63, .int .u8 55, .int .u8 48, .int .u8 27, .int .u8 60, .int .u8 41, .int .u8 37, .int .u8 16, .int .u8 46, .int .u8 35, .int .u8 44, .int .u8 21, .int .u8 52, .int .u8 32, .int .u8 23, .int .u8 11, .int .u8 54, .int .u8 26, .int .u8 40, .int .u8 15, .int .u8 34, .int .u8 20, .int .u8 31, .int .u8 10, .int .u8 25, .int .u8 14, .int .u8 19, .int .u8 9, .int .u8 13, .int .u8 8, .int .u8 7, .int .u8 6] t frozen
      | o => o }
theorem laid_met (os : Os) : laidMet Tryd.prog Rows.spansBackRow.laid ((laidWorld os).forCall (fun _ _ => 0) ⟨#[], #[.int .u32 0, .slice none 0 0], []⟩).memory :=
  laidMet_of_run' 8 (by kernel_rfl) (by kernel_rfl)
theorem reads (os : Os) {H : Type} (enc : TypeId × Value → H) : ∃ places, DataW.whole enc Tryd.prog ((laidWorld os).forCall (fun _ _ => 0) ⟨#[], #[.int .u32 0, .slice none 0 0], []⟩).memory Tryd.f5.params.toList Rows.spansBackSpec.vars false #[Value.int .u32 0, Value.slice none 0 0].toList 8 = some ([.lit (.int .u32 0), .nil], [], places) :=
  ⟨[], by kernel_rfl⟩

set_option maxRecDepth 100000 in
theorem lifted (os : Os) (started : os.Started) (H : Type) (enc : TypeId × Value → H) (F : Stop.Interp) :
    ReturnsInHanded {} Tryd.checked os 5 .any ((OpenSpec.ofChange Rows.spansBackSpec).preRow enc Tryd.prog Tryd.f5 Rows.spansBackRow.domain false Rows.spansBackRow.laid) (((OpenSpec.ofChange Rows.spansBackSpec).at F).post enc Tryd.prog Tryd.f5 false true false false) := by
  obtain ⟨places, hx⟩ := reads os enc
  refine returnsInHanded_of_row (C := Tryd.checked) (s := OpenSpec.ofChange Rows.spansBackSpec) own started (by kernel_rfl) Tryd.func5
    (witness_row_at (enc := enc) (C := Tryd.checked) false (laidWorld os) #[.int .u32 0, .slice none 0 0] rfl (by kernel_rfl) (by kernel_rfl) (by kernel_rfl)
      (OpenSpec.preRow_of_cond 8 hx (by kernel_rfl) (fun k hk => by cases hk) (by kernel_rfl) (laid_met os))) ?_
  intro W base args ds gs before hval hW _ hcond hsz hL _ _
  exact contract H enc W base args ds gs before hval hW hsz hL

theorem said : Rows.SpansBackSaid :=
  OpenClaim.holds_of_cond 5 Tryd.f5 rfl rfl rfl rfl rfl rfl rfl ⟨rfl, rfl, rfl, rfl, rfl⟩ rfl rfl rfl rfl rfl (by kernel_rfl) Tryd.func5 (by kernel_rfl)
    (of_decide_eq_true (by kernel_rfl)) (by unfold Func.isWrapper; first | (rw [if_pos (by decide +kernel)]; kernel_rfl) | (rw [if_neg (by decide +kernel)]; exact ⟨rfl, rfl⟩))
    (fun os started H enc _ F => by rw [OpenClaim.pre_eq_preRow]; exact lifted os started H enc F)

theorem plain (f : FuncId) (fn : Func) (hf : Tryd.pinned.checked.prog.funcNamed "ropewalk/ropewalklaw03.SpansBack" = some f) (hfn : Tryd.pinned.checked.prog.funcs[f]? = some fn) :
    false = Tryd.pinned.checked.prog.looks [] ∧ ∀ (j : Nat) t, fn.params[j]? = some t → Tryd.pinned.checked.prog.wantsStandIn t = false := by
  obtain rfl : f = 5 := Option.some.inj ((show Tryd.prog.funcNamed "ropewalk/ropewalklaw03.SpansBack" = some 5 by kernel_rfl).symm.trans hf) |>.symm
  obtain rfl : fn = Tryd.f5 := (Option.some.inj (Tryd.func5.symm.trans hfn)).symm
  refine ⟨by kernel_rfl, fun j t ht => ?_⟩
  rw [Tryd.params5] at ht
  have hm : t ∈ [22, 54] := by simpa using Array.mem_of_getElem? ht
  have hall : ∀ t ∈ [22, 54], Tryd.prog.wantsStandIn t = false := by
    intro t ht
    simp only [List.mem_cons, List.not_mem_nil, or_false] at ht
    rcases ht with rfl | rfl <;> kernel_rfl
  exact hall t hm

/-- THE CARD -/
theorem proved : Rows.SpansBackCardSaid :=
  Claim7.holds_tied_plain_at .later [] _ _ _ _ said (fun _ h => by cases h) (by kernel_rfl) (fun _ h => by cases h) spansBack_row_tie rfl ⟨rfl, rfl⟩ (by kernel_rfl) rfl plain (by kernel_rfl)
#print axioms proved
end Go.Proofs.YtllipbkpbopomaaDoor.spansBack
