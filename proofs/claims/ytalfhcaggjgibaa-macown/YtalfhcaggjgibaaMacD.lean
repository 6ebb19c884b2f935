/-
  What mix, seal and write of package mac leave in a state.
  Conditions: the numbers lie within their kind, the state's cells hold them.
-/
import Derived.Test.YtalfhcaggjgibaaMacB
import Derived.Test.YtalfhcaggjgibaaMacC
import Derived.Deep.RegionHeld3
import Derived.Maps.AppendAt
namespace Go.Proofs.Ytalfhcaggjgibaa.Mac
open Go.ChangeShapes Go.WideShapes Go.ChangeAt Go.RowKit
set_option linter.unusedVariables false

abbrev SQ (w : World) (b : Nat) (q : Q) (m n : Int) : Prop := St w b q.1 q.2.1 q.2.2.1 q.2.2.2 m n
/-- a number is mixed in -/
def mixq (q : Q) (x : Int) : Q := 
  let r := rnds (q.1, q.2.1, q.2.2.1, xor q.2.2.2 x) 2
  (xor r.1 x, r.2.1, r.2.2.1, r.2.2.2)
theorem UQ_mixq (q : Q) (x : Int) : UQ (mixq q x) := ⟨U_xor _ _, (UQ_rq _).2.1, (UQ_rq _).2.2.1, (UQ_rq _).2.2.2⟩

theorem grow_trans {w w' w'' : World} {b : Nat} (h1 : w.grownBy w' (some b)) (h2 : w'.grownBy w'' (some b)) : w.grownBy w'' (some b) := h1.trans h2
theorem round' (w : World) (b : Nat) (q : Q) (m n : Int) (h : SQ w b q m n) (hq : UQ q) :
    Calls Try.prog 23 #[.pointer (some ⟨b, 0, none⟩)] w fun e w' => e = .returned (.tuple #[]) ∧ SQ w' b (rq q) m n ∧ w.grownBy w' (some b) :=
  round w b q.1 q.2.1 q.2.2.1 q.2.2.2 m n h hq.1 hq.2.1 hq.2.2.1 hq.2.2.2

theorem mix (w : World) (b : Nat) (q : Q) (m n x : Int) (h : SQ w b q m n) (hq : UQ q) (hx : U x) :
    Calls Try.prog 22 #[.pointer (some ⟨b, 0, none⟩), .int .u64 x] w fun e w' => e = .returned (.tuple #[]) ∧
      SQ w' b (mixq q x) m n ∧ w.grownBy w' (some b) := by
  have c3 := h.c3
  have hf := h.fr
  go_enter Try.func22, Try.ntmps22
  go_wp2_with fail
  have hs : SQ _ b (q.1, q.2.1, q.2.2.1, xor q.2.2.2 x) m n := h.s3 (xor q.2.2.2 x)
  have hg := grownBy_set (World.grownBy.refl w (some b)) ⟨b, 3, none⟩ rfl (.int .u64 (xor q.2.2.2 x))
  have u1 : UQ (q.1, q.2.1, q.2.2.1, xor q.2.2.2 x) := ⟨hq.1, hq.2.1, hq.2.2.1, U_xor _ _⟩
  have HM : Hid (mixq q x = (xor (rnds (q.1, q.2.1, q.2.2.1, xor q.2.2.2 x) 2).1 x, (rnds (q.1, q.2.1, q.2.2.1, xor q.2.2.2 x) 2).2.1, (rnds (q.1, q.2.1, q.2.2.1, xor q.2.2.2 x) 2).2.2.1, (rnds (q.1, q.2.1, q.2.2.1, xor q.2.2.2 x) 2).2.2.2)) := rfl
  clear c3 hf
  rw [show bits BinOp.xor IntKind.u64 q.2.2.2 x = xor q.2.2.2 x from rfl]
  generalize World.setCell w ⟨b, 3, none⟩ (.int .u64 (xor q.2.2.2 x)) = w1 at hs hg ⊢
  generalize (q.1, q.2.1, q.2.2.1, xor q.2.2.2 x) = p at hs u1 HM
  generalize xor q.2.2.2 x = y
  go_loopw [14] (fun i wr => ∃ j : Nat, j ≤ 2 ∧ i = .int .i64 j ∧ SQ wr b (rnds p j) m n ∧ w.grownBy wr (some b)) (fun i _ => 2 - (intOf i).toNat)
  case atStart => exact ⟨0, Nat.zero_le _, rfl, hs, hg⟩
  case round =>
    obtain ⟨j, hj, rfl, hr, gr⟩ := hrel
    have ur := UQ_rnds p u1 j
    rcases Nat.lt_or_ge j 2 with hlt | hge
    · have HN : Hid (rnds p (j + 1) = rq (rnds p j)) := rfl
      generalize rnds p j = r at hr ur HN ⊢
      go_wp2_with fail
      refine (round' _ b r m n hr ur).mono ?_
      rintro e w2 ⟨rfl, h2, g2⟩
      go_wp2
      go_roundw
      case rel => exact ⟨j + 1, by omega, by go_num, by rw [HN.out]; exact h2, gr.trans g2⟩
      case measure => simp [intOf]; omega
    · have hge : j = 2 := by omega
      subst hge
      have c0 := hr.c0
      have hf := hr.fr
      go_wp2
      go_end0
      rw [HM.out]
      exact ⟨rfl, hr.s0 _, grownBy_set gr ⟨b, 0, none⟩ rfl _⟩

/-- the word that is coming and the number of all bytes -/
def lastWord (m : Int) (n : Nat) : Int := bits .or .u64 m (((n % 256 : Nat) : Int) * 72057594037927936)
def cee (c : Int) (r : Q) : Q := (r.1, r.2.1, xor r.2.2.1 c, r.2.2.2)
theorem UQ_cee (c : Int) (r : Q) (h : UQ r) : UQ (cee c r) := ⟨h.1, h.2.1, U_xor _ _, h.2.2.2⟩
theorem SQ_cee {w : World} {b : Nat} {r : Q} {m n : Int} (h : SQ w b r m n) (c : Int) : SQ (w.setCell ⟨b, 2, none⟩ (.int .u64 (xor r.2.2.1 c))) b (cee c r) m n := h.s2 _
def fin (r : Q) : Int := xor (xor (xor r.1 r.2.1) r.2.2.1) r.2.2.2
/-- the seal of a state -/
def sealq (q : Q) (m : Int) (n : Nat) : Int := fin (rnds (cee 255 (mixq q (lastWord m n))) 4)

theorem high (n : Nat) : IntKind.u64.wrap ((n : Int) * 72057594037927936) = ((n % 256 : Nat) : Int) * 72057594037927936 := by
  rw [IntKind.wrap_u64]; omega

theorem grown_undrew {w w' : World} {row : Option Nat} (g : w.drew.grownBy w' row) : w.grownBy w' row := ⟨g.os, g.tape, g.output, g.size, g.block⟩
theorem sealed (w : World) (b : Nat) (q : Q) (m : Int) (n : Nat) (h : SQ w b q m (n : Int)) (hq : UQ q) (hm : U m) :
    Calls Try.prog 18 #[.pointer (some ⟨b, 0, none⟩)] w fun e w' => e = .returned (.int .u64 (sealq q m n)) ∧ w.grownBy w' (some b) := by
  have c4 := h.c4
  have c5 := h.c5
  have hf := h.fr
  have hh := high n
  have HL : Hid (sealq q m n = fin (rnds (cee 255 (mixq q (lastWord m n))) 4)) := rfl
  have hl : bits .or .u64 m (((n % 256 : Nat) : Int) * 72057594037927936) = lastWord m n := rfl
  have ul : U (lastWord m n) := U_bits _ _ _
  have H := fun w h => mix w b q m n (lastWord m n) h hq ul
  have um := UQ_mixq q (lastWord m n)
  generalize lastWord m n = x at *
  generalize mixq q x = r at *
  generalize ((n % 256 : Nat) : Int) * 72057594037927936 = y at *
  go_enter Try.func18, Try.ntmps18
  go_wp2_with fail
  go_cut [0] from 1 (fun s wx => s = .pointer (some ⟨b, 0, none⟩) ∧ SQ wx b r m (n : Int) ∧ w.grownBy wx (some b))
  case first =>
    go_region_with (go_at_call 22; refine Calls.mono (H _ h) ?_; rintro e w2 ⟨rfl, h2, g2⟩)
    all_goals (go_wp2_with fail; go_meet)
    all_goals exact ⟨rfl, h2, grown_undrew g2⟩
  case rest =>
  obtain ⟨rfl, h1, g1⟩ := hcut
  clear c4 c5 hf H hh hl
  have c2 := h1.c2
  have hf := h1.fr
  go_wp2_with fail
  have hs := SQ_cee h1 255
  have hg := grownBy_set g1 ⟨b, 2, none⟩ rfl (.int .u64 (xor r.2.2.1 255))
  have u1 := UQ_cee 255 r um
  clear c2 hf
  rw [show bits BinOp.xor IntKind.u64 r.2.2.1 255 = xor r.2.2.1 255 from rfl]
  generalize World.setCell wc ⟨b, 2, none⟩ (.int .u64 (xor r.2.2.1 255)) = w1 at hs hg ⊢
  generalize cee 255 r = p at hs u1 HL
  generalize xor r.2.2.1 255 = y2
  go_loopw [24] (fun i wr => ∃ j : Nat, j ≤ 4 ∧ i = .int .i64 j ∧ SQ wr b (rnds p j) m n ∧ w.grownBy wr (some b)) (fun i _ => 4 - (intOf i).toNat)
  case atStart => exact ⟨0, Nat.zero_le _, rfl, hs, hg⟩
  case round =>
    obtain ⟨j, hj, rfl, hr, gr⟩ := hrel
    have ur := UQ_rnds p u1 j
    rcases Nat.lt_or_ge j 4 with hlt | hge
    · have HN : Hid (rnds p (j + 1) = rq (rnds p j)) := rfl
      generalize rnds p j = r at hr ur HN ⊢
      go_wp2_with fail
      refine (round' _ b r m n hr ur).mono ?_
      rintro e w2 ⟨rfl, h2, g2⟩
      go_wp2
      go_roundw
      case rel => exact ⟨j + 1, by omega, by go_num, by rw [HN.out]; exact h2, gr.trans g2⟩
      case measure => simp [intOf]; omega
    · have hge : j = 4 := by omega
      subst hge
      generalize rnds p 4 = r at *
      have c0 := hr.c0
      have c1 := hr.c1
      have c2 := hr.c2
      have c3 := hr.c3
      have hf := hr.fr
      go_wp2
      go_region_held3 (fun w' => w'.cell? ⟨b, 0, none⟩ = some (.int .u64 r.1) ∧ w'.cell? ⟨b, 1, none⟩ = some (.int .u64 r.2.1) ∧ w'.cell? ⟨b, 2, none⟩ = some (.int .u64 r.2.2.1) ∧ w'.cell? ⟨b, 3, none⟩ = some (.int .u64 r.2.2.2)) (go_keep) (fail)
      go_wp2
      go_ret
      rw [HL.out]
      exact ⟨rfl, grownBy_drew gr⟩

/-- a byte is put into the word that is coming, at the place that the count tells -/
def put (m : Int) (n : Nat) (z : Int) : Int := bits .or .u64 m (IntKind.u64.wrap (z * 2 ^ (8 * (n % 8))))
/-- a byte comes -/
def step (s : Q × Int × Nat) (z : Int) : Q × Int × Nat :=
  if (s.2.2 + 1) % 8 = 0 then (mixq s.1 (put s.2.1 s.2.2 z), 0, s.2.2 + 1) else (s.1, put s.2.1 s.2.2 z, s.2.2 + 1)
/-- bytes come -/
def come (s : Q × Int × Nat) (zs : List Int) : Q × Int × Nat := zs.foldl step s
def US (s : Q × Int × Nat) : Prop := UQ s.1 ∧ U s.2.1
theorem US_step (s : Q × Int × Nat) (h : US s) (z : Int) : US (step s z) := by
  unfold step
  split
  · exact ⟨UQ_mixq _ _, show U 0 from ⟨by decide, by decide⟩⟩
  · exact ⟨h.1, show U (put s.2.1 s.2.2 z) from U_bits _ _ _⟩
theorem US_come (zs : List Int) : ∀ s, US s → US (come s zs) := by
  induction zs with
  | nil => exact fun s h => h
  | cons z zs ih => exact fun s h => ih _ (US_step s h z)
theorem come_count (zs : List Int) : ∀ s, (come s zs).2.2 = s.2.2 + zs.length := by
  induction zs with
  | nil => intro s; rfl
  | cons z zs ih =>
    intro s
    show (come (step s z) zs).2.2 = _
    rw [ih, List.length_cons]
    have : (step s z).2.2 = s.2.2 + 1 := by unfold step; split <;> rfl
    omega
theorem come_snoc (s : Q × Int × Nat) (zs : List Int) (k : Nat) (h : k < zs.length) : come s (zs.take (k + 1)) = step (come s (zs.take k)) (zs.getD k 0) := by
  unfold come
  rw [List.take_add_one, List.getElem?_eq_getElem h, List.foldl_append, List.getD_eq_getElem?_getD, List.getElem?_eq_getElem h]
  rfl
abbrev SS (w : World) (b : Nat) (s : Q × Int × Nat) : Prop := SQ w b s.1 s.2.1 (s.2.2 : Int)
end Go.Proofs.Ytalfhcaggjgibaa.Mac
