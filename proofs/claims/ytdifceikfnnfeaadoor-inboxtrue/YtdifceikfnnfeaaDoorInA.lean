/-
  Boxes in memory: rows of numbers, the code's box and its blocks, the document's box and its blocks.
  Conditions: as at each lemma.
-/
import Derived.Test.YtdifceikfnnfeaaDoorInM
import Derived.Test.YtdifceikfnnfeaaDoorSpSame
import Derived.Test.YtdifceikfnnfeaaDoorOw
import Derived.Lib.MinMax
import Derived.Lib.SliceRun
import Derived.Laws.AppendOwnNone
import Derived.Laws.OwnMore
import Derived.Deep.QuietTactic
import Derived.Deep.RegionHeld3
import Derived.BigQuiet
import Derived.BigRegion
import Derived.Laws.ResultCell
import Derived.Carry
import Derived.ArgAppend
namespace Go.Proofs.YtdifceikfnnfeaaDoor.Sp.Inb
open Go.ChangeShapes Go.WideShapes Go.ChangeAt Go.RowKit
open Ba (hidden Has cell_lt heap_lt)
set_option linter.unusedVariables false

/-- of what was there only such blocks may have turned -/
structure Mod (F : Nat → Prop) (w w' : World) : Prop where
  os : w'.os = w.os
  tape : w'.tape = w.tape
  output : w'.output = w.output
  size : w.heap.size ≤ w'.heap.size
  block : ∀ k, k < w.heap.size → ¬ F k → w'.heap[k]? = w.heap[k]?
theorem Mod.refl (F : Nat → Prop) (w : World) : Mod F w w := ⟨rfl, rfl, rfl, Nat.le_refl _, fun _ _ _ => rfl⟩
theorem Mod.trans {F G : Nat → Prop} {a b c : World} (h : Mod F a b) (k : Mod G b c) (hi : ∀ x, G x → F x ∨ a.heap.size ≤ x) : Mod F a c :=
  ⟨k.os.trans h.os, k.tape.trans h.tape, k.output.trans h.output, Nat.le_trans h.size k.size, fun i hl hn => (k.block i (Nat.lt_of_lt_of_le hl h.size) fun hg => by
    rcases hi i hg with h1 | h1
    · exact hn h1
    · omega).trans (h.block i hl hn)⟩
theorem Mod.mono {F G : Nat → Prop} {w w' : World} (h : Mod F w w') (hs : ∀ k, F k → G k) : Mod G w w' := ⟨h.os, h.tape, h.output, h.size, fun k hk hn => h.block k hk fun hf => hn (hs k hf)⟩
theorem Mod.below {F : Nat → Prop} {w w' : World} {n : Nat} (h : Mod F w w') (hn : n ≤ w.heap.size) (hF : ∀ k, F k → n ≤ k) : Below n w w' :=
  ⟨h.os, h.tape, h.output, h.size, fun k hk => h.block k (by omega) fun hf => by have := hF k hf; omega⟩
theorem Mod.of_below {F : Nat → Prop} {w w' : World} (h : Below w.heap.size w w') : Mod F w w' := ⟨h.os, h.tape, h.output, h.size, fun k hk _ => h.block k hk⟩
theorem Mod.grown {F : Nat → Prop} {w w' : World} {row : Option Nat} (h : w.grownBy w' row) (hr : ∀ k, row = some k → F k) : Mod F w w' :=
  ⟨h.os, h.tape, h.output, h.size, fun k hk hn => h.block k hk fun e => hn (hr k e.symm)⟩
theorem Mod.setCell {F : Nat → Prop} (w : World) {p : Addr} (hp : F p.block) (u : Value) : Mod F w (w.setCell p u) :=
  ⟨rfl, rfl, rfl, by simp [World.setCell], fun k hk hn => Below.heap_setCell _ _ _ _ fun e => hn (e ▸ hp)⟩
theorem Mod.has {F : Nat → Prop} {w w' : World} {b : Nat} {cs : Array Value} {t : TypeId} (h : Mod F w w') (hh : Has w b cs t) (hn : ¬ F b) : Has w' b cs t := (h.block b hh.lt hn).trans hh
theorem Mod.cell {F : Nat → Prop} {w w' : World} (h : Mod F w w') {p : Addr} {v : Value} (hc : w.cell? p = some v) (hn : ¬ F p.block) : w'.cell? p = some v :=
  (World.cell?_of_block (h.block p.block (cell_lt hc) hn)).trans hc
theorem Mod.drew {F : Nat → Prop} {w w' : World} (h : Mod F w.drew w') : Mod F w w' := ⟨h.os, h.tape, h.output, h.size, h.block⟩
theorem Mod.drew2 {F : Nat → Prop} {w w' : World} (h : Mod F w w') : Mod F w w'.drew := ⟨h.os, h.tape, h.output, h.size, h.block⟩
theorem Mod.set {F : Nat → Prop} {w w' : World} (h : Mod F w w') {F' : Nat → Prop} (hs : ∀ k, F' k → F k) : Mod F' w w → Mod F w w' := fun _ => h

theorem Mod.isSet {F : Nat → Prop} {w w' : World} {b c : Nat} {L : List Nat} (h : Mod F w w') (hs : IsSet w b c L) (hn : ¬ F b) : IsSet w' b c L := by
  obtain ⟨h1, h2, R, h3, h4⟩ := hs
  exact ⟨h1, h2, R, h3.of_block (h.block b h3.lt hn), h4⟩
theorem IsSet.type {w : World} {b c : Nat} {L : List Nat} (h : IsSet w b c L) : ∃ cs, Has w b cs 106 := by
  obtain ⟨h1, h2, R, ⟨cs, h3, _⟩, h4⟩ := h
  exact ⟨cs, h3⟩
theorem IsRef.type {w : World} {b c : Nat} {L : List Nat} (h : IsRef w b c L) : ∃ cs, Has w b cs 54 := by
  obtain ⟨_, _, v, h3, _⟩ := h
  exact ⟨_, h3⟩
theorem Mod.own {F : Nat → Prop} {w w' : World} {base E s n : Nat} {v : Value} {xs : List Value} (ho : Mod F w w') (h : w.ownsRow base E s v n xs) (hn : ∀ k, v.ownBlock = some k → ¬ F k) : w'.ownsRow base E s v n xs := by
  refine ⟨h.1, ?_⟩
  rcases h.2 with h0 | ⟨g, cap, cur, rfl, hb, hg, r⟩
  · exact .inl h0
  · exact .inr ⟨g, cap, cur, rfl, hb, (ho.block g (heap_lt hg) (hn g rfl)).trans hg, r⟩
theorem own_type {w : World} {base E s n : Nat} {v : Value} {xs : List Value} (h : w.ownsRow base E s v n xs) {k : Nat} (hk : v.ownBlock = some k) : (∃ cs, Has w k cs E) ∧ base ≤ k := by
  rcases h.2 with ⟨rfl, _⟩ | ⟨g, cap, cur, rfl, hb, hg, _⟩
  · cases hk
  · cases hk; exact ⟨⟨_, hg⟩, hb⟩
theorem Mod.isRef {F : Nat → Prop} {w w' : World} {b c : Nat} {L : List Nat} (h : Mod F w w') (hs : IsRef w b c L) (hn : ¬ F b) (hi : ∀ k cs, Has w k cs 3 → ¬ F k) : IsRef w' b c L := by
  obtain ⟨h1, h2, v, h3, h4⟩ := hs
  exact ⟨h1, h2, v, (h.block b (heap_lt h3) hn).trans h3, h.own h4 fun k hk => by obtain ⟨⟨cs, hh⟩, _⟩ := own_type h4 hk; exact hi k cs hh⟩

/-- a number as a cell -/
def us (l : List Nat) : List Value := l.map fun t : Nat => Value.int .u32 (t : Int)
theorem us_len (l : List Nat) : (us l).length = l.length := List.length_map _
theorem us_append (a b : List Nat) : us (a ++ b) = us a ++ us b := List.map_append
theorem us_one (l : List Nat) : ∀ u ∈ us l, u.oneCell' = true := by
  intro u hu
  obtain ⟨x, _, rfl⟩ := List.mem_map.1 hu
  rfl
theorem us_ts (c : Nat) (L : List Nat) : L.map (tsV c) = us (L.map (ts c)) := by unfold us; rw [List.map_map]; rfl
theorem us_at {l : List Nat} {j t : Nat} (h : l[j]? = some t) : (us l)[j]? = some (.int .u32 (t : Int)) := by unfold us; rw [List.getElem?_map, h]; rfl
/-- numbers, as they are read -/
def nf (l : List Nat) (j : Nat) : Int := (l.getD j 0 : Nat)
theorem nums_us {w : World} {base : Nat} {v : Value} {l : List Nat} (h : w.ownsRow base 22 1 v l.length (us l)) : Nums w v l.length (nf l) := by
  have hml : l.length ≤ 9223372036854775807 := by
    rcases h.2 with ⟨_, h0⟩ | ⟨g, cap, cur, _, _, _, h1, h2, _⟩
    · omega
    · unfold maxLen at h2; omega
  obtain ⟨a, cap, rfl⟩ := row_len h
  refine ⟨hml, a, cap, rfl, ?_⟩
  by_cases h0 : l.length = 0
  · exact .inl h0
  right
  rcases h.2 with ⟨_, h1⟩ | ⟨g, cap', cur, e, hb, hg, _⟩
  · omega
  · cases e
    refine ⟨g, 0, rfl, (Array.getElem?_eq_some_iff.1 hg).1, fun j hj => ?_⟩
    rw [Nat.zero_add, h.cellAt j (by omega), us_at (List.getElem?_eq_getElem hj)]
    unfold nf
    rw [List.getD_eq_getElem?_getD, List.getElem?_eq_getElem hj]
    rfl
theorem Nums.nat {w : World} {a : Option Addr} {n cap : Nat} {f : Nat → Int} (h : Nums w (.slice a n cap) n f) {k : Nat} (hk : k < n) : ∃ b off, a = some ⟨b, off, none⟩ ∧ b < w.heap.size ∧ w.cell? ⟨b, off + k, none⟩ = some (.int .u32 (f k)) := by
  obtain ⟨_, a', cap', e, h⟩ := h
  cases e
  obtain ⟨b, off, e, hb, hc⟩ := h.resolve_left (by omega)
  exact ⟨b, off, e, hb, hc k hk⟩
theorem Mod.nums {F : Nat → Prop} {w w' : World} {v : Value} {n : Nat} {f : Nat → Int} (hm : Mod F w w') (h : Nums w v n f) (hF : ∀ k, v.ownBlock = some k → ¬ F k) (ho : ∀ a cap, v = .slice (some a) n cap → a.off = 0) : Nums w' v n f := by
  obtain ⟨h0, a, cap, rfl, h⟩ := h
  refine ⟨h0, a, cap, rfl, h.imp id ?_⟩
  rintro ⟨b, off, rfl, hb, hc⟩
  have : off = 0 := ho _ _ rfl
  subst this
  exact ⟨b, 0, rfl, Nat.lt_of_lt_of_le hb hm.size, fun j hj => hm.cell (hc j hj) (hF b rfl)⟩

theorem infoU32 : (Tryd.prog.info? 22).map (fun i => (i.zero, i.size, i.bytes)) = some (some (.int .u32 0), 1, 4) := by kernel_rfl
theorem news1 (w : World) (t : Nat) (ty : TypeId) : ∀ j u, ([.int .u32 (t : Int)] : List Value)[j]? = some u → (w.alloc (.cells #[.int .u32 (t : Int)] ty)).cell? ((⟨w.heap.size, 0, none⟩ : Addr).add j) = some u := by
  intro j u hj
  rw [show (⟨w.heap.size, 0, none⟩ : Addr).add j = ⟨w.heap.size, 0 + j, none⟩ by rw [Go.WideShapes.add_plain], Nat.zero_add]
  exact (Has.new w #[.int .u32 (t : Int)] ty).cell j (by simpa using hj)
/-- one number more -/
theorem app1 {base : Nat} {w : World} {v : Value} {l : List Nat} (t : Nat) (h : w.ownsRow base 22 1 v l.length (us l)) (hl : l.length ≤ 35184372088831) (hb : base ≤ w.heap.size) :
    ∃ v' w', (Builtin.append_ #[33, 33] 33 #[v, .slice (some ⟨w.heap.size, 0, none⟩) 1 1]).run Tryd.prog (w.alloc (.cells #[.int .u32 (t : Int)] 22)) = .ok v' w' ∧ w'.ownsRow base 22 1 v' (l ++ [t]).length (us (l ++ [t])) ∧ (w.alloc (.cells #[.int .u32 (t : Int)] 22)).grownBy w' v.ownBlock ∧ (v'.ownBlock = v.ownBlock ∨ v'.ownBlock = some (w.heap.size + 1)) := by
  have hB := (Below.refl _ w).alloc (Nat.le_refl _) (.cells #[.int .u32 (t : Int)] 22)
  have hM : Mod (fun k => w.heap.size ≤ k) w (w.alloc (.cells #[.int .u32 (t : Int)] 22)) := Mod.of_below hB
  have ho : (w.alloc (.cells #[.int .u32 (t : Int)] 22)).ownsRow base 22 1 v l.length (us l) := hM.own h fun k hk => by
    rcases h.2 with ⟨rfl, _⟩ | ⟨g, cap, cur, rfl, _, hg, _⟩
    · cases hk
    · cases hk; have := heap_lt hg; show ¬ w.heap.size ≤ g; omega
  obtain ⟨v', w', h1, h2, h3, h4⟩ := Ba.append_at (P := Tryd.prog) (t := 33) (ty := 33) (c := 1) Tryd.underlying33 infoU32 rfl (by decide) ho (m := 1) (news := [.int .u32 (t : Int)]) rfl (news1 w t 22) (by simp [Value.oneCell']) (.inl (by decide)) (by unfold maxLen; omega) (by omega) (by rw [World.size_alloc]; omega)
  refine ⟨v', w', h1, ?_, h3, ?_⟩
  · rw [us_append, List.length_append]; exact h2
  · rw [World.size_alloc] at h4; exact h4
/-- cells that lie one behind the other -/
def Lies (base : Nat) (w : World) (a : Option Addr) (xs : List Value) : Prop := xs = [] ∨ ∃ b off, a = some ⟨b, off, none⟩ ∧ base ≤ b ∧ ∀ j u, xs[j]? = some u → w.cell? ⟨b, off + j, none⟩ = some u
theorem Lies.later {base : Nat} {w w' : World} {a : Option Addr} {xs : List Value} (h : Lies base w a xs) (hb : Below w.heap.size w w') : Lies base w' a xs := by
  refine h.imp id ?_
  rintro ⟨b, off, rfl, hbb, hc⟩
  exact ⟨b, off, rfl, hbb, fun j u hj => (hb.cell (cell_lt (hc j u hj))).trans (hc j u hj)⟩
theorem lies_news {base : Nat} {w : World} {ad : Addr} {xs : List Value} (h : Lies base w (some ad) xs) : ∀ j u, xs[j]? = some u → w.cell? (ad.add j) = some u := by
  intro j u hj
  rcases h with h | ⟨b, off, e, _, hc⟩
  · rw [h] at hj; cases hj
  · cases e
    rw [show (⟨b, off, none⟩ : Addr).add j = ⟨b, off + j, none⟩ by rw [Go.WideShapes.add_plain]]
    exact hc j u hj
theorem own_lies {w : World} {base n E s : Nat} {v : Value} {xs : List Value} (h : w.ownsRow base E s v n xs) : ∃ a cap, v = .slice a n cap ∧ Lies base w a xs ∧ (a = none → n = 0 ∧ cap = 0) ∧ n ≤ cap ∧ cap ≤ maxLen := by
  obtain ⟨hl, h⟩ := h
  rcases h with ⟨rfl, rfl⟩ | ⟨g, cap, cur, rfl, hg, hh, hcap, hcm, hsz, htake⟩
  · refine ⟨none, 0, rfl, .inl (List.eq_nil_of_length_eq_zero (by simpa using hl)), (fun _ => ⟨rfl, rfl⟩), Nat.le_refl _, Nat.zero_le _⟩
  · refine ⟨_, cap, rfl, .inr ⟨g, 0, rfl, hg, fun j u hj => ?_⟩, (fun h => by cases h), hcap, hcm⟩
    have e := congrArg (fun t => t[j]?) htake
    have hjl := (List.getElem?_eq_some_iff.1 hj).1
    simp only [List.getElem?_take, hj] at e
    rw [if_pos (by omega)] at e
    simp only [World.cell?, hh, Nat.zero_add]
    simpa using e
theorem Lies.take {base : Nat} {w : World} {a : Option Addr} {xs : List Value} (h : Lies base w a xs) (k : Nat) : Lies base w a (xs.take k) := by
  rcases h with rfl | ⟨b, off, rfl, hb, hc⟩
  · exact .inl (by simp)
  · refine .inr ⟨b, off, rfl, hb, fun j u hj => hc j u ?_⟩
    rw [List.getElem?_take] at hj
    split at hj
    · exact hj
    · cases hj
theorem below_new (w : World) (o : Obj) : Below w.heap.size w (w.alloc o) := (Below.refl _ w).alloc (Nat.le_refl _) o
theorem cloneU32 (base : Nat) (w : World) (a : Option Addr) (n cap : Nat) (xs : List Value) (h : Lies base w a xs) (hl : xs.length = n * 1) (h1 : ∀ u ∈ xs, u.oneCell' = true) (hn : n ≤ 1000000000) :
    Calls Tryd.prog 57 #[.slice a n cap] w fun e w' => ∃ v, e = .returned v ∧ w'.ownsRow w.heap.size 22 1 v n xs ∧ Below w.heap.size w w' := by
  obtain ⟨i0, hi, hz0, hz1, hz2⟩ := info_parts infoU32
  have hen : ∀ (x : Option Addr) (n c : Nat) (w : World), (binOp .eql 33 (.slice x n c) (.slice none 0 0)).run Tryd.prog w = .ok (.bool x.isNone) w := fun x n c w => Lib.run_eql_slice_nil w 33 22 x n c 0 0 Tryd.underlying33
  rcases a with _ | ad
  · have hxs : xs = [] := by
      rcases h with h | ⟨b, off, e, _⟩
      · exact h
      · cases e
    obtain rfl : n = 0 := by rw [hxs] at hl; simp at hl; omega
    subst hxs
    clear h hl h1
    go_enter Tryd.func57, Tryd.ntmps57
    go_wp2
    go_ret
    exact ⟨_, rfl, World.ownsRow_nil _ _ _ _, Below.refl _ _⟩
  · have hb := below_new w (.cells #[] 22)
    have HNW := hidden (lies_news (h.later hb))
    have HO := hidden (show (w.alloc (.cells #[] 22)).ownsRow w.heap.size 22 1 (.slice (some ⟨w.heap.size, 0, none⟩) 0 0) 0 [] from World.ownsRow_lit w #[] 0 (Nat.le_refl _) (Nat.zero_le _) rfl)
    have HB := hidden hb
    have HL := hidden hl
    have H1 := hidden h1
    clear h hl h1 hb
    go_enter Tryd.func57, Tryd.ntmps57
    go_wp2_with (first | (at_builtin; refine wpList_append_own _ rfl (.tmp 5) _ 33 rfl w.heap.size 22 i0 (.int .u32 0) 1 4 Tryd.underlying33 hi hz0 hz1 hz2 rfl (by decide) _ _ _ rfl HO.out ad n cap xs rfl HL.out HNW.out H1.out ?c3 ?c4 (by simp) ?_) | go_in)
    case c3 => unfold maxLen; omega
    case c4 => omega
    intro v' w1 hown1 hgrow _
    try simp only [Nat.zero_add, List.nil_append] at hown1
    have HOW := hidden hown1
    have HBF := hidden (HB.out.grown hgrow (by simp) (fun q hq => by cases hq; exact Nat.le_refl _))
    clear hown1 hgrow
    go_wp2
    go_ret
    exact ⟨v', rfl, HOW.out, HBF.out⟩

/-- the code's box: its cells -/
def cb (bc bf : Nat) (v : Value) (n z : Int) (made : Bool) (delay : Int) (nr : Bool) : Array Value :=
  #[.pointer (some ⟨bc, 0, none⟩), .pointer (some ⟨bf, 0, none⟩), .int .i64 delay, .bool nr, v, .int .i64 n, .int .i64 z, .bool made]
structure Cd (n0 : Nat) (w : World) (b bc bf : Nat) (v : Value) (s : St) : Prop where
  q : ∃ z, Has w b (cb bc bf v s.n z s.made s.delay s.nr) 81 ∧ (0 < s.n → z = s.time) ∧ 0 ≤ z ∧ z ≤ 1099511628276
  a : IsSet w bc s.c s.L
  f : IsSet w bf s.c s.F
  ne : bc ≠ bf
  d : w.ownsRow n0 22 1 v s.D.length (us s.D)
  t : Tab w
  hb : n0 ≤ b
  hc : n0 ≤ bc
  hf : n0 ≤ bf
  h0 : 0 < n0
  hn : n0 ≤ w.heap.size
/-- its blocks -/
def FC (b bc bf : Nat) (v : Value) (k : Nat) : Prop := k = b ∨ k = bc ∨ k = bf ∨ v.ownBlock = some k
/-- the document's box: its cells -/
def rb (bs : Nat) (nr : Bool) (delay : Int) (fx dp : Value) (n : Int) (made : Bool) (set : Bool) (time : Int) : Array Value :=
  #[.pointer (some ⟨bs, 0, none⟩), .bool nr, .int .i64 delay, fx, dp, .int .i64 n, .bool made, .bool set, .int .i64 time]
structure Rf (n0 : Nat) (w : World) (r bs : Nat) (fx dp : Value) (P : List Nat) (s : St) : Prop where
  q : Has w r (rb bs s.nr s.delay fx dp s.n s.made (decide (0 < s.n)) s.time) 64
  a : IsRef w bs s.c s.L
  f : w.ownsRow n0 22 1 fx P.length (us P)
  p : Fx s.c s.F P
  d : w.ownsRow n0 22 1 dp s.D.length (us s.D)
  ne : ∀ k, fx.ownBlock = some k → dp.ownBlock ≠ some k
  hr : n0 ≤ r
  hs : n0 ≤ bs
  h0 : 0 < n0
  hn : n0 ≤ w.heap.size
def FD (r bs : Nat) (fx dp : Value) (k : Nat) : Prop := k = r ∨ k = bs ∨ fx.ownBlock = some k ∨ dp.ownBlock = some k
section
variable {n0 : Nat} {w w' : World} {b bc bf r bs : Nat} {v fx dp : Value} {P : List Nat} {s : St} {G : Nat → Prop}
theorem Cd.type (h : Cd n0 w b bc bf v s) {k : Nat} (hk : FC b bc bf v k) : ∃ cs ty, Has w k cs ty ∧ n0 ≤ k ∧ (ty = 81 ∨ ty = 106 ∨ (ty = 22 ∧ v.ownBlock = some k)) := by
  rcases hk with rfl | rfl | rfl | hk
  · obtain ⟨z, hq, _⟩ := h.q; exact ⟨_, _, hq, h.hb, .inl rfl⟩
  · obtain ⟨cs, hh⟩ := IsSet.type h.a; exact ⟨_, _, hh, h.hc, .inr (.inl rfl)⟩
  · obtain ⟨cs, hh⟩ := IsSet.type h.f; exact ⟨_, _, hh, h.hf, .inr (.inl rfl)⟩
  · obtain ⟨⟨cs, hh⟩, hb⟩ := own_type h.d hk; exact ⟨_, _, hh, hb, .inr (.inr ⟨rfl, hk⟩)⟩
theorem Rf.type (h : Rf n0 w r bs fx dp P s) {k : Nat} (hk : FD r bs fx dp k) : ∃ cs ty, Has w k cs ty ∧ n0 ≤ k ∧ (ty = 64 ∨ ty = 54 ∨ (ty = 22 ∧ (fx.ownBlock = some k ∨ dp.ownBlock = some k))) := by
  rcases hk with rfl | rfl | hk | hk
  · exact ⟨_, _, h.q, h.hr, .inl rfl⟩
  · obtain ⟨cs, hh⟩ := IsRef.type h.a; exact ⟨_, _, hh, h.hs, .inr (.inl rfl)⟩
  · obtain ⟨⟨cs, hh⟩, hb⟩ := own_type h.f hk; exact ⟨_, _, hh, hb, .inr (.inr ⟨rfl, .inl hk⟩)⟩
  · obtain ⟨⟨cs, hh⟩, hb⟩ := own_type h.d hk; exact ⟨_, _, hh, hb, .inr (.inr ⟨rfl, .inr hk⟩)⟩
theorem has_type {w : World} {k : Nat} {cs cs' : Array Value} {t t' : TypeId} (h : Has w k cs t) (h' : Has w k cs' t') : t = t' := Classical.byContradiction fun e => h.ne h' e rfl
theorem Cd.stay (h : Cd n0 w b bc bf v s) (hm : Mod G w w') (h1 : ∀ k, FC b bc bf v k → ¬ G k) (h2 : ∀ k, k < n0 → ¬ G k) : Cd n0 w' b bc bf v s := by
  obtain ⟨z, hq, hz⟩ := h.q
  refine ⟨⟨z, hm.has hq (h1 _ (.inl rfl)), hz⟩, hm.isSet h.a (h1 _ (.inr (.inl rfl))), hm.isSet h.f (h1 _ (.inr (.inr (.inl rfl)))), h.ne, hm.own h.d fun k hk => h1 k (.inr (.inr (.inr hk))), fun i hi => hm.cell (h.t i hi) (h2 0 h.h0), h.hb, h.hc, h.hf, h.h0, Nat.le_trans h.hn hm.size⟩
theorem Cd.later (h : Cd n0 w b bc bf v s) (hB : Below w.heap.size w w') : Cd n0 w' b bc bf v s :=
  h.stay (G := fun k => w.heap.size ≤ k) (Mod.of_below hB) (fun k hk hf => by obtain ⟨cs, ty, hh, _⟩ := h.type hk; have := hh.lt; omega) (fun k hk hf => by have := h.hn; omega)
theorem Rf.stay (h : Rf n0 w r bs fx dp P s) (hm : Mod G w w') (h1 : ∀ k, FD r bs fx dp k → ¬ G k) (h2 : ∀ k cs, Has w k cs 3 → ¬ G k) : Rf n0 w' r bs fx dp P s :=
  ⟨hm.has h.q (h1 _ (.inl rfl)), hm.isRef h.a (h1 _ (.inr (.inl rfl))) h2, hm.own h.f fun k hk => h1 k (.inr (.inr (.inl hk))), h.p, hm.own h.d fun k hk => h1 k (.inr (.inr (.inr hk))), h.ne, h.hr, h.hs, h.h0, Nat.le_trans h.hn hm.size⟩
theorem Rf.later (h : Rf n0 w r bs fx dp P s) (hB : Below w.heap.size w w') : Rf n0 w' r bs fx dp P s :=
  h.stay (G := fun k => w.heap.size ≤ k) (Mod.of_below hB) (fun k hk hf => by obtain ⟨cs, ty, hh, _⟩ := h.type hk; have := hh.lt; omega) (fun k cs hh hf => by have := hh.lt; omega)
/-- a call of the code's box leaves the document's -/
theorem Rf.code (h : Rf n0 w r bs fx dp P s) {s' : St} (hc : Cd n0 w b bc bf v s') (hm : Mod (FC b bc bf v) w w') (hd : ∀ k, v.ownBlock = some k → fx.ownBlock ≠ some k ∧ dp.ownBlock ≠ some k) : Rf n0 w' r bs fx dp P s := by
  refine h.stay hm (fun k hk hf => ?_) (fun k cs hh hf => ?_)
  · obtain ⟨c1, t1, hh1, _, e1⟩ := h.type hk
    obtain ⟨c2, t2, hh2, _, e2⟩ := hc.type hf
    have e := has_type hh1 hh2
    subst e
    rcases e1 with rfl | rfl | ⟨rfl, k1⟩ <;> rcases e2 with e2 | e2 | ⟨e2, k2⟩ <;> first | (cases e2; done) | exact absurd e2 (by decide) | skip
    have := hd k k2
    rcases k1 with k1 | k1
    · exact this.1 k1
    · exact this.2 k1
  · obtain ⟨c2, t2, hh2, _, e2⟩ := hc.type hf
    have e := has_type hh hh2
    subst e
    rcases e2 with e2 | e2 | ⟨e2, _⟩ <;> exact absurd e2 (by decide)
theorem Cd.doc {s' : St} (h : Rf n0 w r bs fx dp P s') (hc : Cd n0 w b bc bf v s) (hm : Mod (FD r bs fx dp) w w') (hd : ∀ k, v.ownBlock = some k → fx.ownBlock ≠ some k ∧ dp.ownBlock ≠ some k) : Cd n0 w' b bc bf v s := by
  refine hc.stay hm (fun k hf hk => ?_) (fun k hk hf => ?_)
  · obtain ⟨c1, t1, hh1, _, e1⟩ := h.type hk
    obtain ⟨c2, t2, hh2, _, e2⟩ := hc.type hf
    have e := has_type hh1 hh2
    subst e
    rcases e1 with rfl | rfl | ⟨rfl, k1⟩ <;> rcases e2 with e2 | e2 | ⟨e2, k2⟩ <;> first | (cases e2; done) | exact absurd e2 (by decide) | skip
    have := hd k k2
    rcases k1 with k1 | k1
    · exact this.1 k1
    · exact this.2 k1
  · obtain ⟨c1, t1, hh1, hn, _⟩ := h.type hf
    omega
theorem Cd.fc_ge (h : Cd n0 w b bc bf v s) : ∀ k, FC b bc bf v k → n0 ≤ k := fun k hk => by obtain ⟨_, _, _, hn, _⟩ := h.type hk; exact hn
theorem Rf.fd_ge (h : Rf n0 w r bs fx dp P s) : ∀ k, FD r bs fx dp k → n0 ≤ k := fun k hk => by obtain ⟨_, _, _, hn, _⟩ := h.type hk; exact hn
theorem Cd.nb (h : Cd n0 w b bc bf v s) : b ≠ bc ∧ b ≠ bf ∧ ∀ k, v.ownBlock = some k → k ≠ b ∧ k ≠ bc ∧ k ≠ bf := by
  obtain ⟨z, hq, _⟩ := h.q
  obtain ⟨c1, h1⟩ := IsSet.type h.a
  obtain ⟨c2, h2⟩ := IsSet.type h.f
  refine ⟨hq.ne h1 (by decide), hq.ne h2 (by decide), fun k hk => ?_⟩
  obtain ⟨⟨c3, h3⟩, _⟩ := own_type h.d hk
  exact ⟨h3.ne hq (by decide), h3.ne h1 (by decide), h3.ne h2 (by decide)⟩
theorem Rf.nb (h : Rf n0 w r bs fx dp P s) : r ≠ bs ∧ (∀ k, fx.ownBlock = some k → k ≠ r ∧ k ≠ bs) ∧ ∀ k, dp.ownBlock = some k → k ≠ r ∧ k ≠ bs := by
  obtain ⟨c1, h1⟩ := IsRef.type h.a
  refine ⟨h.q.ne h1 (by decide), fun k hk => ?_, fun k hk => ?_⟩
  · obtain ⟨⟨c3, h3⟩, _⟩ := own_type h.f hk
    exact ⟨h3.ne h.q (by decide), h3.ne h1 (by decide)⟩
  · obtain ⟨⟨c3, h3⟩, _⟩ := own_type h.d hk
    exact ⟨h3.ne h.q (by decide), h3.ne h1 (by decide)⟩
end
end Go.Proofs.YtdifceikfnnfeaaDoor.Sp.Inb
