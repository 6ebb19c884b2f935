/-
  Packets in memory; the smallest functions of package packet and the document's.
  Conditions: the numbers lie within their kinds, the cells hold them.
-/
import Derived.Test.YtmnndkhdekpecaaGreatDoorPkM
namespace Go.Proofs.YtmnndkhdekpecaaGreatDoor.Pkt
open Go.ChangeShapes Go.WideShapes Go.ChangeAt Go.RowKit
open Chu (Ch Ck Cks Chk val cv cc ld)
open Par (hidden Bytes Row cell_lt)
set_option linter.unusedVariables false
set_option maxRecDepth 20000

/-- a packet: its head's numbers; of its chunks the address, the length, the capacity, and themselves -/
structure Pk where
  f : Int
  t : Int
  g : Int
  a : Option Addr
  n : Nat
  c : Nat
  l : List Ck
def pkc (p : Pk) : Array Value := #[.int .u16 p.f, .int .u16 p.t, .int .u32 p.g, .slice p.a p.n p.c]
def pkv (p : Pk) : Value := .agg (pkc p)
/-- it can be read -/
def PkOk (base : Nat) (w : World) (p : Pk) : Prop := (0 ≤ p.f ∧ p.f < 65536) ∧ (0 ≤ p.t ∧ p.t < 65536) ∧ (0 ≤ p.g ∧ p.g < 4294967296) ∧ Cks base w p.a p.n p.l
theorem PkOk.later {base : Nat} {w w' : World} {p : Pk} (h : PkOk base w p) (hb : Below w.heap.size w w') : PkOk base w' p := ⟨h.1, h.2.1, h.2.2.1, h.2.2.2.later hb⟩
/-- no packet -/
def zpk : Pk := ⟨0, 0, 0, none, 0, 0, []⟩
theorem zpk_ok (base : Nat) (w : World) : PkOk base w zpk := ⟨by decide, by decide, by decide, Cks.nil _ _ _⟩
/-- a new block with a packet in it -/
def Px (w : World) (B : Nat) (p : Pk) : Prop := w.cell? ⟨B, 0, none⟩ = some (.int .u16 p.f) ∧ w.cell? ⟨B, 1, none⟩ = some (.int .u16 p.t) ∧ w.cell? ⟨B, 2, none⟩ = some (.int .u32 p.g) ∧ w.cell? ⟨B, 3, none⟩ = some (.slice p.a p.n p.c)
theorem Px.later {w w' : World} {B : Nat} {p : Pk} (h : Px w B p) (hb : Below w.heap.size w w') : Px w' B p :=
  ⟨(hb.cell (cell_lt h.1)).trans h.1, (hb.cell (cell_lt h.2.1)).trans h.2.1, (hb.cell (cell_lt h.2.2.1)).trans h.2.2.1, (hb.cell (cell_lt h.2.2.2)).trans h.2.2.2⟩
theorem Px.new (w : World) (p : Pk) (ty : TypeId) : Px (w.alloc (.cells (pkc p) ty)) w.heap.size p := by
  have h : ∀ j, (w.alloc (.cells (pkc p) ty)).cell? ⟨w.heap.size, j, none⟩ = (pkc p)[j]? := fun j => by
    rw [World.cell?_alloc_at _ _ _ _ rfl]
  exact ⟨h 0, h 1, h 2, h 3⟩
theorem below_new (w : World) (o : Obj) : Below w.heap.size w (w.alloc o) := (Below.refl _ w).alloc (Nat.le_refl _) _

theorem row_at (w : World) (zs : List Int) (C : Array Value) (n : Nat) (hn : n = zs.length) (hC : C = (zs.map (Value.int .u8)).toArray) (h : Bytes zs) (hl : zs.length ≤ 140737488355328) (base : Nat) (hb : base ≤ w.heap.size) (g : Nat) (hg : g = w.heap.size) : Row base (w.alloc (.cells C 5)) (some ⟨g, 0, none⟩) n zs := by
  subst hn hC hg
  refine ⟨rfl, h, hl, .inr ⟨_, _, rfl, hb, fun j hj => ?_⟩⟩
  have h1 := heap_alloc_new w (.cells (zs.map (Value.int .u8)).toArray 5)
  simp only [World.cell?, h1, Nat.zero_add]
  simp [List.getElem?_eq_getElem hj, List.getD_eq_getElem?_getD]
theorem crow {base : Nat} {w : World} {a : Option Addr} {len : Nat} {zs : List Int} (h : Row base w a len zs) : Crc.Row w a len zs := by
  obtain ⟨h1, h2, h3, h4⟩ := h
  refine ⟨h1, h2, by omega, h4.imp id ?_⟩
  rintro ⟨b, off, rfl, _, hc⟩
  exact ⟨b, off, rfl, hc⟩
/-- whether a kind stands alone, as an answer -/
def aloneB (k : Int) : Bool := decide (k = 1 ∨ k = 2 ∨ k = 14)
theorem aloneB_iff (k : Int) : aloneB k = true ↔ alone k := decide_eq_true_iff
theorem alone_says (k : Int) (w : World) : Calls Tryz.prog 11 #[.int .u8 k] w fun e w' => e = .returned (.bool (aloneB k)) ∧ w = w' := by
  by_cases h1 : k = 1
  · subst h1
    go_enter Tryz.func11, Tryz.ntmps11
    go_wp2
    go_ret
    exact ⟨rfl, rfl⟩
  by_cases h2 : k = 2
  · subst h2
    go_enter Tryz.func11, Tryz.ntmps11
    go_wp2
    go_ret
    exact ⟨rfl, rfl⟩
  by_cases h3 : k = 14
  · subst h3
    go_enter Tryz.func11, Tryz.ntmps11
    go_wp2
    go_ret
    exact ⟨rfl, rfl⟩
  · have H := hidden (show aloneB k = false from decide_eq_false (by omega))
    have b1 : (k == 1) = false := by simpa using h1
    have b2 : (k == 2) = false := by simpa using h2
    have b3 : (k == 14) = false := by simpa using h3
    go_enter Tryz.func11, Tryz.ntmps11
    go_wp2
    go_ret
    exact ⟨by rw [H.out]; rfl, rfl⟩
theorem ralone_says (k : Int) (w : World) : Calls Tryz.prog 12 #[.int .u8 k] w fun e w' => e = .returned (.bool (aloneB k)) ∧ w = w' := by
  by_cases h1 : k = 1
  · subst h1
    go_enter Tryz.func12, Tryz.ntmps12
    go_wp2
    go_ret
    exact ⟨rfl, rfl⟩
  by_cases h2 : k = 2
  · subst h2
    go_enter Tryz.func12, Tryz.ntmps12
    go_wp2
    go_ret
    exact ⟨rfl, rfl⟩
  by_cases h3 : k = 14
  · subst h3
    go_enter Tryz.func12, Tryz.ntmps12
    go_wp2
    go_ret
    exact ⟨rfl, rfl⟩
  · have H := hidden (show aloneB k = false from decide_eq_false (by omega))
    have b1 : (k == 1) = false := by simpa using h1
    have b2 : (k == 2) = false := by simpa using h2
    have b3 : (k == 14) = false := by simpa using h3
    go_enter Tryz.func12, Tryz.ntmps12
    go_wp2
    go_ret
    exact ⟨by rw [H.out]; rfl, rfl⟩
/-- whether a packet has ports -/
def portsB (p : Pk) : Bool := decide (p.f ≠ 0 ∧ p.t ≠ 0)
theorem portsB_t {p : Pk} (h : p.f ≠ 0 ∧ p.t ≠ 0) : portsB p = true := decide_eq_true h
theorem portsB_f {p : Pk} (h : ¬ (p.f ≠ 0 ∧ p.t ≠ 0)) : portsB p = false := decide_eq_false h
theorem hasPorts (p : Pk) (w : World) : Calls Tryz.prog 23 #[pkv p] w fun e w' => e = .returned (.bool (portsB p)) ∧ Below w.heap.size w w' := by
  have HB := hidden (below_new w (.cells (pkc p) 26))
  obtain ⟨f, t, g, a, n, c, l⟩ := p
  unfold pkv pkc at *
  by_cases h1 : f = 0
  · subst h1
    have H := hidden (portsB_f (p := ⟨0, t, g, a, n, c, l⟩) (by simp))
    go_enter Tryz.func23, Tryz.ntmps23
    go_wp2
    go_ret
    exact ⟨by rw [H.out]; rfl, HB.out⟩
  by_cases h2 : t = 0
  · subst h2
    have H := hidden (portsB_f (p := ⟨f, 0, g, a, n, c, l⟩) (by simp))
    have b1 : (f == 0) = false := by simpa using h1
    go_enter Tryz.func23, Tryz.ntmps23
    go_wp2
    go_ret
    exact ⟨by rw [H.out]; rfl, HB.out⟩
  · have H := hidden (portsB_t (p := ⟨f, t, g, a, n, c, l⟩) ⟨h1, h2⟩)
    have b1 : (f == 0) = false := by simpa using h1
    have b2 : (t == 0) = false := by simpa using h2
    go_enter Tryz.func23, Tryz.ntmps23
    go_wp2
    go_ret
    exact ⟨by rw [H.out]; simp [bne, b1, b2], HB.out⟩
/-- the kind of one of chunks -/
theorem kind_at {base : Nat} {w : World} {a : Option Addr} {n k : Nat} {l : List Ck} (h : Cks base w a n l) (hk : k < n) :
    ∃ b off c, a = some ⟨b, off, none⟩ ∧ l[k]? = some c ∧ w.cell? ⟨b, off + k * 15, none⟩ = some (.int .u8 c.kind) := by
  obtain ⟨h1, h2, h3, h4⟩ := h
  have hkl : k < l.length := by omega
  rcases h4 with h0 | ⟨b, off, rfl, hbb, hc⟩
  · have := Chu.ccs_len l
    rw [h0] at this
    simp at this
    omega
  · refine ⟨b, off, l[k], rfl, List.getElem?_eq_getElem hkl, ?_⟩
    exact hc _ _ (Chu.ccs_get l k _ (List.getElem?_eq_getElem hkl) 0 _ (Chu.cc_0 _))
attribute [local go_sem ↓] Chu.execOp_ld Chu.execOp_bx Chu.execOp_st
attribute [local go_sem] Chu.run_box
theorem standsAlone (c : Ck) (w : World) : Calls Tryz.prog 48 #[cv c] w fun e w' => e = .returned (.bool (aloneB c.kind)) ∧ Below w.heap.size w w' := by
  have h0 := (Chu.Bx.new w c).c0
  have HB := hidden (Chu.below_box w c)
  go_enter Tryz.func48, Tryz.ntmps48
  go_wp2_with fail
  refine (alone_says c.kind _).mono ?_
  rintro e w' ⟨rfl, rfl⟩
  go_wp2
  go_ret
  exact ⟨rfl, HB.out⟩
/-- one of them stands alone -/
def Lone (vs : List Ch) : Prop := ∃ v ∈ vs, alone v.kind
theorem lone_of {l : List Ck} : Lone (l.map val) ↔ ∃ c ∈ l, alone c.kind := by
  constructor
  · rintro ⟨v, hv, h⟩
    obtain ⟨c, hc, rfl⟩ := List.mem_map.1 hv
    exact ⟨c, hc, h⟩
  · rintro ⟨c, hc, h⟩
    exact ⟨val c, List.mem_map.2 ⟨c, hc, rfl⟩, h⟩
theorem index (base : Nat) (w : World) (pa : Option Addr) (n pcap : Nat) (ps : List Ck) (hp : Cks base w pa n ps) :
    Calls Tryz.prog 80 #[.slice pa n pcap, .func (.func 48) #[] #[]] w fun e w' => ∃ k : Int, e = .returned (.int .i64 k) ∧ (0 ≤ k ↔ Lone (ps.map val)) ∧ Below w.heap.size w w' := by
  have HP0 := hidden hp
  have hpl := hp.1
  have hnl := hp.2.1
  clear hp
  go_enter Tryz.func80, Tryz.ntmps80
  go_wp2_with fail
  go_loopw [8] (fun i wr => ∃ k : Nat, k ≤ n ∧ i = .int .i64 k ∧ (∀ p ∈ ps.take k, ¬ alone p.kind) ∧ Below w.heap.size w wr) (fun i _ => n - (intOf i).toNat)
  case atStart => exact ⟨0, Nat.zero_le _, rfl, (fun p hp => by simp at hp), Below.refl _ _⟩
  case round =>
    obtain ⟨k, hk, rfl, hno, hbl⟩ := hrel
    rcases Nat.lt_or_ge k n with hlt | hge
    · obtain ⟨b, off, c, rfl, hpk, hl1, hc1⟩ := (HP0.out.later hbl).get hlt
      have HP := hidden hpk
      have HN := hidden hno
      have HB := hidden hbl
      clear hpk hno hbl hc1
      go_wp2_with fail
      refine (standsAlone c _).mono ?_
      rintro e w' ⟨rfl, b2⟩
      have HB2 := hidden (HB.out.trans (b2.mono HB.out.size))
      clear b2
      by_cases hL : alone c.kind
      · rw [(aloneB_iff c.kind).2 hL]
        go_wp2
        go_ret
        exact ⟨k, rfl, ⟨fun _ => lone_of.2 ⟨_, List.mem_of_getElem? HP.out, hL⟩, fun _ => by omega⟩, HB2.out⟩
      · rw [show aloneB c.kind = false from decide_eq_false hL]
        go_wp2
        go_roundw
        case rel =>
          refine ⟨k + 1, by omega, by go_num, fun p hp => ?_, HB2.out⟩
          rcases Par.mem_take_succ HP.out hp with h | h
          · exact HN.out p h
          · subst h; exact hL
        case measure => simp [intOf]; omega
    · obtain rfl : k = n := by omega
      rw [List.take_of_length_le (by omega)] at hno
      have HN := hidden hno
      clear hno
      go_wp2
      go_ret
      exact ⟨-1, rfl, ⟨fun h => by omega, fun h => by obtain ⟨p, hp, hl⟩ := lone_of.1 h; exact absurd hl (HN.out p hp)⟩, hbl⟩
theorem contains (base : Nat) (w : World) (pa : Option Addr) (n pcap : Nat) (ps : List Ck) (hp : Cks base w pa n ps) :
    Calls Tryz.prog 47 #[.slice pa n pcap, .func (.func 48) #[] #[]] w fun e w' => ∃ t : Bool, e = .returned (.bool t) ∧ (t = true ↔ Lone (ps.map val)) ∧ Below w.heap.size w w' := by
  have H := hidden (index base w pa n pcap ps hp)
  go_enter Tryz.func47, Tryz.ntmps47
  go_wp2_with fail
  refine Calls.mono H.out ?_
  rintro e w' ⟨k, rfl, hk, hb⟩
  have HK := hidden hk
  clear hk
  go_wp2
  go_ret
  exact ⟨_, rfl, by rw [← HK.out]; simp, hb⟩
/-- chunks that may stand in one packet -/
theorem together (base : Nat) (w : World) (pa : Option Addr) (n pcap : Nat) (ps : List Ck) (hp : Cks base w pa n ps) :
    Calls Tryz.prog 24 #[.slice pa n pcap] w fun e w' => ∃ t : Bool, e = .returned (.bool t) ∧ (t = true ↔ ¬ Mixed (ps.map val)) ∧ Below w.heap.size w w' := by
  have H := hidden (contains base w pa n pcap ps hp)
  have hl : (ps.map val).length = n := by rw [List.length_map]; exact hp.1
  have hnl := hp.2.1
  have HM := hidden (show n < 2 → ¬ Mixed (ps.map val) from fun h m => by have := m.1; omega)
  have HM2 := hidden (show ¬ n < 2 → (Mixed (ps.map val) ↔ Lone (ps.map val)) from fun h => ⟨fun m => m.2, fun m => ⟨by omega, m⟩⟩)
  clear hp hl
  by_cases h2 : n < 2
  · have i2 : (n : Int) < 2 := by omega
    go_enter Tryz.func24, Tryz.ntmps24
    go_wp2
    go_ret
    exact ⟨true, rfl, ⟨fun _ => HM.out h2, fun _ => rfl⟩, Below.refl _ _⟩
  · have i2 : ¬ (n : Int) < 2 := by omega
    go_enter Tryz.func24, Tryz.ntmps24
    go_wp2_with fail
    refine Calls.mono H.out ?_
    rintro e w' ⟨t, rfl, hk, hb⟩
    have HK := hidden hk
    clear hk
    go_wp2
    go_ret
    exact ⟨!t, rfl, by rw [HM2.out h2, ← HK.out]; simp, hb⟩
theorem mixed_says (base : Nat) (w : World) (pa : Option Addr) (n pcap : Nat) (ps : List Ck) (hp : Cks base w pa n ps) :
    Calls Tryz.prog 29 #[.slice pa n pcap] w fun e w' => ∃ t : Bool, e = .returned (.bool t) ∧ (t = true ↔ Mixed (ps.map val)) ∧ w = w' := by
  have hpl : (ps.map val).length = n := by rw [List.length_map]; exact hp.1
  have hpl' := hp.1
  have hnl := hp.2.1
  go_enter Tryz.func29, Tryz.ntmps29
  go_wp2_with fail
  go_loop [3] (fun i => ∃ k : Nat, k ≤ n ∧ i = .int .i64 k ∧ (∀ p ∈ ps.take k, ¬ (alone p.kind ∧ 2 ≤ n))) (fun i => n - (intOf i).toNat)
  case atStart => exact ⟨0, Nat.zero_le _, rfl, (fun p hp => by simp at hp)⟩
  case round =>
    obtain ⟨k, hk, rfl, hno⟩ := hrel
    rcases Nat.lt_or_ge k n with hlt | hge
    · obtain ⟨b, off, c, rfl, hpk, h0⟩ := kind_at hp hlt
      have HP := hidden hpk
      have HN := hidden hno
      have HL := hidden hpl
      clear hpk hno hp hpl hpl'
      go_wp2_with fail
      refine (ralone_says c.kind _).mono ?_
      rintro e w' ⟨rfl, rfl⟩
      by_cases hL : alone c.kind
      · rw [(aloneB_iff c.kind).2 hL]
        by_cases h2 : 2 ≤ n
        · have i2 : (1 : Int) < (n : Int) := by omega
          go_wp2
          go_ret
          exact ⟨true, rfl, ⟨fun _ => ⟨by rw [HL.out]; exact h2, val c, List.mem_map.2 ⟨c, List.mem_of_getElem? HP.out, rfl⟩, hL⟩, fun _ => rfl⟩, rfl⟩
        · have i2 : ¬ (1 : Int) < (n : Int) := by omega
          go_wp2
          go_round
          case rel =>
            refine ⟨k + 1, by omega, by go_num, fun p hp => ?_⟩
            exact fun h => h2 h.2
          case measure => simp [intOf]; omega
      · rw [show aloneB c.kind = false from decide_eq_false hL]
        go_wp2
        go_round
        case rel =>
          refine ⟨k + 1, by omega, by go_num, fun p hp => ?_⟩
          rcases Par.mem_take_succ HP.out hp with h | h
          · exact HN.out p h
          · subst h; exact fun h => hL h.1
        case measure => simp [intOf]; omega
    · obtain rfl : k = n := by omega
      rw [List.take_of_length_le (by omega)] at hno
      have HN := hidden hno
      have HL := hidden hpl
      clear hno hpl hp
      go_wp2
      go_ret
      refine .inl ⟨rfl, fun h => ?_, rfl⟩
      obtain ⟨h1, v, hv, ha⟩ := h
      obtain ⟨c, hc, rfl⟩ := List.mem_map.1 hv
      exact absurd ⟨ha, by rw [← HL.out]; exact h1⟩ (HN.out c hc)
end Go.Proofs.YtmnndkhdekpecaaGreatDoor.Pkt
