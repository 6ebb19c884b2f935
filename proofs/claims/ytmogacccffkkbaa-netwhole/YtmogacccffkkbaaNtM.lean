/-
  Networks as values: packets, rows, what every call makes of them, what stays true of them.
  Conditions: as at each lemma.
-/
import Derived.WalkKit
import Derived.Laws.BitsAllLaws
namespace Go.Proofs.Ytmogacccffkkbaa.Nt
set_option linter.unusedVariables false

/-- a packet on its way -/
structure Pk where
  id : Int
  sent : Int
  len : Int
  forged : Bool
  bs : List Int
/-- none -/
def zpk : Pk := ⟨0, 0, 0, false, []⟩
/-- what became of packets -/
structure Tr where
  s : Int
  d : Int
  l : Int
  f : Int
structure Rw where
  T : Tr
  L : List Pk
structure St where
  p : Nat
  next : Int
  R : Nat → Nat → Rw
  off : Nat → Bool
/-- one that was just made -/
def fresh (p : Nat) : St := ⟨p, 0, fun _ _ => ⟨⟨0, 0, 0, 0⟩, []⟩, fun _ => false⟩

def up2 {X : Type} (f : Nat → Nat → X) (i e : Nat) (x : X) : Nat → Nat → X := fun i' e' => if i' = i ∧ e' = e then x else f i' e'
theorem up2_same {X : Type} (f : Nat → Nat → X) (i e : Nat) (x : X) : up2 f i e x i e = x := if_pos ⟨rfl, rfl⟩
theorem up2_ne {X : Type} (f : Nat → Nat → X) {i e i' e' : Nat} (x : X) (h : ¬ (i' = i ∧ e' = e)) : up2 f i e x i' e' = f i' e' := if_neg h
theorem up2_up2 {X : Type} (f : Nat → Nat → X) (i e : Nat) (x y : X) : up2 (up2 f i e x) i e y = up2 f i e y := by
  funext i' e'
  unfold up2
  split <;> rfl
theorem up2_self {X : Type} (f : Nat → Nat → X) (i e : Nat) : up2 f i e (f i e) = f := by
  funext i' e'
  unfold up2
  split
  · next h => rw [h.1, h.2]
  · rfl
def up1 {X : Type} (f : Nat → X) (i : Nat) (x : X) : Nat → X := fun i' => if i' = i then x else f i'
theorem up1_same {X : Type} (f : Nat → X) (i : Nat) (x : X) : up1 f i x i = x := if_pos rfl
theorem up1_ne {X : Type} (f : Nat → X) {i i' : Nat} (x : X) (h : i' ≠ i) : up1 f i x i' = f i' := if_neg h

def St.row (S : St) (i e : Nat) (r : Rw) : St := ⟨S.p, S.next, up2 S.R i e r, S.off⟩
def okE (en : Int) : Bool := decide (0 ≤ en ∧ en < 2)
def okP (S : St) (path : Int) : Bool := decide (0 ≤ path ∧ path < (S.p : Int))
def ok (S : St) (en path : Int) : Bool := okE en && okP S path
theorem ok_iff {S : St} {en path : Int} : ok S en path = true ↔ (0 ≤ en ∧ en < 2) ∧ 0 ≤ path ∧ path < (S.p : Int) := by simp [ok, okE, okP]

def bump (f : Bool) (T : Tr) : Tr := if f then { T with f := T.f + 1 } else { T with s := T.s + 1 }
def cnt (S : St) (i e : Nat) (f : Bool) : St := S.row i e ⟨bump f (S.R i e).T, (S.R i e).L⟩
def putR (n : Int) (o : Bool) (r : Rw) (pk : Pk) : Rw := if o then ⟨{ r.T with l := r.T.l + 1 }, r.L⟩ else ⟨r.T, r.L ++ [{ pk with id := n }]⟩
def putS (S : St) (i e : Nat) (pk : Pk) : St := ⟨S.p, S.next + 1, up2 S.R i e (putR S.next (S.off i) (S.R i e) pk), S.off⟩
/-- Send, Forge -/
def laE (S : St) (en path now : Int) (n : Nat) : Int := if ok S en path then (if 0 ≤ now ∧ now ≤ 1099511627776 then (if n ≤ 65536 then 0 else 2) else 1) else 90
def laI (S : St) (en path now : Int) (n : Nat) : Int := if laE S en path now n = 0 then S.next else 0
def laS (S : St) (en path now : Int) (bs : List Int) (f : Bool) : St := if laE S en path now bs.length = 0 then putS (cnt S path.toNat en.toNat f) path.toNat en.toNat ⟨0, now, bs.length, f, bs⟩ else S
/-- the i-th packet -/
def trE (S : St) (en path i : Int) : Int := if ok S en path then (if 0 ≤ i ∧ i < ((S.R path.toNat en.toNat).L.length : Int) then 0 else 91) else 90
def pkAt (S : St) (en path i : Int) : Pk := (S.R path.toNat en.toNat).L.getD i.toNat zpk
def dlT (T : Tr) : Tr := { T with d := T.d + 1 }
def drT (T : Tr) : Tr := { T with l := T.l + 1 }
def takeS (S : St) (en path i : Int) (g : Tr → Tr) : St := if trE S en path i = 0 then S.row path.toNat en.toNat ⟨g (S.R path.toNat en.toNat).T, (S.R path.toNat en.toNat).L.eraseIdx i.toNat⟩ else S
def dlB (S : St) (en path i : Int) : List Int := if trE S en path i = 0 then (pkAt S en path i).bs else []
/-- Twice -/
def twI (S : St) (en path i : Int) : Int := if trE S en path i = 0 then S.next else 0
def twS (S : St) (en path i : Int) : St := if trE S en path i = 0 then putS (cnt S path.toNat en.toNat false) path.toNat en.toNat (pkAt S en path i) else S
/-- Spoil -/
def spE (S : St) (en path i at_ : Int) : Int := if trE S en path i = 0 then (if 0 ≤ at_ ∧ at_ < ((pkAt S en path i).bs.length : Int) then 0 else 92) else trE S en path i
def flip (bs : List Int) (at_ : Nat) (bits : Int) : List Int := bs.set at_ (Go.bits .xor .u8 (bs.getD at_ 0) bits)
def spS (S : St) (en path i at_ bits : Int) : St := if spE S en path i at_ = 0 then S.row path.toNat en.toNat ⟨(S.R path.toNat en.toNat).T, (S.R path.toNat en.toNat).L.set i.toNat { pkAt S en path i with bs := flip (pkAt S en path i).bs at_.toNat bits }⟩ else S
/-- Down, Up -/
def pE (S : St) (path : Int) : Int := if okP S path then 0 else 90
def loseR (r : Rw) : Rw := ⟨{ r.T with l := r.T.l + r.L.length }, []⟩
def loseS (S : St) (i e : Nat) : St := S.row i e (loseR (S.R i e))
def offS (S : St) (i : Nat) (b : Bool) : St := ⟨S.p, S.next, S.R, up1 S.off i b⟩
def dnS (S : St) (path : Int) : St := if okP S path then offS (loseS (loseS S path.toNat 0) path.toNat 1) path.toNat true else S
def upS (S : St) (path : Int) : St := if okP S path then offS S path.toNat false else S

/-- bytes -/
def Bytes (zs : List Int) : Prop := ∀ z ∈ zs, 0 ≤ z ∧ z < 256
theorem xor_byte {a b : Int} (ha : 0 ≤ a ∧ a < 256) (hb : 0 ≤ b ∧ b < 256) : 0 ≤ Go.bits .xor .u8 a b ∧ Go.bits .xor .u8 a b < 256 := by
  rw [u8_xor a b ha.1 ha.2 hb.1 hb.2]
  have h := Nat.xor_lt_two_pow (n := 8) (x := a.toNat) (y := b.toNat) (by omega) (by omega)
  omega
theorem Bytes.flip {zs : List Int} (h : Bytes zs) (k : Nat) {b : Int} (hb : 0 ≤ b ∧ b < 256) : Bytes (flip zs k b) := by
  intro z hz
  unfold Nt.flip at hz
  rcases List.mem_or_eq_of_mem_set hz with h0 | rfl
  · exact h z h0
  · refine xor_byte ?_ hb
    rw [List.getD_eq_getElem?_getD]
    cases hq : zs[k]? with
    | none => exact ⟨by decide, by decide⟩
    | some x => exact h x (List.mem_of_getElem? hq)
theorem flip_len (zs : List Int) (k : Nat) (b : Int) : (flip zs k b).length = zs.length := by unfold flip; rw [List.length_set]

/-- what a packet may be -/
def Pok (q : Pk) : Prop := Bytes q.bs ∧ q.bs.length ≤ 65536
/-- what stays true of a row -/
structure Rok (n : Int) (r : Rw) : Prop where
  s : 0 ≤ r.T.s
  d : 0 ≤ r.T.d
  l : 0 ≤ r.T.l
  f : 0 ≤ r.T.f
  sum : r.T.s + r.T.f = r.T.d + r.T.l + r.L.length
  few : r.T.s + r.T.f ≤ n
  ok : ∀ q ∈ r.L, Pok q
structure Inv (S : St) : Prop where
  p : S.p ≤ 8
  rows : ∀ i e, Rok S.next (S.R i e)
  off : ∀ i e, e < 2 → S.off i = true → (S.R i e).L = []
theorem Inv.next {S : St} (h : Inv S) : 0 ≤ S.next := by have := h.rows 0 0; have := this.s; have := (h.rows 0 0).f; have := (h.rows 0 0).few; omega
theorem inv_fresh {p : Nat} (h : p ≤ 8) : Inv (fresh p) := ⟨h, fun i e => ⟨by simp [fresh], by simp [fresh], by simp [fresh], by simp [fresh], by simp [fresh], by simp [fresh], by simp [fresh]⟩, fun i e _ h => rfl⟩
theorem Rok.len {n : Int} {r : Rw} (h : Rok n r) : (r.L.length : Int) ≤ n := by
  have := h.d; have := h.l; have := h.sum; have := h.few; omega
theorem Rok.mono {n m : Int} {r : Rw} (h : Rok n r) (hm : n ≤ m) : Rok m r := ⟨h.s, h.d, h.l, h.f, h.sum, by have := h.few; omega, h.ok⟩
/-- a row's turn -/
theorem Inv.turn {S : St} (h : Inv S) {i e : Nat} {r : Rw} {n : Int} (hn : S.next ≤ n) (hr : Rok n r) (ho : S.off i = true → r.L = []) : Inv ⟨S.p, n, up2 S.R i e r, S.off⟩ := by
  refine ⟨h.p, fun i' e' => ?_, fun i' e' h2 hh => ?_⟩
  · show Rok n (up2 S.R i e r i' e')
    unfold up2
    split
    · exact hr
    · exact (h.rows i' e').mono hn
  · show (up2 S.R i e r i' e').L = []
    unfold up2
    split
    · next hq => exact ho (hq.1 ▸ hh)
    · exact h.off i' e' h2 hh
theorem Inv.put {S : St} (h : Inv S) {i e : Nat} (he : e < 2) {pk : Pk} (f : Bool) (hk : Pok pk) : Inv (putS (cnt S i e f) i e pk) := by
  unfold putS cnt St.row
  simp only [up2_same, up2_up2]
  have hr := h.rows i e
  have := hr.s; have := hr.d; have := hr.l; have := hr.f; have := hr.sum; have := hr.few
  refine h.turn (by omega) ?_ ?_
  · unfold putR
    cases ho : S.off i with
    | true =>
      refine ⟨?_, ?_, ?_, ?_, ?_, ?_, hr.ok⟩ <;> cases f <;> simp [bump] <;> omega
    | false =>
      refine ⟨?_, ?_, ?_, ?_, ?_, ?_, fun q hq => ?_⟩
      · cases f <;> simp [bump] <;> omega
      · cases f <;> simp [bump] <;> omega
      · cases f <;> simp [bump] <;> omega
      · cases f <;> simp [bump] <;> omega
      · cases f <;> simp [bump] <;> omega
      · cases f <;> simp [bump] <;> omega
      · rcases List.mem_append.1 hq with hq | hq
        · exact hr.ok q hq
        · simp at hq
          rw [hq]
          exact hk
  · intro ho
    unfold putR
    rw [ho]
    exact h.off i e he ho
theorem laE_zero {S : St} {en path now : Int} {n : Nat} (h : laE S en path now n = 0) : ok S en path = true ∧ (0 ≤ now ∧ now ≤ 1099511627776) ∧ n ≤ 65536 := by
  unfold laE at h
  split at h
  · split at h
    · split at h
      · exact ⟨by assumption, by assumption, by assumption⟩
      · omega
    · omega
  · omega
theorem Inv.la {S : St} (h : Inv S) (en path now : Int) {bs : List Int} (f : Bool) (hb : Bytes bs) : Inv (laS S en path now bs f) := by
  unfold laS
  split
  · next h0 =>
    have hen := (laE_zero h0).1
    refine h.put (by have := (ok_iff.1 hen).1; omega) f ⟨hb, ?_⟩
    exact (laE_zero h0).2.2
  · exact h
theorem laS_next {S : St} (en path now : Int) {bs : List Int} (f : Bool) : S.next ≤ (laS S en path now bs f).next ∧ (laS S en path now bs f).next ≤ S.next + 1 := by
  unfold laS
  split
  · simp [putS, cnt, St.row]; omega
  · omega
theorem trE_iff {S : St} {en path i : Int} : trE S en path i = 0 ↔ ok S en path = true ∧ 0 ≤ i ∧ i < ((S.R path.toNat en.toNat).L.length : Int) := by
  unfold trE
  split
  · next h => simp [h]
  · next h => simp [h]
theorem pkAt_mem {S : St} {en path i : Int} (h : trE S en path i = 0) : pkAt S en path i ∈ (S.R path.toNat en.toNat).L := by
  obtain ⟨_, h1, h2⟩ := trE_iff.1 h
  unfold pkAt
  rw [List.getD_eq_getElem?_getD, List.getElem?_eq_getElem (by omega)]
  exact List.getElem_mem _
theorem Inv.take {S : St} (h : Inv S) (en path i : Int) {g : Tr → Tr} (hg : g = dlT ∨ g = drT) : Inv (takeS S en path i g) := by
  unfold takeS
  split
  · next h0 =>
    obtain ⟨h3, h1, h2⟩ := trE_iff.1 h0
    have hr := h.rows path.toNat en.toNat
    have := hr.s; have := hr.d; have := hr.l; have := hr.f; have := hr.sum; have := hr.few
    have hl : ((S.R path.toNat en.toNat).L.eraseIdx i.toNat).length + 1 = (S.R path.toNat en.toNat).L.length := by rw [List.length_eraseIdx, if_pos (by omega)]; omega
    refine h.turn (Int.le_refl _) ?_ (fun ho => by rw [h.off _ _ (by have := (ok_iff.1 h3).1; omega) ho] at h2; simp at h2; omega)
    refine ⟨?_, ?_, ?_, ?_, ?_, ?_, fun q hq => hr.ok q (List.mem_of_mem_eraseIdx hq)⟩ <;> rcases hg with rfl | rfl <;> simp [dlT, drT] <;> omega
  · exact h
theorem takeS_next {S : St} (en path i : Int) (g : Tr → Tr) : (takeS S en path i g).next = S.next := by unfold takeS; split <;> rfl
theorem Inv.tw {S : St} (h : Inv S) (en path i : Int) : Inv (twS S en path i) := by
  unfold twS
  split
  · next h0 => exact h.put (by have := (ok_iff.1 (trE_iff.1 h0).1).1; omega) false ((h.rows _ _).ok _ (pkAt_mem h0))
  · exact h
theorem twS_next {S : St} (en path i : Int) : S.next ≤ (twS S en path i).next ∧ (twS S en path i).next ≤ S.next + 1 := by
  unfold twS
  split
  · simp [putS, cnt, St.row]; omega
  · omega
theorem Inv.sp {S : St} (h : Inv S) (en path i at_ : Int) {bits : Int} (hb : 0 ≤ bits ∧ bits < 256) : Inv (spS S en path i at_ bits) := by
  unfold spS
  split
  · next h0 =>
    have h1 : trE S en path i = 0 := by
      unfold spE at h0
      split at h0
      · assumption
      · exact h0
    obtain ⟨h4, h2, h3⟩ := trE_iff.1 h1
    have hr := h.rows path.toNat en.toNat
    have hk := hr.ok _ (pkAt_mem h1)
    refine h.turn (Int.le_refl _) ⟨hr.s, hr.d, hr.l, hr.f, by simp; exact hr.sum, hr.few, fun q hq => ?_⟩ (fun ho => by rw [h.off _ _ (by have := (ok_iff.1 h4).1; omega) ho] at h3; simp at h3; omega)
    rcases List.mem_or_eq_of_mem_set hq with h4 | rfl
    · exact hr.ok q h4
    · exact ⟨hk.1.flip _ hb, by rw [flip_len]; exact hk.2⟩
  · exact h
theorem spS_next {S : St} (en path i at_ bits : Int) : (spS S en path i at_ bits).next = S.next := by unfold spS; split <;> rfl
theorem rok_lose {n : Int} {r : Rw} (h : Rok n r) : Rok n (loseR r) := by
  have := h.s; have := h.d; have := h.l; have := h.f; have := h.sum; have := h.few
  exact ⟨h.s, h.d, by simp [loseR]; omega, h.f, by simp [loseR]; omega, h.few, by simp [loseR]⟩
theorem Inv.lose {S : St} (h : Inv S) (i e : Nat) : Inv (loseS S i e) := h.turn (Int.le_refl _) (rok_lose (h.rows i e)) (fun _ => rfl)
theorem Inv.dn {S : St} (h : Inv S) (path : Int) : Inv (dnS S path) := by
  unfold dnS
  split
  · next h0 =>
    have h2 := (h.lose path.toNat 0).lose path.toNat 1
    refine ⟨h2.p, h2.rows, fun i e h3 ho => ?_⟩
    show ((loseS (loseS S path.toNat 0) path.toNat 1).R i e).L = []
    by_cases hi : i = path.toNat
    · subst hi
      rcases (show e = 0 ∨ e = 1 by omega) with rfl | rfl
      · unfold loseS St.row
        simp [up2, loseR]
      · unfold loseS St.row
        simp [up2, loseR]
    · have ho' : S.off i = true := by
        have : up1 S.off path.toNat true i = true := ho
        rw [up1_ne _ _ hi] at this
        exact this
      have : (loseS (loseS S path.toNat 0) path.toNat 1).R i e = S.R i e := by
        unfold loseS St.row
        simp [up2, hi]
      rw [this]
      exact h.off i e h3 ho'
  · exact h
theorem dnS_next {S : St} (path : Int) : (dnS S path).next = S.next := by unfold dnS; split <;> rfl
theorem Inv.up {S : St} (h : Inv S) (path : Int) : Inv (upS S path) := by
  unfold upS
  split
  · refine ⟨h.p, h.rows, fun i e h2 ho => h.off i e h2 ?_⟩
    have : up1 S.off path.toNat false i = true := ho
    unfold up1 at this
    split at this
    · cases this
    · exact this
  · exact h
theorem upS_next {S : St} (path : Int) : (upS S path).next = S.next := by unfold upS; split <;> rfl
end Go.Proofs.Ytmogacccffkkbaa.Nt
