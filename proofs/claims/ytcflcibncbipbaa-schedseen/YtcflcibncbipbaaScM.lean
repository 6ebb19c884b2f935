/-
  Views of paths as values: which may be, the class, the paths that are fit, what speaks against each, their order; the two ways of sorting come to the same list.
  Conditions: as at each lemma.
-/
import Derived.Sort.LotA
namespace Go.Proofs.Ytcflcibncbipbaa.Sc
open Go.Sort
set_option linter.unusedVariables false

/-- a path's view: state, space, trip, share -/
abbrev Vw := Int × Int × Int × Bool
def okv (v : Vw) : Prop := (1 ≤ v.1 ∧ v.1 ≤ 3) ∧ (0 ≤ v.2.1 ∧ v.2.1 ≤ 1073741824) ∧ (0 ≤ v.2.2.1 ∧ v.2.2.1 ≤ 1048576)
def okB (v : Vw) : Bool := decide ((1 ≤ v.1 ∧ v.1 ≤ 3) ∧ (0 ≤ v.2.1 ∧ v.2.1 ≤ 1073741824) ∧ (0 ≤ v.2.2.1 ∧ v.2.2.1 ≤ 1048576))
theorem okB_t {v : Vw} (h : okv v) : okB v = true := decide_eq_true h
theorem okB_f {v : Vw} (h : ¬ okv v) : okB v = false := decide_eq_false h
theorem okB_iff (v : Vw) : okB v = true ↔ okv v := by unfold okB okv; exact decide_eq_true_iff
def chk (vs : List Vw) : Int := bif decide (1 ≤ vs.length ∧ vs.length ≤ 8) then (bif vs.all okB then 0 else 1) else 3
theorem chk_many {vs : List Vw} (h : ¬ (1 ≤ vs.length ∧ vs.length ≤ 8)) : chk vs = 3 := by unfold chk; rw [decide_eq_false h]; rfl
theorem chk_ok {vs : List Vw} (h : 1 ≤ vs.length ∧ vs.length ≤ 8) (ha : vs.all okB = true) : chk vs = 0 := by unfold chk; rw [decide_eq_true h, ha]; rfl
theorem chk_arg {vs : List Vw} (h : 1 ≤ vs.length ∧ vs.length ≤ 8) (ha : vs.all okB = false) : chk vs = 1 := by unfold chk; rw [decide_eq_true h, ha]; rfl
theorem chk_0 {vs : List Vw} (h : chk vs = 0) : (1 ≤ vs.length ∧ vs.length ≤ 8) ∧ ∀ v ∈ vs, okv v := by
  by_cases hl : 1 ≤ vs.length ∧ vs.length ≤ 8
  · cases ha : vs.all okB with
    | true => exact ⟨hl, fun v hv => (okB_iff v).1 (List.all_eq_true.1 ha v hv)⟩
    | false => rw [chk_arg hl ha] at h; cases h
  · rw [chk_many hl] at h; cases h
theorem chk_in (vs : List Vw) : chk vs = 0 ∨ chk vs = 1 ∨ chk vs = 3 := by
  unfold chk
  cases decide (1 ≤ vs.length ∧ vs.length ≤ 8) <;> cases vs.all okB <;> simp
/-- a view's parts, by the path's number -/
def d0 : Vw := (0, 0, 0, false)
def stt (vs : List Vw) (k : Nat) : Int := (vs.getD k d0).1
def spc (vs : List Vw) (k : Nat) : Int := (vs.getD k d0).2.1
def trp (vs : List Vw) (k : Nat) : Int := (vs.getD k d0).2.2.1
def shr (vs : List Vw) (k : Nat) : Bool := (vs.getD k d0).2.2.2
theorem parts {vs : List Vw} {k : Nat} {v : Vw} (h : vs[k]? = some v) : stt vs k = v.1 ∧ spc vs k = v.2.1 ∧ trp vs k = v.2.2.1 ∧ shr vs k = v.2.2.2 := by
  unfold stt spc trp shr
  rw [List.getD_eq_getElem?_getD, h]
  exact ⟨rfl, rfl, rfl, rfl⟩
theorem ok_at {vs : List Vw} (h : ∀ v ∈ vs, okv v) {k : Nat} (hk : k < vs.length) : (1 ≤ stt vs k ∧ stt vs k ≤ 3) ∧ (0 ≤ spc vs k ∧ spc vs k ≤ 1073741824) ∧ (0 ≤ trp vs k ∧ trp vs k ≤ 1048576) := by
  have hz : vs[k]? = some vs[k] := List.getElem?_eq_getElem hk
  obtain ⟨e1, e2, e3, _⟩ := parts hz
  have := h _ (List.mem_of_getElem? hz)
  rw [e1, e2, e3]
  exact this
/-- numbers of which something holds, going up -/
def upto (p : Nat → Bool) : Nat → List Int
  | 0 => []
  | k + 1 => upto p k ++ (bif p k then [(k : Int)] else [])
theorem upto_t {p : Nat → Bool} {k : Nat} (h : p k = true) : upto p (k + 1) = upto p k ++ [(k : Int)] := by simp [upto, h]
theorem upto_f {p : Nat → Bool} {k : Nat} (h : p k = false) : upto p (k + 1) = upto p k := by simp [upto, h]
theorem mem_upto {p : Nat → Bool} {x : Int} : ∀ {n : Nat}, x ∈ upto p n ↔ ∃ k : Nat, k < n ∧ x = k ∧ p k = true
  | 0 => by simp [upto]
  | n + 1 => by
    cases hp : p n with
    | true =>
      rw [upto_t hp, List.mem_append, mem_upto]
      constructor
      · rintro (⟨k, h1, h2, h3⟩ | h)
        · exact ⟨k, by omega, h2, h3⟩
        · exact ⟨n, by omega, by simpa using h, hp⟩
      · rintro ⟨k, h1, h2, h3⟩
        by_cases e : k = n
        · subst e
          exact .inr (by simp [h2])
        · exact .inl ⟨k, by omega, h2, h3⟩
    | false =>
      rw [upto_f hp, mem_upto]
      constructor
      · rintro ⟨k, h1, h2, h3⟩
        exact ⟨k, by omega, h2, h3⟩
      · rintro ⟨k, h1, h2, h3⟩
        by_cases e : k = n
        · subst e
          rw [hp] at h3
          cases h3
        · exact ⟨k, by omega, h2, h3⟩
theorem upto_in {p : Nat → Bool} {n : Nat} {x : Int} (h : x ∈ upto p n) : 0 ≤ x ∧ x < n := by
  obtain ⟨k, h1, rfl, _⟩ := mem_upto.1 h
  omega
theorem upto_rise (p : Nat → Bool) : ∀ n, (upto p n).Pairwise (· < ·)
  | 0 => by simp [upto]
  | n + 1 => by
    cases hp : p n with
    | true =>
      rw [upto_t hp, List.pairwise_append]
      refine ⟨upto_rise p n, by simp, fun x hx y hy => ?_⟩
      have := upto_in hx
      simp at hy
      omega
    | false =>
      rw [upto_f hp]
      exact upto_rise p n
theorem upto_len (p : Nat → Bool) : ∀ n, (upto p n).length ≤ n
  | 0 => by simp [upto]
  | n + 1 => by
    have := upto_len p n
    cases hp : p n with
    | true => rw [upto_t hp]; simp; omega
    | false => rw [upto_f hp]; omega
theorem upto_congr {p q : Nat → Bool} : ∀ {n : Nat}, (∀ k, k < n → p k = q k) → upto p n = upto q n
  | 0, _ => rfl
  | n + 1, h => by
    unfold upto
    rw [upto_congr fun k hk => h k (by omega), h n (by omega)]
theorem upto_filter (p q : Nat → Bool) : ∀ n, (upto p n).filter (fun x => q x.toNat) = upto (fun k => p k && q k) n
  | 0 => rfl
  | n + 1 => by
    unfold upto
    rw [List.filter_append, upto_filter p q n]
    congr 1
    cases hp : p n <;> cases hq : q n <;> simp [hq]
theorem upto_nil {p : Nat → Bool} {n : Nat} : upto p n = [] ↔ ∀ k, k < n → p k = false := by
  constructor
  · intro h k hk
    cases hp : p k with
    | false => rfl
    | true =>
      have : (k : Int) ∈ upto p n := mem_upto.2 ⟨k, hk, rfl, hp⟩
      rw [h] at this
      cases this
  · intro h
    cases e : upto p n with
    | nil => rfl
    | cons x l =>
      have : x ∈ upto p n := by rw [e]; exact .head _
      obtain ⟨k, h1, _, h3⟩ := mem_upto.1 this
      rw [h k h1] at h3
      cases h3

/-- the paths in question of one state -/
def of (s : Int) (q : Nat → Bool) (vs : List Vw) : List Int := upto (fun k => decide (stt vs k = s) && q k) vs.length
def stp (s : Int) (q : Nat → Bool) (vs : List Vw) (l : List Int) : List Int := bif (of s q vs).isEmpty then l else of s q vs
theorem stp_nil {s : Int} {q : Nat → Bool} {vs : List Vw} {l : List Int} (h : of s q vs = []) : stp s q vs l = l := by unfold stp; rw [h]; rfl
theorem stp_some {s : Int} {q : Nat → Bool} {vs : List Vw} {l : List Int} (h : of s q vs ≠ []) : stp s q vs l = of s q vs := by
  unfold stp
  cases e : of s q vs with
  | nil => exact absurd e h
  | cons x r => rfl
def cl1 (q : Nat → Bool) (vs : List Vw) (l : List Int) : List Int := stp 1 q vs l
def cl2 (q : Nat → Bool) (vs : List Vw) (l : List Int) : List Int := cl1 q vs (stp 2 q vs l)
def cl3 (q : Nat → Bool) (vs : List Vw) (l : List Int) : List Int := cl2 q vs (stp 3 q vs l)
def cls (w : Int) (q : Nat → Bool) (vs : List Vw) : List Int := if w = 3 then cl3 q vs [] else if w = 2 then cl2 q vs [] else if w = 1 then cl1 q vs [] else []
theorem of_wf {s : Int} {q : Nat → Bool} {vs : List Vw} : (of s q vs).Pairwise (· < ·) ∧ (∀ x ∈ of s q vs, 0 ≤ x ∧ x < vs.length) ∧ (of s q vs).length ≤ vs.length := ⟨upto_rise _ _, fun x h => upto_in h, upto_len _ _⟩
theorem stp_wf {s : Int} {q : Nat → Bool} {vs : List Vw} {l : List Int} (h : l.Pairwise (· < ·) ∧ (∀ x ∈ l, 0 ≤ x ∧ x < vs.length) ∧ l.length ≤ vs.length) : (stp s q vs l).Pairwise (· < ·) ∧ (∀ x ∈ stp s q vs l, 0 ≤ x ∧ x < vs.length) ∧ (stp s q vs l).length ≤ vs.length := by
  by_cases e : of s q vs = []
  · rw [stp_nil e]; exact h
  · rw [stp_some e]; exact of_wf
theorem cls_wf {w : Int} {q : Nat → Bool} {vs : List Vw} : (cls w q vs).Pairwise (· < ·) ∧ (∀ x ∈ cls w q vs, 0 ≤ x ∧ x < vs.length) ∧ (cls w q vs).length ≤ vs.length := by
  have h0 : ([] : List Int).Pairwise (· < ·) ∧ (∀ x ∈ ([] : List Int), 0 ≤ x ∧ x < vs.length) ∧ ([] : List Int).length ≤ vs.length := ⟨by simp, by simp, by simp⟩
  unfold cls
  split
  · exact stp_wf (stp_wf (stp_wf h0))
  · split
    · exact stp_wf (stp_wf h0)
    · split
      · exact stp_wf h0
      · exact h0
/-- fit -/
def fitq (vs : List Vw) (k : Nat) : Bool := !(decide (spc vs k = 0) || !shr vs k)
def all (k : Nat) : Bool := true
def fit (vs : List Vw) : List Int := (cls 3 all vs).filter fun x => fitq vs x.toNat
/-- what speaks against a path -/
def fst (last : Int) (n : Nat) : Int := if 0 ≤ last ∧ last ≤ (n : Int) - 1 then last + 1 else 0
def cst (kind last : Int) (vs : List Vw) (k : Nat) : Int := if kind = 1 then trp vs k else if kind = 2 then - spc vs k else ((k : Int) - fst last vs.length + vs.length) % vs.length
/-- by costs, then by numbers -/
def lx (co : Nat → Int) (a b : Int) : Bool := decide (co a.toNat < co b.toNat ∨ co a.toNat = co b.toNat ∧ a < b)
/-- one put among those that are in order -/
def ins {α : Type} (lt : α → α → Bool) (x : α) (out : List α) : List α := out.takeWhile (fun y => lt y x) ++ x :: out.dropWhile (fun y => lt y x)
def srt {α : Type} (lt : α → α → Bool) (l : List α) : List α := l.foldl (fun out x => ins lt x out) []
theorem ins_nil {α : Type} (lt : α → α → Bool) (x : α) : ins lt x [] = [x] := rfl
theorem ins_t {α : Type} {lt : α → α → Bool} {x y : α} {ys : List α} (h : lt y x = true) : ins lt x (y :: ys) = y :: ins lt x ys := by simp [ins, h]
theorem ins_f {α : Type} {lt : α → α → Bool} {x y : α} {ys : List α} (h : lt y x = false) : ins lt x (y :: ys) = x :: y :: ys := by simp [ins, h]
theorem srt_more {α : Type} (lt : α → α → Bool) (l : List α) (x : α) : srt lt (l ++ [x]) = ins lt x (srt lt l) := by simp [srt]
theorem ins_perm {α : Type} (lt : α → α → Bool) (x : α) : ∀ out : List α, (ins lt x out).Perm (x :: out)
  | [] => by rw [ins_nil]
  | y :: ys => by
    cases h : lt y x with
    | true =>
      rw [ins_t h]
      exact ((ins_perm lt x ys).cons y).trans (List.Perm.swap ..)
    | false => rw [ins_f h]
theorem foldl_perm {α : Type} (lt : α → α → Bool) : ∀ (l out : List α), (l.foldl (fun out x => ins lt x out) out).Perm (l ++ out)
  | [], out => by simp
  | x :: l, out => by
    rw [List.foldl_cons]
    refine (foldl_perm lt l _).trans ?_
    refine ((ins_perm lt x out).append_left l).trans ?_
    exact List.perm_middle
theorem srt_perm {α : Type} (lt : α → α → Bool) (l : List α) : (srt lt l).Perm l := by
  have := foldl_perm lt l []
  rwa [List.append_nil] at this
theorem ins_rise {α : Type} {lt : α → α → Bool} (ht : ∀ x y z, lt x y = true → lt y z = true → lt x z = true) {x : α} : ∀ {out : List α}, out.Pairwise (fun a b => lt a b = true) → (∀ y ∈ out, lt y x = true ∨ lt x y = true) → (ins lt x out).Pairwise (fun a b => lt a b = true)
  | [], _, _ => by rw [ins_nil]; simp
  | y :: ys, hp, hx => by
    rw [List.pairwise_cons] at hp
    cases h : lt y x with
    | true =>
      rw [ins_t h, List.pairwise_cons]
      refine ⟨fun z hz => ?_, ins_rise ht hp.2 fun z hz => hx z (.tail _ hz)⟩
      rcases List.mem_cons.1 ((ins_perm lt x ys).mem_iff.1 hz) with rfl | hz
      · exact h
      · exact hp.1 z hz
    | false =>
      rw [ins_f h, List.pairwise_cons, List.pairwise_cons]
      have hxy : lt x y = true := by
        rcases hx y (.head _) with h' | h'
        · rw [h] at h'; cases h'
        · exact h'
      refine ⟨fun z hz => ?_, hp⟩
      rcases List.mem_cons.1 hz with rfl | hz
      · exact hxy
      · exact ht x y z hxy (hp.1 z hz)
theorem foldl_rise {α : Type} {lt : α → α → Bool} (ht : ∀ x y z, lt x y = true → lt y z = true → lt x z = true) : ∀ (l out : List α), out.Pairwise (fun a b => lt a b = true) → (∀ x ∈ l, ∀ y ∈ out, lt y x = true ∨ lt x y = true) → l.Pairwise (fun x y => lt x y = true ∨ lt y x = true) → (l.foldl (fun out x => ins lt x out) out).Pairwise (fun a b => lt a b = true)
  | [], out, h, _, _ => h
  | x :: l, out, h, h1, h2 => by
    rw [List.foldl_cons]
    rw [List.pairwise_cons] at h2
    refine foldl_rise ht l _ (ins_rise ht h (h1 x (.head _))) (fun z hz y hy => ?_) h2.2
    rcases List.mem_cons.1 ((ins_perm lt x out).mem_iff.1 hy) with rfl | hy
    · exact h2.1 z hz
    · exact h1 z (.tail _ hz) y hy
theorem srt_rise {α : Type} {lt : α → α → Bool} (ht : ∀ x y z, lt x y = true → lt y z = true → lt x z = true) {l : List α} (h : l.Pairwise (fun x y => lt x y = true ∨ lt y x = true)) : (srt lt l).Pairwise (fun a b => lt a b = true) := foldl_rise ht l [] (by simp) (by simp) h
theorem ins_map {α β : Type} {lt : α → α → Bool} {lt' : β → β → Bool} {f : α → β} (h : ∀ x y, lt x y = lt' (f x) (f y)) (x : α) : ∀ out : List α, (ins lt x out).map f = ins lt' (f x) (out.map f)
  | [] => rfl
  | y :: ys => by
    cases e : lt y x with
    | true => rw [ins_t e, List.map_cons, List.map_cons, ins_map h x ys, ins_t (by rw [← h]; exact e)]
    | false =>
      have e' : lt' (f y) (f x) = false := by rw [← h]; exact e
      rw [ins_f e, List.map_cons, List.map_cons, ins_f e']
theorem srt_map {α β : Type} {lt : α → α → Bool} {lt' : β → β → Bool} {f : α → β} (h : ∀ x y, lt x y = lt' (f x) (f y)) : ∀ (l out : List α), (l.foldl (fun out x => ins lt x out) out).map f = (l.map f).foldl (fun out x => ins lt' x out) (out.map f)
  | [], out => rfl
  | x :: l, out => by
    rw [List.foldl_cons, srt_map h l, ins_map h, List.map_cons, List.foldl_cons]
theorem lx_trans (co : Nat → Int) (x y z : Int) (h1 : lx co x y = true) (h2 : lx co y z = true) : lx co x z = true := by
  simp only [lx, decide_eq_true_eq] at *
  omega
theorem lx_total (co : Nat → Int) {x y : Int} (h : x ≠ y) : lx co x y = true ∨ lx co y x = true := by
  simp only [lx, decide_eq_true_eq]
  omega
theorem lx_asym (co : Nat → Int) {x y : Int} (h1 : lx co x y = true) (h2 : lx co y x = true) : False := by
  simp only [lx, decide_eq_true_eq] at *
  omega
theorem lx_rise (co : Nat → Int) {l : List Int} (h : l.Pairwise (· < ·)) : (srt (lx co) l).Pairwise (fun a b => lx co a b = true) :=
  srt_rise (lx_trans co) (h.imp fun {a b} hab => lx_total co (by omega))
theorem lx_congr {co co' : Nat → Int} {a b : Int} (ha : co a.toNat = co' a.toNat) (hb : co b.toNat = co' b.toNat) : lx co a b = lx co' a b := by unfold lx; rw [ha, hb]
/-- the best one -/
theorem srt_head (co : Nat → Int) {l : List Int} (hl : l.Pairwise (· < ·)) {x : Int} : (srt (lx co) l).head? = some x ↔ x ∈ l ∧ ∀ y ∈ l, y ≠ x → lx co x y = true := by
  have hr := lx_rise co hl
  have hp := srt_perm (lx co) l
  cases e : srt (lx co) l with
  | nil =>
    rw [e] at hp
    have : l = [] := hp.symm.eq_nil
    subst this
    simp
  | cons z r =>
    rw [e] at hp hr
    rw [List.pairwise_cons] at hr
    simp only [List.head?_cons, Option.some.injEq]
    constructor
    · rintro rfl
      refine ⟨hp.mem_iff.1 (.head _), fun y hy hne => ?_⟩
      rcases List.mem_cons.1 (hp.mem_iff.2 hy) with rfl | h
      · exact absurd rfl hne
      · exact hr.1 y h
    · rintro ⟨h1, h2⟩
      rcases List.mem_cons.1 (hp.mem_iff.2 h1) with rfl | h
      · rfl
      · by_cases hz : z = x
        · exact hz
        · exact (lx_asym co (hr.1 x h) (h2 z (hp.mem_iff.1 (.head _)) hz)).elim
theorem srt_empty (co : Nat → Int) (l : List Int) : srt (lx co) l = [] ↔ l = [] := by
  have hp := srt_perm (lx co) l
  constructor
  · intro h
    rw [h] at hp
    exact hp.symm.eq_nil
  · rintro rfl
    rfl

/-! the library's way of sorting -/
section
variable {α : Type} (ix c : α → Int)
def lt0 (x y : α) : Bool := decide (c x < c y)
def lt1 (x y : α) : Bool := decide (c x < c y ∨ c x = c y ∧ ix x < ix y)
theorem swo1 : SWO (lt1 ix c) := by
  refine ⟨fun x => ?_, fun x y z h1 h2 => ?_, fun x y z h1 h2 => ?_⟩
  · simp only [lt1, decide_eq_false_iff_not]; omega
  · simp only [lt1, decide_eq_true_eq] at *; omega
  · simp only [lt1, decide_eq_false_iff_not] at *; omega
end
section
variable {α : Type} [Inhabited α]
theorem insPerm (lt : α → α → Bool) (a : Nat) : ∀ (j : Nat) (d : Array α), j < d.size → PermIn 0 (j + 1) d (insInner lt a j d)
  | 0, d, _ => by unfold insInner; exact permIn_refl _ _ _
  | j + 1, d, hj => by
    unfold insInner
    split
    · have h1 : PermIn 0 (j + 1 + 1) d (swp d (j + 1) j) := swp_permIn d 0 (j + 1 + 1) (j + 1) j (by omega) (by omega) (by omega) (by omega) (by omega)
      have h2 := insPerm lt a j (swp d (j + 1) j) (by rw [swp_size]; omega)
      exact permIn_trans _ _ _ _ _ h1 (permIn_mono _ _ _ _ _ _ (by omega) (by omega) (by rw [swp_size]; omega) h2)
    · exact permIn_refl _ _ _
variable (ix c : α → Int)
theorem ins0 (a : Nat) : ∀ (j : Nat) (d : Array α), j < d.size → (∀ k, k < j → ix d[k]! < ix d[j]!) → insInner (lt0 c) a j d = insInner (lt1 ix c) a j d
  | 0, d, _, _ => by unfold insInner; rfl
  | j + 1, d, hj, h => by
    have h1 := h j (by omega)
    have e : lt0 c d[j + 1]! d[j]! = lt1 ix c d[j + 1]! d[j]! := by
      unfold lt0 lt1
      congr 1
      apply propext
      omega
    unfold insInner
    rw [e]
    split
    · refine ins0 a j _ (by rw [swp_size]; omega) fun k hk => ?_
      rw [swp_get d hj (by omega), swp_get d hj (by omega)]
      rw [if_neg (by omega), if_neg (by omega), if_pos rfl]
      exact h k (by omega)
    · rfl
theorem ins1 (a b : Nat) : ∀ (n i : Nat) (d : Array α), b - i = n → b ≤ d.size → (∀ k l, k < l → i ≤ l → l < b → ix d[k]! < ix d[l]!) → insOuter (lt0 c) a b i d = insOuter (lt1 ix c) a b i d
  | 0, i, d, hn, _, _ => by rw [insOuter, if_neg (by omega), insOuter, if_neg (by omega)]
  | n + 1, i, d, hn, hb, h => by
    have hi : i < b := by omega
    rw [insOuter, if_pos hi, insOuter.eq_1 (lt := lt1 ix c), if_pos hi]
    rw [ins0 ix c a i d (by omega) fun k hk => h k i hk (Nat.le_refl _) hi]
    have hp := insPerm (lt1 ix c) a i d (by omega)
    refine ins1 a b n (i + 1) _ (by omega) (by rw [hp.1]; exact hb) fun k l hkl hil hlb => ?_
    rw [hp.2.1 l (.inr (by omega))]
    by_cases hk : i + 1 ≤ k
    · rw [hp.2.1 k (.inr hk)]
      exact h k l hkl (by omega) hlb
    · exact permIn_all d _ 0 (i + 1) (fun x => ix x < ix d[l]!) (by omega) hp (fun q _ hq => h q l (by omega) (by omega) hlb) k (by omega) (by omega)
theorem get_list (d : Array α) {i : Nat} (h : i < d.size) : d[i]! = d.toList[i]'(by simpa using h) := by
  rw [getElem!_pos d i h, Array.getElem_toList]
theorem sorted1 (hix : ∀ x y, ix x = ix y → x = y) (d : Array α) (h : d.toList.Pairwise (fun x y => ix x < ix y)) : (insertionSort (lt0 c) d 0 d.size).toList = srt (lt1 ix c) d.toList := by
  have e : insertionSort (lt0 c) d 0 d.size = insertionSort (lt1 ix c) d 0 d.size := by
    unfold insertionSort
    refine ins1 ix c 0 d.size _ _ d rfl (Nat.le_refl _) fun k l hkl _ hl => ?_
    rw [get_list d (by omega), get_list d hl]
    exact List.pairwise_iff_getElem.1 h k l _ _ hkl
  rw [e]
  obtain ⟨hp, hs⟩ := insertionSort_holds (swo1 ix c) d 0 d.size (Nat.zero_le _) (Nat.le_refl _)
  have hp2 : (insertionSort (lt1 ix c) d 0 d.size).toList.Perm d.toList := by
    have h3 := hp.2.2
    have hsz := hp.1
    have x1 : ((insertionSort (lt1 ix c) d 0 d.size).extract 0 d.size) = insertionSort (lt1 ix c) d 0 d.size := by
      apply Array.toList_inj.1
      rw [Array.toList_extract, List.extract_eq_take_drop, List.drop_zero]
      exact List.take_of_length_le (by simp [hsz])
    have x2 : d.extract 0 d.size = d := by simp
    rw [x1, x2] at h3
    exact h3
  refine List.Perm.eq_of_pairwise (le := fun x y => lt1 ix c y x = false) (fun x y _ _ h1 h2 => hix x y ?_) ?_ ?_ (hp2.trans (srt_perm _ _).symm)
  · simp only [lt1, decide_eq_false_iff_not] at h1 h2
    omega
  · refine List.pairwise_iff_getElem.2 fun i j hi hj hij => ?_
    have := hs i j (Nat.zero_le _) hij (by rw [← hp.1]; simpa using hj)
    rw [get_list _ (by simpa using hj), get_list _ (by simpa using hi)] at this
    exact this
  · refine List.Pairwise.imp ?_ (srt_rise (swo1 ix c).trans (h.imp fun {x y} hxy => ?_))
    · intro x y hxy
      simp only [lt1, decide_eq_true_eq, decide_eq_false_iff_not] at *
      omega
    · simp only [lt1, decide_eq_true_eq]
      omega
end
theorem sorted_fin {m : Nat} (co : Nat → Int) (d : Array (Fin (m + 1))) (h : d.toList.Pairwise (fun x y => x.val < y.val)) : (insertionSort (fun x y => decide (co x.val < co y.val)) d 0 d.size).toList.map (fun f => (f.val : Int)) = srt (lx co) (d.toList.map fun f => (f.val : Int)) := by
  have h1 := sorted1 (fun f : Fin (m + 1) => (f.val : Int)) (fun f => co f.val) (fun x y e => Fin.ext (by omega)) d (h.imp fun {x y} e => by omega)
  have h2 : (insertionSort (fun x y : Fin (m + 1) => decide (co x.val < co y.val)) d 0 d.size).toList = srt (lt1 (fun f : Fin (m + 1) => (f.val : Int)) (fun f => co f.val)) d.toList := h1
  rw [h2]
  exact srt_map (fun x y => by unfold lt1 lx; simp only [Int.toNat_natCast]) d.toList []
end Go.Proofs.Ytcflcibncbipbaa.Sc
