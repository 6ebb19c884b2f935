/-
  Packets as rows of numbers: their bytes, what bytes are read as, that both fit.
  Conditions: the numbers lie within their kinds.
-/
import Derived.Test.YtmnndkhdekpecaaGreatDoorCf
import Derived.Test.YtmnndkhdekpecaaGreatDoorCq
namespace Go.Proofs.YtmnndkhdekpecaaGreatDoor.Pkt
open Chu (Ch Ck VOk chk clen tot encA EncR AllOut Rds n2 n4 Dec)
open Par (hidden Bytes Row)
open Crc (putOf zed b4 codeOf)
set_option linter.unusedVariables false

/-- a head, its sum's place empty -/
def hd (f t g : Int) : List Int := [f / 256, f % 256, t / 256, t % 256, g / 16777216, g / 65536 % 256, g / 256 % 256, g % 256]
def hdz (f t g : Int) : List Int := [f / 256, f % 256, t / 256, t % 256, g / 16777216, g / 65536 % 256, g / 256 % 256, g % 256, 0, 0, 0, 0]
def pre (f t g : Int) (b : List Int) : List Int := hdz f t g ++ b
/-- a packet's bytes -/
def pby (f t g : Int) (vs : List Ch) : List Int := putOf (pre f t g (encA vs))
/-- the kinds that stand alone -/
def alone (k : Int) : Prop := k = 1 ∨ k = 2 ∨ k = 14
def Mixed (vs : List Ch) : Prop := 2 ≤ vs.length ∧ ∃ v ∈ vs, alone v.kind
/-- what Encode tells -/
def PEnc (f t : Int) (vs : List Ch) (e : Int) : Prop :=
  ((f = 0 ∨ t = 0) ∧ e = 72) ∨ ((f ≠ 0 ∧ t ≠ 0) ∧ vs = [] ∧ e = 73) ∨ ((f ≠ 0 ∧ t ≠ 0) ∧ vs ≠ [] ∧ Mixed vs ∧ e = 74) ∨
    ((f ≠ 0 ∧ t ≠ 0) ∧ vs ≠ [] ∧ ¬ Mixed vs ∧ EncR vs e ∧ e ≠ 0) ∨ ((f ≠ 0 ∧ t ≠ 0) ∧ vs ≠ [] ∧ ¬ Mixed vs ∧ EncR vs 0 ∧ 65524 < tot vs ∧ e = 2) ∨
    ((f ≠ 0 ∧ t ≠ 0) ∧ vs ≠ [] ∧ ¬ Mixed vs ∧ EncR vs 0 ∧ tot vs ≤ 65524 ∧ e = 0)
theorem encR_ok {vs : List Ch} (h : EncR vs 0) : (∀ u ∈ vs, chk u = 0) ∧ tot vs ≤ 65536 := by
  rcases h with ⟨k, v, _, _, hne, he⟩ | ⟨_, _, he⟩ | ⟨h1, h2, _⟩
  · exact absurd he.symm hne
  · cases he
  · exact ⟨h1, h2⟩
theorem encR_one {vs : List Ch} {e d : Int} (h : EncR vs e) (g : EncR vs d) : e = d := by
  have key : ∀ (k : Nat) (v : Ch), vs[k]? = some v → chk v ≠ 0 → ¬ ∀ u ∈ vs, chk u = 0 := fun k v hv hne h => hne (h v (List.mem_of_getElem? hv))
  have low : ∀ (k j : Nat) (v u : Ch), vs[k]? = some v → vs[j]? = some u → chk v ≠ 0 → (∀ x ∈ vs.take j, chk x = 0) → ¬ k < j := by
    intro k j v u hv hu hne hall hlt
    exact hne (hall v (List.mem_of_getElem? (i := k) (by rw [List.getElem?_take, if_pos hlt]; exact hv)))
  rcases h with ⟨k, v, hv, ha, hne, rfl⟩ | ⟨ha, ht, rfl⟩ | ⟨ha, ht, rfl⟩ <;> rcases g with ⟨j, u, hu, hb, hnu, rfl⟩ | ⟨hb, hs, rfl⟩ | ⟨hb, hs, rfl⟩
  · have h1 := low k j v u hv hu hne hb
    have h2 := low j k u v hu hv hnu ha
    obtain rfl : k = j := by omega
    rw [hv] at hu
    cases hu
    rfl
  · exact absurd hb (key k v hv hne)
  · exact absurd hb (key k v hv hne)
  · exact absurd ha (key j u hu hnu)
  · rfl
  · omega
  · exact absurd ha (key j u hu hnu)
  · omega
  · rfl
/-- chunks that may be: long, or not -/
theorem encR_of {vs : List Ch} {e : Int} (h : EncR vs e) (ha : ∀ u ∈ vs, chk u = 0) : (e = 2 ∧ 65536 < tot vs) ∨ (e = 0 ∧ tot vs ≤ 65536) := by
  rcases h with ⟨k, v, hv, _, hne, he⟩ | ⟨_, h1, h2⟩ | ⟨_, h1, h2⟩
  · exact absurd (ha v (List.mem_of_getElem? hv)) hne
  · exact .inl ⟨h2, h1⟩
  · exact .inr ⟨h2, h1⟩
theorem PEnc.one {f t : Int} {vs : List Ch} {e d : Int} (h : PEnc f t vs e) (g : PEnc f t vs d) : e = d := by
  unfold PEnc at h g
  rcases h with ⟨h1, rfl⟩ | ⟨h1, h2, rfl⟩ | ⟨h1, h2, h3, rfl⟩ | ⟨h1, h2, h3, h4, h5⟩ | ⟨h1, h2, h3, h4, h5, rfl⟩ | ⟨h1, h2, h3, h4, h5, rfl⟩ <;>
    rcases g with ⟨g1, rfl⟩ | ⟨g1, g2, rfl⟩ | ⟨g1, g2, g3, rfl⟩ | ⟨g1, g2, g3, g4, g5⟩ | ⟨g1, g2, g3, g4, g5, rfl⟩ | ⟨g1, g2, g3, g4, g5, rfl⟩ <;>
    first
    | rfl
    | (exfalso; omega)
    | exact absurd h2 g2
    | exact absurd g2 h2
    | exact absurd h3 g3
    | exact absurd g3 h3
    | exact encR_one h4 g4
    | exact absurd (encR_one h4 g4) h5
    | exact absurd (encR_one g4 h4) g5
theorem PEnc.ok {f t : Int} {vs : List Ch} (h : PEnc f t vs 0) : (f ≠ 0 ∧ t ≠ 0) ∧ vs ≠ [] ∧ ¬ Mixed vs ∧ (∀ u ∈ vs, chk u = 0) ∧ tot vs ≤ 65524 := by
  unfold PEnc at h
  rcases h with ⟨_, h⟩ | ⟨_, _, h⟩ | ⟨_, _, _, h⟩ | ⟨_, _, _, _, h⟩ | ⟨_, _, _, _, _, h⟩ | ⟨h1, h2, h3, h4, h5, _⟩
  · cases h
  · cases h
  · cases h
  · exact absurd rfl h
  · cases h
  · exact ⟨h1, h2, h3, (encR_ok h4).1, h5⟩

theorem hdz_len (f t g : Int) : (hdz f t g).length = 12 := rfl
theorem pre_len (f t g : Int) (b : List Int) : (pre f t g b).length = 12 + b.length := by unfold pre; rw [List.length_append, hdz_len]
theorem pby_len {f t g : Int} {vs : List Ch} (h : ∀ u ∈ vs, chk u = 0) : (pby f t g vs).length = 12 + tot vs := by
  unfold pby
  rw [Crc.put_len (by rw [pre_len]; omega), pre_len, Chu.encA_len h]
theorem hdz_bytes {f t g : Int} (hf : 0 ≤ f ∧ f < 65536) (ht : 0 ≤ t ∧ t < 65536) (hg : 0 ≤ g ∧ g < 4294967296) : Bytes (hdz f t g) := by
  intro n hn
  simp only [hdz, List.mem_cons, List.not_mem_nil, or_false] at hn
  rcases hn with rfl | rfl | rfl | rfl | rfl | rfl | rfl | rfl | rfl | rfl | rfl | rfl <;> omega
theorem pre_bytes {f t g : Int} {b : List Int} (hf : 0 ≤ f ∧ f < 65536) (ht : 0 ≤ t ∧ t < 65536) (hg : 0 ≤ g ∧ g < 4294967296) (hb : Bytes b) : Bytes (pre f t g b) :=
  Chu.bytes_append (hdz_bytes hf ht hg) hb
theorem pby_bytes {f t g : Int} {vs : List Ch} (hf : 0 ≤ f ∧ f < 65536) (ht : 0 ≤ t ∧ t < 65536) (hg : 0 ≤ g ∧ g < 4294967296) (hv : ∀ v ∈ vs, VOk v) (h : ∀ u ∈ vs, chk u = 0) : Bytes (pby f t g vs) :=
  Crc.put_bytes (pre_bytes hf ht hg (Chu.encA_bytes hv h))
theorem put_take {zs : List Int} (h : 12 ≤ zs.length) : (putOf zs).take 8 = zs.take 8 := by
  unfold putOf
  rw [List.take_append_of_le_length (by simp; omega), List.take_of_length_le (by simp; omega)]
theorem put_drop {zs : List Int} (h : 12 ≤ zs.length) : (putOf zs).drop 12 = zs.drop 12 := by
  unfold putOf
  rw [← List.append_assoc, List.drop_append_of_le_length (by simp [b4]; omega), List.drop_of_length_le (by simp [b4]; omega)]
  rfl
theorem put_put {zs : List Int} (h : 12 ≤ zs.length) : putOf (putOf zs) = putOf zs := by
  show (putOf zs).take 8 ++ (b4 (Crc.sum (zed (putOf zs))) ++ (putOf zs).drop 12) = _
  rw [put_take h, put_drop h, Crc.zed_put h]
  rfl
theorem put_get {zs : List Int} (h : 12 ≤ zs.length) (i : Nat) (hi : i < 8) : (putOf zs).getD i 0 = zs.getD i 0 := by
  have e := congrArg (fun l => l.getD i 0) (put_take h)
  simp only [List.getD_eq_getElem?_getD, List.getElem?_take, if_pos hi] at e
  rw [List.getD_eq_getElem?_getD, List.getD_eq_getElem?_getD]
  exact e

/-- what Head tells: the error -/
def hcode (zs : List Int) : Int := if 65536 < zs.length then 2 else if zs.length < 12 then 20 else if putOf zs ≠ zs then 21 else if n2 zs 0 = 0 ∨ n2 zs 2 = 0 then 72 else 0
theorem hcode_long {zs : List Int} (h : 65536 < zs.length) : hcode zs = 2 := if_pos h
theorem hcode_brief {zs : List Int} (h : zs.length < 12) : hcode zs = 20 := by unfold hcode; rw [if_neg (by omega), if_pos h]
theorem hcode_sum {zs : List Int} (h0 : ¬ 65536 < zs.length) (h1 : ¬ zs.length < 12) (h : putOf zs ≠ zs) : hcode zs = 21 := by unfold hcode; rw [if_neg h0, if_neg h1, if_pos h]
theorem hcode_port {zs : List Int} (h0 : ¬ 65536 < zs.length) (h1 : ¬ zs.length < 12) (h2 : putOf zs = zs) (h : n2 zs 0 = 0 ∨ n2 zs 2 = 0) : hcode zs = 72 := by
  unfold hcode; rw [if_neg h0, if_neg h1, if_neg (fun hn => hn h2), if_pos h]
theorem hcode_ok {zs : List Int} (h0 : ¬ 65536 < zs.length) (h1 : ¬ zs.length < 12) (h2 : putOf zs = zs) (h : ¬ (n2 zs 0 = 0 ∨ n2 zs 2 = 0)) : hcode zs = 0 := by
  unfold hcode; rw [if_neg h0, if_neg h1, if_neg (fun hn => hn h2), if_neg h]
theorem hcode_zero {zs : List Int} (h : hcode zs = 0) : zs.length ≤ 65536 ∧ 12 ≤ zs.length ∧ putOf zs = zs ∧ n2 zs 0 ≠ 0 ∧ n2 zs 2 ≠ 0 := by
  unfold hcode at h
  split at h
  · cases h
  split at h
  · cases h
  split at h
  · cases h
  split at h
  · cases h
  · refine ⟨by omega, by omega, ?_, by omega, by omega⟩
    rename_i h1 _
    exact Classical.not_not.1 h1
/-- the head's numbers, where Head tells no error -/
def hfrom (zs : List Int) : Int := if hcode zs = 0 then n2 zs 0 else 0
def hto (zs : List Int) : Int := if hcode zs = 0 then n2 zs 2 else 0
def htag (zs : List Int) : Int := if hcode zs = 0 then n4 zs 4 else 0
theorem head_ok {zs : List Int} (h : hcode zs = 0) : hfrom zs = n2 zs 0 ∧ hto zs = n2 zs 2 ∧ htag zs = n4 zs 4 := ⟨if_pos h, if_pos h, if_pos h⟩
theorem head_bad {zs : List Int} (h : hcode zs ≠ 0) : hfrom zs = 0 ∧ hto zs = 0 ∧ htag zs = 0 := ⟨if_neg h, if_neg h, if_neg h⟩

/-- what Decode tells: the chunks, the place, the error -/
def DecOut (zs : List Int) (vs : List Ch) (p : Nat) (e : Int) : Prop :=
  (hcode zs ≠ 0 ∧ e = hcode zs ∧ p = 0 ∧ vs = []) ∨ (hcode zs = 0 ∧ zs.length = 12 ∧ e = 73 ∧ p = 0 ∧ vs = []) ∨
    (hcode zs = 0 ∧ 12 < zs.length ∧ ∃ l q er, AllOut (zs.drop 12) l q er ∧
      ((er ≠ 0 ∧ e = er ∧ p = 12 + q ∧ vs = []) ∨ (er = 0 ∧ Mixed l ∧ e = 74 ∧ p = 0 ∧ vs = []) ∨ (er = 0 ∧ ¬ Mixed l ∧ e = 0 ∧ p = 0 ∧ vs = l)))
theorem DecOut.one {zs : List Int} {vs vs' : List Ch} {p p' : Nat} {e e' : Int} (h : DecOut zs vs p e) (h' : DecOut zs vs' p' e') : vs = vs' ∧ p = p' ∧ e = e' := by
  rcases h with ⟨h1, rfl, rfl, rfl⟩ | ⟨h1, h2, rfl, rfl, rfl⟩ | ⟨h1, h2, l, q, er, h3, h4⟩ <;> rcases h' with ⟨g1, rfl, rfl, rfl⟩ | ⟨g1, g2, rfl, rfl, rfl⟩ | ⟨g1, g2, l', q', er', g3, g4⟩
  · exact ⟨rfl, rfl, rfl⟩
  · exact absurd g1 h1
  · exact absurd g1 h1
  · exact absurd h1 g1
  · exact ⟨rfl, rfl, rfl⟩
  · omega
  · exact absurd h1 g1
  · omega
  · obtain ⟨rfl, rfl, rfl⟩ := h3.one g3
    rcases h4 with ⟨a1, rfl, rfl, rfl⟩ | ⟨a1, a2, rfl, rfl, rfl⟩ | ⟨a1, a2, rfl, rfl, rfl⟩ <;> rcases g4 with ⟨b1, rfl, rfl, rfl⟩ | ⟨b1, b2, rfl, rfl, rfl⟩ | ⟨b1, b2, rfl, rfl, rfl⟩ <;>
      first
      | exact ⟨rfl, rfl, rfl⟩
      | exact absurd b1 a1
      | exact absurd a1 b1
      | exact absurd a2 b2
      | exact absurd b2 a2
/-- the head's numbers as Decode tells them -/
theorem DecOut.bad {zs : List Int} {vs : List Ch} {p : Nat} {e : Int} (h : DecOut zs vs p e) (he : e ≠ 0) : vs = [] := by
  rcases h with ⟨_, _, _, h⟩ | ⟨_, _, _, _, h⟩ | ⟨_, _, l, q, er, _, ⟨_, _, _, h⟩ | ⟨_, _, _, _, h⟩ | ⟨_, _, h, _, _⟩⟩
  · exact h
  · exact h
  · exact h
  · exact h
  · exact absurd h he
theorem DecOut.good {zs : List Int} {vs : List Ch} {p : Nat} (h : DecOut zs vs p 0) (hz : Bytes zs) : hcode zs = 0 ∧ p = 0 ∧ vs ≠ [] ∧ ¬ Mixed vs ∧ ∀ v ∈ vs, chk v = 0 ∧ VOk v := by
  have hzd : Bytes (zs.drop 12) := fun n hn => hz n (List.mem_of_mem_drop hn)
  rcases h with ⟨h1, h2, _⟩ | ⟨_, _, h2, _⟩ | ⟨h1, h2, l, q, er, h3, ⟨a1, a2, _⟩ | ⟨_, _, a2, _⟩ | ⟨rfl, a2, _, rfl, rfl⟩⟩
  · exact absurd h2.symm h1
  · cases h2
  · exact absurd a2.symm a1
  · cases a2
  · rcases h3 with ⟨_, _, q', h4, h5⟩ | ⟨h4, _⟩
    · refine ⟨h1, rfl, ?_, a2, ?_⟩
      · rintro rfl
        cases h4
        rw [List.length_drop] at h5
        omega
      · have key : ∀ (l : List Ch) (p q : Nat), Rds (zs.drop 12) p l q → ∀ v ∈ l, chk v = 0 ∧ VOk v := by
          intro l
          induction l with
          | nil => intro p q _ v hv; cases hv
          | cons x l ih =>
            intro p q h v hv
            obtain ⟨m, _, hd, hr⟩ := h
            rcases List.mem_cons.1 hv with rfl | hv
            · obtain ⟨r1, r2, _⟩ := Chu.read_ok _ (fun n hn => hzd n (List.mem_of_mem_drop hn)) _ _ hd
              exact ⟨r1, r2⟩
            · exact ih _ _ hr v hv
        exact key _ _ _ h4
    · exact absurd rfl h4

theorem hd_two (f t g : Int) (b : List Int) (hf : 0 ≤ f ∧ f < 65536) : n2 (pre f t g b) 0 = f := by
  show f / 256 * 256 + f % 256 = f
  omega
theorem hd_to (f t g : Int) (b : List Int) (ht : 0 ≤ t ∧ t < 65536) : n2 (pre f t g b) 2 = t := by
  show t / 256 * 256 + t % 256 = t
  omega
theorem hd_tag (f t g : Int) (b : List Int) (hg : 0 ≤ g ∧ g < 4294967296) : n4 (pre f t g b) 4 = g := by
  show (g / 16777216 * 256 + g / 65536 % 256) * 65536 + (g / 256 % 256 * 256 + g % 256) = g
  omega
theorem n2_put {zs : List Int} (h : 12 ≤ zs.length) (i : Nat) (hi : i < 7) : n2 (putOf zs) i = n2 zs i := by
  unfold n2
  rw [put_get h i (by omega), put_get h (i + 1) (by omega)]
theorem n4_put {zs : List Int} (h : 12 ≤ zs.length) (i : Nat) (hi : i < 5) : n4 (putOf zs) i = n4 zs i := by
  unfold n4
  rw [n2_put h i (by omega), n2_put h (i + 2) (by omega)]
/-- a packet that may be is read from its bytes -/
theorem back {f t g : Int} {vs : List Ch} (hf : 0 ≤ f ∧ f < 65536) (ht : 0 ≤ t ∧ t < 65536) (hg : 0 ≤ g ∧ g < 4294967296) (hv : ∀ v ∈ vs, VOk v) (h : PEnc f t vs 0) :
    DecOut (pby f t g vs) vs 0 0 ∧ hfrom (pby f t g vs) = f ∧ hto (pby f t g vs) = t ∧ htag (pby f t g vs) = g := by
  obtain ⟨h1, h2, h3, h4, h5⟩ := h.ok
  have hl := pby_len (f := f) (t := t) (g := g) h4
  have h12 : 12 ≤ (pre f t g (encA vs)).length := by rw [pre_len]; omega
  have e1 : n2 (pby f t g vs) 0 = f := by unfold pby; rw [n2_put h12 0 (by omega), hd_two f t g _ hf]
  have e2 : n2 (pby f t g vs) 2 = t := by unfold pby; rw [n2_put h12 2 (by omega), hd_to f t g _ ht]
  have e3 : n4 (pby f t g vs) 4 = g := by unfold pby; rw [n4_put h12 4 (by omega), hd_tag f t g _ hg]
  have hc : hcode (pby f t g vs) = 0 := hcode_ok (by omega) (by omega) (put_put h12) (by rw [e1, e2]; omega)
  obtain ⟨k1, k2, k3⟩ := head_ok hc
  refine ⟨.inr (.inr ⟨hc, ?_, vs, 0, 0, ?_, .inr (.inr ⟨rfl, h3, rfl, rfl, rfl⟩)⟩), k1.trans e1, k2.trans e2, k3.trans e3⟩
  · obtain ⟨v, hv'⟩ : ∃ v, v ∈ vs := by
      cases vs with
      | nil => exact absurd rfl h2
      | cons v l => exact ⟨v, List.mem_cons_self ..⟩
    obtain ⟨i, hi, e⟩ := List.getElem_of_mem hv'
    have := Chu.tot_lt (vs := vs) (i := i) (v := v) (by rw [List.getElem?_eq_getElem hi, e])
    have := Chu.clen_pos v
    omega
  · have ed : (pby f t g vs).drop 12 = encA vs := by
      unfold pby
      rw [put_drop h12]
      unfold pre
      rw [List.drop_append_of_le_length (by rw [hdz_len]; exact Nat.le_refl _), List.drop_of_length_le (by rw [hdz_len]; exact Nat.le_refl _), List.nil_append]
    rw [ed]
    have := Chu.rds_enc vs [] hv h4
    rw [List.nil_append] at this
    exact .inl ⟨rfl, rfl, _, this, Nat.le_refl _⟩
end Go.Proofs.YtmnndkhdekpecaaGreatDoor.Pkt
