import PyProof.Rows.All
import KE.OsGo
import PySem.Challenge.RW_copychains_s02_needed
open PySem PySem.W
set_option Elab.async false
namespace My
open Ks290 Ks290Neutral

/-- Every copy builds only upon one before it, said over Python's own numbers. -/
def Sound (row : List Int) : Prop := ∀ j : Nat, j < row.length → row.getD j 0 ≤ (j : Int)

theorem okFrom_iff : ∀ (l : List Nat) (k : Nat), okFrom k l = true ↔ ∀ j, j < l.length → l.getD j 0 ≤ k + j
  | [], k => by simp [okFrom]
  | u :: l, k => by
    simp only [okFrom, Bool.and_eq_true, decide_eq_true_eq, okFrom_iff l (k + 1)]
    constructor
    · rintro ⟨h1, h2⟩ j hj
      cases j with
      | zero => simpa using h1
      | succ j =>
        have := h2 j (by simpa using hj)
        simp only [List.getD_cons_succ]
        omega
    · intro h
      refine ⟨by simpa using h 0 (by simp), fun j hj => ?_⟩
      have := h (j + 1) (by simpa using hj)
      simp only [List.getD_cons_succ] at this
      omega

theorem nats_getD (row : List Int) (j : Nat) : (nats row).getD j 0 = (row.getD j 0).toNat := by
  unfold nats
  rw [List.getD_eq_getElem?_getD, List.getD_eq_getElem?_getD, List.getElem?_map]
  cases row[j]? <;> rfl

theorem nats_length (row : List Int) : (nats row).length = row.length := List.length_map ..

theorem okRow_iff (row : List Int) : okRow (nats row) = true ↔ row.length ≤ 64 ∧ Sound row := by
  unfold okRow
  rw [Bool.and_eq_true, decide_eq_true_eq, okFrom_iff, nats_length]
  refine and_congr Iff.rfl ?_
  constructor
  · intro h j hj
    have := h j hj
    rw [nats_getD] at this
    omega
  · intro h j hj
    have := h j hj
    rw [nats_getD]
    omega

theorem sound_zip {row : List Int} (h : ∀ p ∈ row.zipIdx, decide ((p.2 : Int) < p.1) = false) : Sound row := by
  intro j hj
  have hm : (row[j], j) ∈ row.zipIdx := by
    rw [List.mem_zipIdx_iff_getElem?]
    simp [hj]
  have := h _ hm
  simp only [decide_eq_false_iff_not] at this
  rw [List.getD_eq_getElem?_getD, List.getElem?_eq_getElem hj]
  show row[j] ≤ _
  omega

theorem unsound {row : List Int} {j : Nat} (hj : j < row.length) (h : (j : Int) < row.getD j 0) : ¬ (row.length ≤ 64 ∧ Sound row) := fun hh => by
  have := hh.2 j hj
  omega
end My
namespace My2
open Ks290 Ks290Neutral

/-- Each number of a row is at most its place. -/
def SoundN (l : List Nat) : Prop := ∀ j, j < l.length → l.getD j 0 ≤ j

theorem sound_all {l : List Nat} (hs : SoundN l) (j : Nat) : l.getD j 0 ≤ j := by
  by_cases h : j < l.length
  · exact hs j h
  · rw [List.getD_eq_getElem?_getD, List.getElem?_eq_none (by omega)]
    exact Nat.zero_le _

theorem down_zero {l : List Nat} {n i : Nat} (h : l.getD i 0 = 0) : down l (n + 1) i = [i] := by
  conv => lhs; unfold down
  rw [h]
theorem down_succ {l : List Nat} {n i k : Nat} (h : l.getD i 0 = k + 1) : down l (n + 1) i = i :: down l n k := by
  conv => lhs; unfold down
  rw [h]

/-- Enough steps are enough. -/
theorem down_fuel {l : List Nat} (hs : SoundN l) : ∀ (n m i : Nat), i < n → i < m → down l n i = down l m i
  | 0, _, _, h, _ => by omega
  | _, 0, _, _, h => by omega
  | n + 1, m + 1, i, h1, h2 => by
    cases e : l.getD i 0 with
    | zero => rw [down_zero e, down_zero e]
    | succ k =>
      have := sound_all hs i
      rw [down_succ e, down_succ e, down_fuel hs n m k (by omega) (by omega)]

theorem chain_zero {l : List Nat} {i : Nat} (h : l.getD i 0 = 0) : chain l i = [i] := by
  unfold chain
  rw [down_zero h]
  rfl
theorem chain_succ {l : List Nat} {i k : Nat} (hs : SoundN l) (hi : i < l.length) (h : l.getD i 0 = k + 1) : chain l i = chain l k ++ [i] := by
  unfold chain
  have := sound_all hs i
  rw [down_succ h, List.reverse_cons, down_fuel hs l.length (l.length + 1) k (by omega) (by omega)]

theorem mem_chain_zero {l : List Nat} {i j : Nat} (h : l.getD i 0 = 0) : j ∈ chain l i ↔ j = i := by
  rw [chain_zero h, List.mem_singleton]
theorem mem_chain_succ {l : List Nat} {i j k : Nat} (hs : SoundN l) (hi : i < l.length) (h : l.getD i 0 = k + 1) : j ∈ chain l i ↔ j ∈ chain l k ∨ j = i := by
  rw [chain_succ hs hi h, List.mem_append, List.mem_singleton]
theorem mem_chain_self {l : List Nat} {i : Nat} : i ∈ chain l i := by
  unfold chain
  rw [List.mem_reverse]
  cases h : l.getD i 0 with
  | zero => rw [down_zero h]; exact List.mem_singleton.mpr rfl
  | succ k => rw [down_succ h]; exact List.mem_cons_self
/-- Nothing in a chain is behind its end. -/
theorem chain_le {l : List Nat} (hs : SoundN l) : ∀ (i j : Nat), j ∈ chain l i → i < l.length → j ≤ i := by
  intro i
  induction i using Nat.strongRecOn with
  | _ i ih =>
    intro j hj hi
    cases h : l.getD i 0 with
    | zero => rw [mem_chain_zero h] at hj; omega
    | succ k =>
      have := sound_all hs i
      rw [mem_chain_succ hs hi h] at hj
      rcases hj with hj | hj
      · have := ih k (by omega) j hj (by omega)
        omega
      · omega
/-- What one in a chain needs is in the chain. -/
theorem chain_trans {l : List Nat} (hs : SoundN l) : ∀ (i j k : Nat), i < l.length → j ∈ chain l i → k ∈ chain l j → k ∈ chain l i := by
  intro i
  induction i using Nat.strongRecOn with
  | _ i ih =>
    intro j k hi hj hk
    cases h : l.getD i 0 with
    | zero => rw [mem_chain_zero h] at hj; rw [hj] at hk; exact hk
    | succ u =>
      have := sound_all hs i
      rw [mem_chain_succ hs hi h] at hj ⊢
      rcases hj with hj | hj
      · exact .inl (ih u (by omega) j k (by omega) hj hk)
      · rw [hj, mem_chain_succ hs hi h] at hk; exact hk
/-- What one builds upon is in its chain. -/
theorem chain_step {l : List Nat} (hs : SoundN l) {i j u : Nat} (hi : i < l.length) (hj : j ∈ chain l i) (h : l.getD j 0 = u + 1) : u ∈ chain l i := by
  have hji := chain_le hs i j hj hi
  refine chain_trans hs i j u hi hj ?_
  rw [mem_chain_succ hs (by omega) h]
  exact .inl mem_chain_self
end My2
namespace My
open Ks290 Ks290Neutral

theorem okRow_bad {row : List Int} (h : ¬ (row.length ≤ 64 ∧ Sound row)) : okRow (nats row) = false := by
  cases h1 : okRow (nats row) with
  | false => rfl
  | true => exact absurd ((okRow_iff row).mp h1) h

theorem needed_bad {row want : List Int} (h : ¬ (row.length ≤ 64 ∧ Sound row)) : PyKs290.needed row want = [-22] := by
  have e := okRow_bad h
  show (Ks290.answer (Ks290.Call.needed (nats row) (nats want))).ret :: «ints» (Ks290.answer (Ks290.Call.needed (nats row) (nats want))).out = [-22]
  simp only [Ks290.answer, e, if_true, no]
  rfl

theorem above_bad {i : Int} {row : List Int} (h : ¬ (row.length ≤ 64 ∧ Sound row)) : PyKs290.above i row = [-22] := by
  have e := okRow_bad h
  show (Ks290.answer (Ks290.Call.above (nats row) i.toNat)).ret :: «ints» (Ks290.answer (Ks290.Call.above (nats row) i.toNat)).out = [-22]
  simp only [Ks290.answer, e, if_true, no]
  rfl

theorem above_no {i : Int} {row : List Int} (h : row.length ≤ 64) (hs : Sound row) (hi : (row.length : Int) ≤ i) : PyKs290.above i row = [-2] := by
  have e : okRow (nats row) = true := (okRow_iff row).mpr ⟨h, hs⟩
  show (Ks290.answer (Ks290.Call.above (nats row) i.toNat)).ret :: «ints» (Ks290.answer (Ks290.Call.above (nats row) i.toNat)).out = [-2]
  have hl : (nats row).length ≤ i.toNat := by rw [nats_length]; omega
  simp only [Ks290.answer, e, hl, if_true, no, Bool.true_eq_false, if_false]
  rfl

theorem above_is {i : Int} {row : List Int} (h : row.length ≤ 64) (hs : Sound row) (hi : i < (row.length : Int)) (h0 : 0 ≤ i) :
    PyKs290.above i row = ((Ks290.above (nats row) i.toNat).length : Int) :: «ints» (Ks290.above (nats row) i.toNat) := by
  have e : okRow (nats row) = true := (okRow_iff row).mpr ⟨h, hs⟩
  show (Ks290.answer (Ks290.Call.above (nats row) i.toNat)).ret :: «ints» (Ks290.answer (Ks290.Call.above (nats row) i.toNat)).out = _
  have hl : ¬ (nats row).length ≤ i.toNat := by rw [nats_length]; omega
  simp only [Ks290.answer, e, hl, Bool.true_eq_false, if_false]

theorem needed_no {row want : List Int} (h : row.length ≤ 64) (hs : Sound row) (hw : 64 < want.length ∨ ∃ x ∈ want, (row.length : Int) ≤ x) : PyKs290.needed row want = [-2] := by
  have e : okRow (nats row) = true := (okRow_iff row).mpr ⟨h, hs⟩
  show (Ks290.answer (Ks290.Call.needed (nats row) (nats want))).ret :: «ints» (Ks290.answer (Ks290.Call.needed (nats row) (nats want))).out = [-2]
  have hc : MANY < (nats want).length ∨ (nats want).any (fun i => decide ((nats row).length ≤ i)) = true := by
    rw [nats_length, nats_length]
    rcases hw with hw | ⟨x, hx, hl⟩
    · exact .inl hw
    · refine .inr (List.any_eq_true.mpr ⟨x.toNat, List.mem_map.mpr ⟨x, hx, rfl⟩, ?_⟩)
      rw [decide_eq_true_eq]
      omega
  simp only [Ks290.answer, e, Bool.true_eq_false, if_false]
  rw [if_pos hc]
  rfl

theorem needed_is {row want : List Int} (h : row.length ≤ 64) (hs : Sound row) (hw : want.length ≤ 64) (hi : ∀ x ∈ want, 0 ≤ x ∧ x < (row.length : Int)) :
    PyKs290.needed row want = ((Ks290.needed (nats row) (nats want)).length : Int) :: «ints» (Ks290.needed (nats row) (nats want)) := by
  have e : okRow (nats row) = true := (okRow_iff row).mpr ⟨h, hs⟩
  show (Ks290.answer (Ks290.Call.needed (nats row) (nats want))).ret :: «ints» (Ks290.answer (Ks290.Call.needed (nats row) (nats want))).out = _
  have hc : ¬ (MANY < (nats want).length ∨ (nats want).any (fun i => decide ((nats row).length ≤ i)) = true) := by
    rw [nats_length, nats_length]
    rintro (h1 | h1)
    · exact absurd h1 (Nat.not_lt.mpr hw)
    · obtain ⟨y, hy, hl⟩ := List.any_eq_true.mp h1
      obtain ⟨x, hx, rfl⟩ := List.mem_map.mp hy
      rw [decide_eq_true_eq] at hl
      have := hi x hx
      omega
  simp only [Ks290.answer, e, Bool.true_eq_false, if_false]
  rw [if_neg hc]

/-! What is told, rising: two lists that rise and hold the same are one. -/
theorem filter_range_int {p : Nat → Bool} {n : Nat} : «ints» ((List.range n).filter p) = ((List.range n).filter p).map fun (k : Nat) => (k : Int) := rfl
theorem filter_range_succ {p : Nat → Bool} {n : Nat} : (List.range (n + 1)).filter p = (List.range n).filter p ++ (if p n then [n] else []) := by
  rw [List.range_succ, List.filter_append]
  cases h : p n <;> simp [h]
end My
namespace My2
open Ks290 Ks290Neutral

/-- Whether j is needed by one of those wanted. -/
def nd (l want : List Nat) (j : Nat) : Bool := want.any fun i => decide (i < l.length) && (chain l i).contains j
/-- Whether j is above i. -/
def ab (l : List Nat) (i j : Nat) : Bool := j != i && (chain l j).contains i
theorem needed_nd (l want : List Nat) : needed l want = (List.range l.length).filter (nd l want) := rfl
theorem above_ab (l : List Nat) (i : Nat) : above l i = (List.range l.length).filter (ab l i) := rfl

theorem nd_iff {l want : List Nat} {j : Nat} : nd l want j = true ↔ ∃ i ∈ want, i < l.length ∧ j ∈ chain l i := by
  unfold nd
  simp only [List.any_eq_true, Bool.and_eq_true, decide_eq_true_eq, List.contains_iff_mem]
theorem ab_iff {l : List Nat} {i j : Nat} : ab l i j = true ↔ j ≠ i ∧ i ∈ chain l j := by
  unfold ab
  simp only [Bool.and_eq_true, bne_iff_ne, ne_eq, List.contains_iff_mem]

theorem ab_zero {l : List Nat} {i j : Nat} (h : l.getD j 0 = 0) : ab l i j = false := by
  cases e : ab l i j with
  | false => rfl
  | true =>
    rw [ab_iff, mem_chain_zero h] at e
    exact absurd e.2.symm e.1
theorem ab_succ {l : List Nat} {i j k : Nat} (hs : SoundN l) (hj : j < l.length) (h : l.getD j 0 = k + 1) : ab l i j = true ↔ k = i ∨ ab l i k = true := by
  have := sound_all hs j
  rw [ab_iff, ab_iff, mem_chain_succ hs hj h]
  constructor
  · rintro ⟨h1, h2 | h2⟩
    · by_cases e : k = i
      · exact .inl e
      · exact .inr ⟨e, h2⟩
    · exact absurd h2.symm h1
  · rintro (h1 | ⟨h1, h2⟩)
    · subst h1
      exact ⟨by omega, .inl mem_chain_self⟩
    · have := chain_le hs k i h2 (by omega)
      exact ⟨by omega, .inl h2⟩
/-- None at or below i is above it. -/
theorem ab_low {l : List Nat} {i j : Nat} (hs : SoundN l) (hj : j < l.length) (h : j ≤ i) : ab l i j = false := by
  cases e : ab l i j with
  | false => rfl
  | true =>
    rw [ab_iff] at e
    have := chain_le hs j i e.2 hj
    omega
/-- One in a chain, and not its end, has one of the chain upon it. -/
theorem chain_up {l : List Nat} (hs : SoundN l) : ∀ (i j : Nat), i < l.length → j ∈ chain l i → j ≠ i → ∃ c ∈ chain l i, l.getD c 0 = j + 1 := by
  intro i
  induction i using Nat.strongRecOn with
  | _ i ih =>
    intro j hi hj hne
    cases h : l.getD i 0 with
    | zero => rw [mem_chain_zero h] at hj; exact absurd hj hne
    | succ k =>
      have := sound_all hs i
      rw [mem_chain_succ hs hi h] at hj
      rcases hj with hj | hj
      · by_cases e : j = k
        · subst e
          exact ⟨i, mem_chain_self, h⟩
        · obtain ⟨c, hc, hu⟩ := ih k (by omega) j (by omega) hj e
          exact ⟨c, (mem_chain_succ hs hi h).mpr (.inl hc), hu⟩
      · exact absurd hj hne
/-- Needed: wanted, or one that is needed builds upon it. -/
theorem nd_step {l want : List Nat} (hs : SoundN l) (hw : ∀ i ∈ want, i < l.length) (j : Nat) : nd l want j = true ↔ j ∈ want ∨ ∃ c, c < l.length ∧ l.getD c 0 = j + 1 ∧ nd l want c = true := by
  simp only [nd_iff]
  constructor
  · rintro ⟨i, hi, hl, hj⟩
    by_cases e : j = i
    · subst e
      exact .inl hi
    · obtain ⟨c, hc, hu⟩ := chain_up hs i j hl hj e
      exact .inr ⟨c, by have := chain_le hs i c hc hl; omega, hu, i, hi, hl, hc⟩
  · rintro (hj | ⟨c, hc, hu, i, hi, hl, hci⟩)
    · exact ⟨j, hj, hw j hj, mem_chain_self⟩
    · exact ⟨i, hi, hl, chain_step hs hl hci hu⟩
theorem nd_want {l want : List Nat} {j : Nat} (hw : ∀ i ∈ want, i < l.length) (h : j ∈ want) : nd l want j = true := nd_iff.mpr ⟨j, h, hw j h, mem_chain_self⟩
theorem nd_append {l want more : List Nat} {j : Nat} : nd l (want ++ more) j = (nd l want j || nd l more j) := by
  unfold nd
  exact List.any_append
theorem nd_nil {l : List Nat} {j : Nat} : nd l [] j = false := rfl
theorem nd_one {l : List Nat} {i j : Nat} (hi : i < l.length) : nd l [i] j = true ↔ j ∈ chain l i := by
  rw [nd_iff]
  constructor
  · rintro ⟨k, hk, _, h⟩
    rw [List.mem_singleton.mp hk] at h
    exact h
  · intro h
    exact ⟨i, List.mem_singleton.mpr rfl, hi, h⟩
end My2
namespace My
open Ks290 Ks290Neutral My2

theorem soundN {row : List Int} (hs : Sound row) : SoundN (nats row) := by
  intro j hj
  rw [nats_length] at hj
  have := hs j hj
  rw [nats_getD]
  omega
theorem sound_le {row : List Int} (hs : Sound row) (j : Nat) : row.getD j 0 ≤ (j : Int) := by
  by_cases h : j < row.length
  · exact hs j h
  · rw [List.getD_eq_getElem?_getD, List.getElem?_eq_none (by omega)]
    exact Int.natCast_nonneg j
theorem getD_set {bs : List Bool} {k j : Nat} (hk : k < bs.length) : (bs.set k true).getD j false = true ↔ j = k ∨ bs.getD j false = true := by
  rw [List.getD_eq_getElem?_getD, List.getD_eq_getElem?_getD, List.getElem?_set]
  by_cases e : k = j
  · subst e
    simp [hk]
  · have : ¬ j = k := fun h => e h.symm
    simp [e, this]

/-- Each is below a row's length. -/
structure Below (row pre : List Int) : Prop where
  all : ∀ v ∈ pre, v < (row.length : Int)
theorem below_start {row : List Int} : Below row [] := ⟨fun v hv => absurd hv List.not_mem_nil⟩
theorem below_turn {row pre : List Int} {x : Int} (h : Below row pre) (hx : ¬ (row.length : Int) ≤ x) : Below row (pre ++ [x]) := ⟨fun v hv => by
  rcases List.mem_append.mp hv with h1 | h1
  · exact h.all v h1
  · rw [List.mem_singleton.mp h1]
    omega⟩

/-- Marked are just those of pre. -/
structure Marked (row pre : List Int) (marks : List Bool) : Prop where
  len : marks.length = row.length
  iff : ∀ j : Nat, j < row.length → (marks.getD j false = true ↔ (j : Int) ∈ pre)
theorem marked_start {row : List Int} {n : Nat} (h : n = row.length) : Marked row [] (List.replicate n [false]).flatten := by
  refine ⟨?_, fun j hj => ?_⟩
  · simp [h]
  · have e : (List.replicate n [false]).flatten = List.replicate n false := by
      clear h
      induction n with
      | zero => rfl
      | succ n ih => rw [List.replicate_succ, List.flatten_cons, ih, List.replicate_succ]; rfl
    rw [e, List.getD_eq_getElem?_getD, List.getElem?_replicate]
    constructor
    · intro h2
      split at h2 <;> cases h2
    · intro h2
      cases h2
theorem marked_turn {row pre : List Int} {marks : List Bool} {x : Int} (M : Marked row pre marks) (h0 : 0 ≤ x) (h1 : x < (row.length : Int)) : Marked row (pre ++ [x]) (marks.set x.toNat true) := by
  have := M.len
  refine ⟨by rw [List.length_set, M.len], fun j hj => ?_⟩
  rw [getD_set (by omega), M.iff j hj, List.mem_append, List.mem_singleton]
  constructor
  · rintro (h | h)
    · exact .inr (by omega)
    · exact .inl h
  · rintro (h | h)
    · exact .inr h
    · exact .inl (by omega)

/-- What the walk from the last one down knows. -/
structure Swept (row want pre : List Int) (marks : List Bool) : Prop where
  sound : Sound row
  below : Below row want
  least : ∀ x ∈ want, 0 ≤ x
  len : marks.length = row.length
  only : ∀ j : Nat, j < row.length → marks.getD j false = true → nd (nats row) (nats want) j = true
  wanted : ∀ x ∈ want, marks.getD x.toNat false = true
  past : ∀ c ∈ pre, (row.length : Int) - (pre.length : Int) ≤ c
  closed : ∀ c : Nat, (c : Int) ∈ pre → marks.getD c false = true → ∀ j : Nat, row.getD c 0 = (j : Int) + 1 → marks.getD j false = true
theorem nats_below {row want : List Int} (hb : Below row want) (h0 : ∀ x ∈ want, 0 ≤ x) : ∀ i ∈ nats want, i < (nats row).length := by
  intro i hi
  obtain ⟨x, hx, rfl⟩ := List.mem_map.mp hi
  have := hb.all x hx
  have := h0 x hx
  rw [nats_length]
  omega
theorem swept_start {row want : List Int} {marks : List Bool} (hs : Sound row) (M : Marked row want marks) (hb : Below row want) (h0 : ∀ x ∈ want, 0 ≤ x) : Swept row want [] marks := by
  refine ⟨hs, hb, h0, M.len, fun j hj hm => ?_, fun x hx => ?_, fun c hc => absurd hc List.not_mem_nil, fun c hc => absurd hc List.not_mem_nil⟩
  · exact nd_want (nats_below hb h0) (List.mem_map.mpr ⟨_, (M.iff j hj).mp hm, by simp⟩)
  · have h1 := hb.all x hx
    have h2 := h0 x hx
    refine (M.iff _ (by omega)).mpr ?_
    rw [Int.toNat_of_nonneg h2]
    exact hx
theorem swept_keep {row want pre : List Int} {marks : List Bool} {n : Int} (S : Swept row want pre marks) (hn : n = (row.length : Int) - 1 - (pre.length : Int)) (h : marks.getD n.toNat false = false ∨ ¬ 0 < row.getD n.toNat 0) : Swept row want (pre ++ [n]) marks := by
  refine ⟨S.sound, S.below, S.least, S.len, S.only, S.wanted, fun c hc => ?_, fun c hc hm j hj => ?_⟩
  · rw [List.length_append, List.length_singleton]
    rcases List.mem_append.mp hc with h1 | h1
    · have := S.past c h1
      omega
    · rw [List.mem_singleton.mp h1]
      omega
  · rcases List.mem_append.mp hc with h1 | h1
    · exact S.closed c h1 hm j hj
    · have e : n.toNat = c := by have := List.mem_singleton.mp h1; omega
      rw [e] at h
      rcases h with h | h
      · rw [h] at hm
        cases hm
      · omega
theorem swept_set {row want pre : List Int} {marks : List Bool} {n : Int} (S : Swept row want pre marks) (hn : n = (row.length : Int) - 1 - (pre.length : Int)) (h0 : 0 ≤ n) (hm : marks.getD n.toNat false = true) (hr : 0 < row.getD n.toNat 0) : Swept row want (pre ++ [n]) (marks.set (row.getD n.toNat 0 - 1).toNat true) := by
  have hle := sound_le S.sound n.toNat
  have hlen := S.len
  have hk : (row.getD n.toNat 0 - 1).toNat < marks.length := by omega
  refine ⟨S.sound, S.below, S.least, by rw [List.length_set, S.len], fun j hj h1 => ?_, fun x hx => ?_, fun c hc => ?_, fun c hc h1 j hj => ?_⟩
  · rcases (getD_set hk).mp h1 with h2 | h2
    · refine (nd_step (soundN S.sound) (nats_below S.below S.least) j).mpr (.inr ⟨n.toNat, by rw [nats_length]; omega, by rw [nats_getD]; omega, S.only _ (by omega) hm⟩)
    · exact S.only j hj h2
  · exact (getD_set hk).mpr (.inr (S.wanted x hx))
  · rw [List.length_append, List.length_singleton]
    rcases List.mem_append.mp hc with h1 | h1
    · have := S.past c h1
      omega
    · rw [List.mem_singleton.mp h1]
      omega
  · rcases List.mem_append.mp hc with h2 | h2
    · have h3 := S.past _ h2
      rcases (getD_set hk).mp h1 with h4 | h4
      · omega
      · exact (getD_set hk).mpr (.inr (S.closed c h2 h4 j hj))
    · have e : n.toNat = c := by have := List.mem_singleton.mp h2; omega
      refine (getD_set hk).mpr (.inl ?_)
      rw [e]
      omega
theorem chain_marked {row want pre : List Int} {marks : List Bool} (S : Swept row want pre marks) (all : ∀ c : Nat, c < row.length → (c : Int) ∈ pre) : ∀ i : Nat, i < row.length → marks.getD i false = true → ∀ j ∈ chain (nats row) i, marks.getD j false = true := by
  intro i
  induction i using Nat.strongRecOn with
  | _ i ih =>
    intro hi hm j hj
    have hs := soundN S.sound
    cases h : (nats row).getD i 0 with
    | zero =>
      rw [mem_chain_zero h] at hj
      rw [hj]
      exact hm
    | succ k =>
      have := sound_all hs i
      rw [mem_chain_succ hs (by rw [nats_length]; exact hi) h] at hj
      rcases hj with hj | hj
      · refine ih k (by omega) (by omega) (S.closed i (all i hi) hm k ?_) j hj
        rw [nats_getD] at h
        omega
      · rw [hj]
        exact hm
theorem swept_end {row want pre : List Int} {marks : List Bool} (S : Swept row want pre marks) (all : ∀ c : Nat, c < row.length → (c : Int) ∈ pre) (j : Nat) (hj : j < row.length) : marks.getD j false = nd (nats row) (nats want) j := by
  rw [Bool.eq_iff_iff]
  constructor
  · exact S.only j hj
  · intro h
    obtain ⟨i, hi, hl, hc⟩ := nd_iff.mp h
    obtain ⟨x, hx, rfl⟩ := List.mem_map.mp hi
    rw [nats_length] at hl
    exact chain_marked S all _ hl (S.wanted x hx) j hc
theorem needed_marks {row want pre : List Int} {marks : List Bool} (S : Swept row want pre marks) (all : ∀ c : Nat, c < row.length → (c : Int) ∈ pre) : Ks290.needed (nats row) (nats want) = (List.range row.length).filter fun j => marks.getD j false := by
  rw [needed_nd, nats_length]
  refine List.filter_congr fun j hj => ?_
  exact (swept_end S all j (List.mem_range.mp hj)).symm
end My
namespace My
open Ks290 Ks290Neutral My2
theorem fold_filter (p : Int → Bool) (acc : List Int) (n : Nat) : ((List.range n).map fun (i : Nat) => (0 : Int) + (i : Int)).foldl (fun l k => if p k = true then l ++ [k] else l) acc = acc ++ «ints» ((List.range n).filter fun j => p (j : Int)) := by
  induction n with
  | zero => simp [«ints»]
  | succ n ih =>
    rw [List.range_succ, List.map_append, List.foldl_append, ih, List.filter_append]
    simp only [List.map_cons, List.map_nil, List.foldl_cons, List.foldl_nil, Int.zero_add]
    cases h : p (n : Int)
    · simp [h]
    · simp [h, «ints»]
theorem all_down {a₀ : Int} {n c : Nat} (h0 : (c : Int) ≤ a₀) (h1 : a₀ - (n : Int) < (c : Int)) : (c : Int) ∈ (List.range n).map fun (i : Nat) => a₀ - (i : Int) :=
  List.mem_map.mpr ⟨(a₀ - (c : Int)).toNat, List.mem_range.mpr (by omega), by omega⟩
theorem needed_end {row want pre : List Int} {marks : List Bool} (S : Swept row want pre marks) (all : ∀ c : Nat, c < row.length → (c : Int) ∈ pre) (h : row.length ≤ 64) (hw : want.length ≤ 64) :
    PyKs290.needed row want = (((List.range row.length).filter fun j => marks.getD j false).length : Int) :: «ints» ((List.range row.length).filter fun j => marks.getD j false) := by
  rw [needed_is h S.sound hw (fun x hx => ⟨S.least x hx, S.below.all x hx⟩), needed_marks S all]
end My
namespace My
theorem dec_cons {c : Codec} {cs : List Codec} {d : WData} {ds : List WData} (h : (Codec.decAll (c :: cs) (d :: ds)).isSome = true) :
    (Codec.decAll [c] [d]).isSome = true ∧ (Codec.decAll cs ds).isSome = true := by
  have e : Codec.decAll (c :: cs) (d :: ds) = Codec.both Prod.mk (c.dec d) (Codec.decAll cs ds) := rfl
  have e1 : Codec.decAll [c] [d] = Codec.both Prod.mk (c.dec d) (some ()) := rfl
  rw [e] at h
  rw [e1]
  cases h1 : c.dec d with
  | none =>
    rw [h1] at h
    cases h
  | some a =>
    cases h2 : Codec.decAll cs ds with
    | none =>
      rw [h1, h2] at h
      cases h
    | some r => exact ⟨rfl, rfl⟩
theorem dec_join {c : Codec} {cs : List Codec} {d : WData} {ds : List WData} {a : c.denote} {r : Codec.denoteAll cs} (h1 : Codec.decAll [c] [d] = some (a, ())) (h2 : Codec.decAll cs ds = some r) :
    Codec.decAll (c :: cs) (d :: ds) = some (a, r) := by
  have e : Codec.decAll (c :: cs) (d :: ds) = Codec.both Prod.mk (c.dec d) (Codec.decAll cs ds) := rfl
  have e1 : Codec.decAll [c] [d] = Codec.both Prod.mk (c.dec d) (some ()) := rfl
  rw [e1] at h1
  rw [e, h2]
  cases h3 : c.dec d with
  | none =>
    rw [h3] at h1
    cases h1
  | some b =>
    rw [h3] at h1
    cases h1
    rfl
theorem dec_int {lo hi k : Int} (h : (Codec.decAll [.int lo hi] [WData.int k]).isSome = true) : Codec.decAll [.int lo hi] [WData.int k] = some (k, ()) ∧ lo ≤ k ∧ k ≤ hi := by
  have e : Codec.decAll [.int lo hi] [WData.int k] = Codec.both Prod.mk (if Codec.inInt lo hi k = true then some k else none) (some ()) := rfl
  rw [e] at h ⊢
  cases h1 : Codec.inInt lo hi k with
  | false =>
    rw [h1] at h
    cases h
  | true =>
    unfold Codec.inInt at h1
    simp only [Bool.and_eq_true, decide_eq_true_eq] at h1
    exact ⟨rfl, h1.1, h1.2⟩
theorem pre_fit {ns ms : List Int} (h : PySem.Challenge.rw_copychains_s02_needed.pre [ofPy (PyData.list (List.map PyData.int ns)), ofPy (PyData.list (List.map PyData.int ms))] = true) : ns.length ≤ 200 ∧ ms.length ≤ 200 ∧ (∀ v ∈ ns, 0 ≤ v) ∧ (∀ v ∈ ms, 0 ≤ v) := by
  obtain ⟨h1, h2⟩ := dec_cons (os_pre_isSome h)
  obtain ⟨e1, least, most, items⟩ := os_dec_ints h1
  obtain ⟨e2, least2, most2, items2⟩ := os_dec_ints h2
  exact ⟨most, most2, fun v hv => (items v hv).1, fun v hv => (items2 v hv).1⟩
end My
namespace My
abbrev belowOf {row : List Int} {q : Int × Nat → Bool} (_ : ∀ p ∈ row.zipIdx, q p = false) (pre : List Int) : Prop := Below row pre
end My
local macro_rules | `(tactic| walk_at "call builtin:len") => `(tactic| (k_here; (with_reducible show wpAny _ _ (call (Value.builtin _) [Value.ref _]) _ _ _); (with_unfolding_all refine' len_ints_fit ?k1 ?k2 ?k3 ?_; (case k1 => is_list); (case k2 => (with_reducible assumption)); (case k3 => (have hb9 := My.pre_fit (by with_reducible assumption); obtain ⟨hb1, hb2, _, _⟩ := hb9; omega)); k_whole)))
namespace My
open PyProof.Rows
section
variable {prog : Program} {w : World} {A : Around} {E : Value → Shared → Prop} {s : Shared} {env : Env} {h₀ : Heap} {x : PySem.Str} {body : List Stmt} {Q : Flow → Shared → Prop}
/-- A loop over a list that turns one list of bools, which only a cell knows. -/
theorem marks_list {l D : Addr} {ws vs : List Value} {ns : List Int} {bs : List Bool} {n : Nat} {m₀ : PySem.Str → Option Value} {rest : List (Addr × Obj)} (P : List Int → List Bool → Prop)
    (hh : A.handled = none) (hl : h₀.IsList l ws.toArray) (hi : IntsAre ws ns) (F : Fr h₀ env.locals s.heap m₀) (N : News h₀ env.locals s.heap ((D, listOf vs.toArray n) :: rest)) (hb : LSm.BoolsAre vs bs) (hp : P [] bs)
    (turn : ∀ (us : List Value) (cs : List Bool) (n' : Nat) pre post k t (u : PySem.Str → Option Value) h tk own, ns = pre ++ k :: post → k ∈ ns → OwnOff own (((D, listOf vs.toArray n) :: rest).map (·.1)) → LSm.BoolsAre us cs → us.length = cs.length → P pre cs → KstMark →
      Fr h₀ env.locals h (fun y => if y = x then some (.int k t) else if ([] : List PySem.Str).contains y then u y else m₀ y) → News h₀ env.locals h (((D, listOf us.toArray n') :: rest) ++ own) →
      wpAny (model prog w) A (execs body env) (InvPostN h₀ env.locals (KstS (σ := List Value × List Bool × Nat) (fun c => (D, listOf c.1.toArray c.2.2) :: rest) (fun _ => []) (fun c => LSm.BoolsAre c.1 c.2.1) x [] m₀ (fun pre c => P pre c.2.1) (pre ++ [k])) own (((D, listOf vs.toArray n) :: rest).map (·.1)) { s with heap := h, toks := tk } Q) E { s with heap := h, toks := tk })
    (done : ∀ (us : List Value) (cs : List Bool) (n' : Nat) (u : PySem.Str → Option Value) h tk, LSm.BoolsAre us cs → us.length = cs.length → P ns cs → KstMark → Fr h₀ env.locals h (fun y => if y = x then u y else if ([] : List PySem.Str).contains y then u y else m₀ y) → News h₀ env.locals h ((D, listOf us.toArray n') :: rest) → Q .next { s with heap := h, toks := tk }) :
    wpAny (model prog w) A (pyIter (.ref l)) (fun it s₂ => LoopAtV prog w A h₀ env x body Q E it s₂) E s :=
  kst_list (σ := List Value × List Bool × Nat) (fun c => (D, listOf c.1.toArray c.2.2) :: rest) (fun _ => []) (fun c => LSm.BoolsAre c.1 c.2.1) [] (fun pre c => P pre c.2.1) (vs, bs, n) hh hl hi F N hb (fun _ h => nomatch h) hp
    (fun c pre post k t u h tk own e m off f p F' N' => turn c.1 c.2.1 c.2.2 pre post k t u h tk own e m off f f.length p kstMark F' N')
    (fun c u h tk f p F' N' => done c.1 c.2.1 c.2.2 u h tk f f.length p kstMark F' N')
/-- A falling range that turns one list of bools, which only a cell knows. -/
theorem marks_down {r D : Addr} {a₀ b₀ : Int} {t₀ u₀ v₀ : Tok} {vs : List Value} {bs : List Bool} {n : Nat} {m₀ : PySem.Str → Option Value} {rest : List (Addr × Obj)} (P : List Int → List Bool → Prop)
    (hh : A.handled = none) (hr : IsRange s.heap r a₀ b₀ (-1) t₀ u₀ v₀) (ha : -(2 ^ 62) ≤ a₀) (ha' : a₀ < 2 ^ 62) (hb0 : -(2 ^ 62) ≤ b₀) (hb' : b₀ < 2 ^ 62) (F : Fr h₀ env.locals s.heap m₀) (N : News h₀ env.locals s.heap ((D, listOf vs.toArray n) :: rest)) (hb : LSm.BoolsAre vs bs) (hp : P [] bs)
    (turn : ∀ (us : List Value) (cs : List Bool) (n' : Nat) (pre : List Int) (k : Int) t (u : PySem.Str → Option Value) h tk own, k = a₀ - (pre.length : Int) → pre.length < (a₀ - b₀).toNat → OwnOff own (((D, listOf vs.toArray n) :: rest).map (·.1)) → LSm.BoolsAre us cs → us.length = cs.length → P pre cs → KstMark →
      Fr h₀ env.locals h (fun y => if y = x then some (.int k t) else if ([] : List PySem.Str).contains y then u y else m₀ y) → News h₀ env.locals h (((D, listOf us.toArray n') :: rest) ++ own) →
      wpAny (model prog w) A (execs body env) (InvPostN h₀ env.locals (KstS (σ := List Value × List Bool × Nat) (fun c => (D, listOf c.1.toArray c.2.2) :: rest) (fun _ => []) (fun c => LSm.BoolsAre c.1 c.2.1) x [] m₀ (fun pre c => P pre c.2.1) (pre ++ [k])) own (((D, listOf vs.toArray n) :: rest).map (·.1)) { s with heap := h, toks := tk } Q) E { s with heap := h, toks := tk })
    (done : ∀ (us : List Value) (cs : List Bool) (n' : Nat) (u : PySem.Str → Option Value) h tk, LSm.BoolsAre us cs → us.length = cs.length → P (downKs a₀ (a₀ - b₀).toNat) cs → KstMark → Fr h₀ env.locals h (fun y => if y = x then u y else if ([] : List PySem.Str).contains y then u y else m₀ y) → News h₀ env.locals h ((D, listOf us.toArray n') :: rest) → Q .next { s with heap := h, toks := tk }) :
    wpAny (model prog w) A (pyIter (.ref r)) (fun it s₂ => LoopAtV prog w A h₀ env x body Q E it s₂) E s :=
  kst_rangeD (σ := List Value × List Bool × Nat) (fun c => (D, listOf c.1.toArray c.2.2) :: rest) (fun _ => []) (fun c => LSm.BoolsAre c.1 c.2.1) [] (fun pre c => P pre c.2.1) (vs, bs, n) hh hr (small_down ha ha' hb0 hb') (rangeSize_downNat _ _) F N hb (fun _ h => nomatch h) hp
    (fun c pre k t u h tk own e m off f p F' N' => turn c.1 c.2.1 c.2.2 pre k t u h tk own e m off f f.length p kstMark F' N')
    (fun c u h tk f p F' N' => done c.1 c.2.1 c.2.2 u h tk f f.length p kstMark F' N')
end
theorem news_swap {h₀ h : Heap} {L : Addr} {p q : Addr × Obj} {rest : List (Addr × Obj)} (N : News h₀ L h (p :: q :: rest)) : News h₀ L h (q :: p :: rest) := fun z hz => N z (by
  rcases List.mem_cons.mp hz with rfl | hz
  · exact .tail _ (.head _)
  · rcases List.mem_cons.mp hz with rfl | hz
    · exact .head _
    · exact .tail _ (.tail _ hz))
end My
namespace My
open PyProof.Rows
/-- As many as there are copies, none marked. -/
structure Fresh (row : List Int) (marks : List Bool) : Prop where
  is : marks.length = row.length ∧ Marked row [] marks
abbrev markedOf {row : List Int} {marks₀ : List Bool} (_ : Fresh row marks₀) (pre : List Int) (marks : List Bool) : Prop := marks.length = row.length ∧ Marked row pre marks
abbrev sweptOf {row want : List Int} {marks₀ : List Bool} (_ : Marked row want marks₀) (pre : List Int) (marks : List Bool) : Prop := marks.length = row.length ∧ Swept row want pre marks
theorem mark_start {row : List Int} {n : Nat} (h : n = row.length) : (List.replicate n [false]).flatten.length = row.length ∧ Marked row [] (List.replicate n [false]).flatten := ⟨(marked_start h).len, marked_start h⟩
theorem mark_turn {row ns pre : List Int} {marks : List Bool} {k : Int} (M : Marked row pre marks) (hB : Below row ns) (hk : k ∈ ns) (h0 : ∀ v ∈ ns, 0 ≤ v) : (marks.set k.toNat true).length = row.length ∧ Marked row (pre ++ [k]) (marks.set k.toNat true) :=
  ⟨(marked_turn M (h0 k hk) (hB.all k hk)).len, marked_turn M (h0 k hk) (hB.all k hk)⟩
theorem sweep_start {row want : List Int} {marks : List Bool} (hz : ∀ p ∈ row.zipIdx, decide ((p.2 : Int) < p.1) = false) (M : Marked row want marks) (hb : Below row want) (h0 : ∀ x ∈ want, 0 ≤ x) : marks.length = row.length ∧ Swept row want [] marks := ⟨M.len, swept_start (sound_zip hz) M hb h0⟩
theorem sweep_keep {row want pre : List Int} {marks : List Bool} {n : Int} (S : Swept row want pre marks) (hn : n = (row.length : Int) - 1 - (pre.length : Int)) (h : marks.getD n.toNat false = false ∨ ¬ 0 < row.getD n.toNat 0) : marks.length = row.length ∧ Swept row want (pre ++ [n]) marks := ⟨S.len, swept_keep S hn h⟩
theorem sweep_set {row want pre : List Int} {marks : List Bool} {n : Int} (S : Swept row want pre marks) (hn : n = (row.length : Int) - 1 - (pre.length : Int)) (h0 : 0 ≤ n) (hm : marks.getD n.toNat false = true) (hr : 0 < row.getD n.toNat 0) : (marks.set (row.getD n.toNat 0 - 1).toNat true).length = row.length ∧ Swept row want (pre ++ [n]) (marks.set (row.getD n.toNat 0 - 1).toNat true) := ⟨(swept_set S hn h0 hm hr).len, swept_set S hn h0 hm hr⟩
section
variable {prog : Program} {w : World} {A : Around} {E : Value → Shared → Prop} {s : Shared} {h₀ : Heap} {L D : Addr} {m : PySem.Str → Option Value} {news news' : List (Addr × Obj)} {vs : List Value} {bs : List Bool} {row ns : List Int} {n : Nat} {k : Int} {t : Tok} {b : Bool} {Q : Unit → Shared → Prop}
theorem mul_row {l : Addr} {u : Tok} {Q : Value → Shared → Prop} (F : Fr h₀ L s.heap m) (N : News h₀ L s.heap news) (hl : s.heap.IsList l [Value.bool false].toArray) (hr : row.length ≤ 64)
    (h : ∀ D h' us bs, Fr h₀ L h' m → News h₀ L h' ((D, listOf us.toArray 0) :: news) → (∀ p ∈ news, p.1 < D) → LSm.BoolsAre us bs → us.length = bs.length → Fresh row bs → Q (.ref D) { s with heap := h' }) :
    wpAny (model prog w) A (binaryOp .Mult (.ref l) (.int (row.length : Int) u)) Q E s :=
  kbo_mul F N hl (bs := [false]) (.cons false .nil) (by omega) (by omega) (by simp only [List.length_cons, List.length_nil]; omega) fun D h' F' N' l1 i1 _ _ _ _ _ _ => h D h' _ _ F' N' l1 i1 i1.length ⟨mark_start (by omega)⟩
theorem set_want (F : Fr h₀ L s.heap m) (N : News h₀ L s.heap news) (U : Upd D (listOf vs.toArray n) (listOf (vs.set k.toNat (.bool b)).toArray n) news news') (hb : LSm.BoolsAre vs bs) (hB : Below row ns) (hk : k ∈ ns) (h0 : ∀ v ∈ ns, 0 ≤ v) (hl : bs.length = row.length) (hr : row.length ≤ 64)
    (h : ∀ h', Fr h₀ L h' m → News h₀ L h' news' → LSm.BoolsAre (vs.set k.toNat (.bool b)) (bs.set k.toNat b) → (bs.set k.toNat b).length = bs.length → Q () { s with heap := h' }) :
    wpAny (model prog w) A (setItem (.ref D) (.int k t) (.bool b)) Q E s := by
  have h1 := h0 k hk
  have h2 := hB.all k hk
  exact kbo_set F N U hb h1 (by omega) (by omega) h
theorem set_row {j : Int} (F : Fr h₀ L s.heap m) (N : News h₀ L s.heap news) (U : Upd D (listOf vs.toArray n) (listOf (vs.set (row.getD j.toNat 0 - 1).toNat (.bool b)).toArray n) news news') (hb : LSm.BoolsAre vs bs) (hz : ∀ p ∈ row.zipIdx, decide ((p.2 : Int) < p.1) = false) (hl : bs.length = row.length) (hp : 0 < row.getD j.toNat 0) (hj : 0 ≤ j) (hj' : j < (row.length : Int)) (hr : row.length ≤ 64)
    (h : ∀ h', Fr h₀ L h' m → News h₀ L h' news' → LSm.BoolsAre (vs.set (row.getD j.toNat 0 - 1).toNat (.bool b)) (bs.set (row.getD j.toNat 0 - 1).toNat b) → (bs.set (row.getD j.toNat 0 - 1).toNat b).length = bs.length → Q () { s with heap := h' }) :
    wpAny (model prog w) A (setItem (.ref D) (.int (row.getD j.toNat 0 - 1) t) (.bool b)) Q E s := by
  have h1 := sound_le (sound_zip hz) j.toNat
  exact kbo_set F N U hb (by omega) (by omega) (by omega) h
end
theorem end_many {row want : List Int} (_ : want.length ≤ 200) (h : 64 < (row.length : Int)) : [PyData.int (-22)] = (PyKs290.needed row want).map PyData.int := by
  rw [needed_bad (fun hh => by have := hh.1; omega)]
  rfl
theorem end_unsound {a : Int} {row want : List Int} {j : Nat} (_ : want.length ≤ 200) (h1 : row[j]? = some a) (h2 : decide ((j : Int) < a) = true) : [PyData.int (-22)] = (PyKs290.needed row want).map PyData.int := by
  obtain ⟨hj, e⟩ := List.getElem?_eq_some_iff.mp h1
  rw [needed_bad (unsound hj (by rw [List.getD_eq_getElem?_getD, h1]; exact of_decide_eq_true h2))]
  rfl
theorem end_most {row want : List Int} (hz : ∀ p ∈ row.zipIdx, decide ((p.2 : Int) < p.1) = false) (h : ¬ 64 < (row.length : Int)) (hw : 64 < (want.length : Int)) : [PyData.int (-2)] = (PyKs290.needed row want).map PyData.int := by
  rw [needed_no (by omega) (sound_zip hz) (.inl (by omega))]
  rfl
theorem end_none {row want : List Int} {x : Int} (_ : want.length ≤ 200) (hz : ∀ p ∈ row.zipIdx, decide ((p.2 : Int) < p.1) = false) (h : ¬ 64 < (row.length : Int)) (hx : x ∈ want) (hl : (row.length : Int) ≤ x) : [PyData.int (-2)] = (PyKs290.needed row want).map PyData.int := by
  rw [needed_no (by omega) (sound_zip hz) (.inr ⟨x, hx, hl⟩)]
  rfl
theorem all_in {row : List Int} {a₀ : Int} {n : Nat} (ha : a₀ = (row.length : Int) - 1) (hn : n = row.length) : ∀ c : Nat, c < row.length → (c : Int) ∈ downKs a₀ n := fun _ hc => all_down (by omega) (by omega)
theorem fold_marks (marks : List Bool) (n : Nat) : (rangeKs 0 n).foldl (fun l k => if marks.getD k.toNat false = true then l ++ [k] else if marks.getD k.toNat false = false then l else l) [] = Ks290Neutral.«ints» ((List.range n).filter fun j => marks.getD j false) := by
  have e : (fun (l : List Int) (k : Int) => if marks.getD k.toNat false = true then l ++ [k] else if marks.getD k.toNat false = false then l else l) = fun l k => if (fun (k : Int) => marks.getD k.toNat false) k = true then l ++ [k] else l := by
    funext l k
    show (if marks.getD k.toNat false = true then l ++ [k] else if marks.getD k.toNat false = false then l else l) = if marks.getD k.toNat false = true then l ++ [k] else l
    split
    · rfl
    · split <;> rfl
  rw [e]
  exact fold_filter (fun (k : Int) => marks.getD k.toNat false) [] n
theorem end_needed {row want F : List Int} {marks : List Bool} {a₀ : Int} {n : Nat} (S : Swept row want (downKs a₀ n) marks) (h : ¬ 64 < (row.length : Int)) (hw : ¬ 64 < (want.length : Int)) (ha : a₀ = (row.length : Int) - 1) (hn : n = row.length)
    (hF : F = (rangeKs 0 ((row.length : Int) - 0).toNat).foldl (fun l k => if marks.getD k.toNat false = true then l ++ [k] else if marks.getD k.toNat false = false then l else l) []) :
    ([(F.length : Int)] ++ F).map PyData.int = (PyKs290.needed row want).map PyData.int := by
  rw [fold_marks, show ((row.length : Int) - 0).toNat = row.length by omega] at hF
  rw [needed_end S (all_in ha hn) (by omega) (by omega), hF]
  unfold Ks290Neutral.«ints»
  rw [List.length_map]
  rfl
end My
local macro_rules | `(tactic| walk_at "binaryOp Mult ref int") => `(tactic| (k_here; (with_reducible show wpAny _ _ (binaryOp Operator.Mult (Value.ref _) (Value.int _ _)) _ _ _); k_dflt (refine' My.mul_row ?F ?N ?l ?z ?_; (case F => k_asm); (case N => k_asm); (case l => is_list); (case z => omega)); intro D' h' us' bs' F' N' l1' hb' hL' hf'; (try k_lt l1')))
local macro_rules | `(tactic| walk_at "setItem ref int") => `(tactic| (k_here; (with_reducible show wpAny _ _ (setItem (Value.ref _) (Value.int _ _) (Value.bool _)) _ _ _); (first
  | (k_dflt (refine' My.set_want ?F ?N ?U ?b ?B ?m ?g ?l ?r ?_; (case F => k_asm); (case N => k_asm); (case U => k_upd); (case b => (with_reducible assumption)); (case B => (with_reducible assumption)); (case m => (with_reducible assumption)); (case g => exact (My.pre_fit (by with_reducible assumption)).2.2.2); (case l => (with_reducible assumption)); (case r => omega)))
  | (k_dflt (refine' My.set_row ?F ?N ?U ?b ?B ?l ?p ?j ?g ?r ?_; (case F => k_asm); (case N => k_asm); (case U => k_upd); (case b => (with_reducible assumption)); (case B => (with_reducible assumption)); (case l => (with_reducible assumption)); (case p => omega); (case j => omega); (case g => omega); (case r => omega)))); intro h' F' N' hb' hl'; (try k_sweep)))
set_option maxRecDepth 100000 in
set_option maxHeartbeats 8000000 in
theorem PySem.Challenge.cw_copychains_s02_needed_holds : PySem.Challenge.rw_copychains_s02_needed.Holds := by
  k_with "state" => first | exact My.sweep_set (by with_reducible assumption) (by with_reducible assumption) (by omega) (by with_reducible assumption) (by with_reducible assumption) | exact My.sweep_keep (by with_reducible assumption) (by with_reducible assumption) (.inl (by with_reducible assumption)) | exact My.sweep_keep (by with_reducible assumption) (by with_reducible assumption) (.inr (by with_reducible assumption)) | exact My.below_start | exact My.below_turn (by assumption) (by assumption) | exact My.mark_turn (by assumption) (by assumption) (by assumption) (My.pre_fit (by with_reducible assumption)).2.2.2
  k_with "pyIter ref" => (rename (∀ p : Int × Nat, p ∈ List.zipIdx _ _ → _ = false) => hz; k_search (fun pre => My.belowOf hz pre))
  k_with "pyIter ref" => ((with_reducible show wpAny _ _ (pyIter (Value.ref _)) (fun it s₂ => PyProof.Rows.LoopAtV _ _ _ _ _ _ _ _ _ it s₂) _ _); k_here; (rename My.Fresh _ _ => hM0); (rename PyProof.Rows.Fr _ _ _ _ => lF'); (rename PyProof.Rows.News _ _ _ _ => lN'); (with_unfolding_all refine' My.marks_list (fun pre marks => My.markedOf hM0 pre marks) (by rfl) ?ka ?kb lF' ?kn ?kc ?kh ?kt ?kd); (case kn => (with_unfolding_all exact lN')); (case ka => (with_unfolding_all assumption)); (case kb => assumption); (case kc => assumption); (case kh => exact hM0.is); (case' kt => (clear lF' lN'; intro us' cs' n' pre' post' k' t' u' h' tk' own' kE kM kO hb' hL' hI' hM' F' N'; (obtain ⟨kl', kI'⟩ := hI'); (simp only [List.nil_append, List.cons_append] at N'); (simp only [List.map_cons, List.map_nil] at kO); (try k_fold))); (case' kd => (clear lF' lN'; intro us' cs' n' u' h' tk' hb' hL' hI' hM' F' N'; (obtain ⟨kl', kI'⟩ := hI'); (try k_fold))))
  k_with "pyIter ref" => ((with_reducible show wpAny _ _ (pyIter (Value.ref _)) (fun it s₂ => PyProof.Rows.LoopAtV _ _ _ _ _ _ _ _ _ it s₂) _ _); k_here; (rename My.Marked _ _ _ => hM0); (rename PyProof.Rows.Fr _ _ _ _ => lF'); (rename PyProof.Rows.News _ _ _ _ => lN'); (rename IsRange _ _ _ _ _ _ _ _ => rgX); (with_unfolding_all refine' My.marks_down (fun pre marks => My.sweptOf hM0 pre marks) (by rfl) (by with_unfolding_all exact rgX) ?q1 ?q2 ?q3 ?q4 lF' ?qn ?qc ?qh ?qt ?qd); (case q1 => omega); (case q2 => omega); (case q3 => omega); (case q4 => omega); (case qn => (with_unfolding_all (first | exact lN' | exact My.news_swap lN'))); (case qc => assumption); (case qh => exact My.sweep_start (by with_reducible assumption) (by with_reducible assumption) (by with_reducible assumption) (My.pre_fit (by with_reducible assumption)).2.2.2); (case' qt => (clear lF' lN'; intro us' cs' n' pre' k' t' u' h' tk' own' kE kM kO hb' hL' hI' hM' F' N'; (obtain ⟨kl', kI'⟩ := hI'); (simp only [List.nil_append, List.cons_append] at N'); (simp only [List.map_cons, List.map_nil] at kO); (try k_fold))); (case' qd => (clear lF' lN'; intro us' cs' n' u' h' tk' hb' hL' hI' hM' F' N'; (obtain ⟨kl', kI'⟩ := hI'); (try k_fold))))
  open_ks with [.list [], .list []]
  all_goals
    obtain ⟨h1, h2⟩ := My.dec_cons (os_pre_isSome hpre)
    obtain ⟨e1, least, most, items⟩ := os_dec_ints h1
    obtain ⟨e2, least2, most2, items2⟩ := os_dec_ints h2
    refine os_post (My.dec_join e1 e2) ?_
    refine os_same_list ?_
  · exact My.end_many most2 (by with_reducible assumption)
  · exact My.end_unsound most2 (by with_reducible assumption) (by with_reducible assumption)
  · exact My.end_most (by with_reducible assumption) (by with_reducible assumption) (by with_reducible assumption)
  · exact My.end_none most2 (by with_reducible assumption) (by with_reducible assumption) (by with_reducible assumption) (by with_reducible assumption)
  · exact My.end_needed (by with_reducible assumption) (by with_reducible assumption) (by with_reducible assumption) rfl (by omega) rfl
#print axioms PySem.Challenge.cw_copychains_s02_needed_holds
