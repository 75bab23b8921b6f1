import PyProof.Rows.All
import KE.OsGo
import PySem.Challenge.RW_copychains_s03_above
open PySem PySem.W
set_option Elab.async false
namespace My
open Ks290 Ks290Neutral

/-- Every copy builds only upon one before it, said over Python's own numbers. -/
def Sound (row : List Int) : Prop := ∀ j : Nat, j < row.length → row.getD j 0 ≤ (j : Int)

theorem okFrom_iff : ∀ (l : List Nat) (k : Nat), okFrom k l = true ↔ ∀ j, j < l.length → l.getD j 0 ≤ k + j
  | [], k => by simp [okFrom]
  | u :: l, k => by
    simp only [okFrom, Bool.and_eq_true, decide_eq_true_eq, okFrom_iff l (k + 1)]
    constructor
    · rintro ⟨h1, h2⟩ j hj
      cases j with
      | zero => simpa using h1
      | succ j =>
        have := h2 j (by simpa using hj)
        simp only [List.getD_cons_succ]
        omega
    · intro h
      refine ⟨by simpa using h 0 (by simp), fun j hj => ?_⟩
      have := h (j + 1) (by simpa using hj)
      simp only [List.getD_cons_succ] at this
      omega

theorem nats_getD (row : List Int) (j : Nat) : (nats row).getD j 0 = (row.getD j 0).toNat := by
  unfold nats
  rw [List.getD_eq_getElem?_getD, List.getD_eq_getElem?_getD, List.getElem?_map]
  cases row[j]? <;> rfl

theorem nats_length (row : List Int) : (nats row).length = row.length := List.length_map ..

theorem okRow_iff (row : List Int) : okRow (nats row) = true ↔ row.length ≤ 64 ∧ Sound row := by
  unfold okRow
  rw [Bool.and_eq_true, decide_eq_true_eq, okFrom_iff, nats_length]
  refine and_congr Iff.rfl ?_
  constructor
  · intro h j hj
    have := h j hj
    rw [nats_getD] at this
    omega
  · intro h j hj
    have := h j hj
    rw [nats_getD]
    omega

theorem sound_zip {row : List Int} (h : ∀ p ∈ row.zipIdx, decide ((p.2 : Int) < p.1) = false) : Sound row := by
  intro j hj
  have hm : (row[j], j) ∈ row.zipIdx := by
    rw [List.mem_zipIdx_iff_getElem?]
    simp [hj]
  have := h _ hm
  simp only [decide_eq_false_iff_not] at this
  rw [List.getD_eq_getElem?_getD, List.getElem?_eq_getElem hj]
  show row[j] ≤ _
  omega

theorem unsound {row : List Int} {j : Nat} (hj : j < row.length) (h : (j : Int) < row.getD j 0) : ¬ (row.length ≤ 64 ∧ Sound row) := fun hh => by
  have := hh.2 j hj
  omega
end My
namespace My2
open Ks290 Ks290Neutral

/-- Each number of a row is at most its place. -/
def SoundN (l : List Nat) : Prop := ∀ j, j < l.length → l.getD j 0 ≤ j

theorem sound_all {l : List Nat} (hs : SoundN l) (j : Nat) : l.getD j 0 ≤ j := by
  by_cases h : j < l.length
  · exact hs j h
  · rw [List.getD_eq_getElem?_getD, List.getElem?_eq_none (by omega)]
    exact Nat.zero_le _

theorem down_zero {l : List Nat} {n i : Nat} (h : l.getD i 0 = 0) : down l (n + 1) i = [i] := by
  conv => lhs; unfold down
  rw [h]
theorem down_succ {l : List Nat} {n i k : Nat} (h : l.getD i 0 = k + 1) : down l (n + 1) i = i :: down l n k := by
  conv => lhs; unfold down
  rw [h]

/-- Enough steps are enough. -/
theorem down_fuel {l : List Nat} (hs : SoundN l) : ∀ (n m i : Nat), i < n → i < m → down l n i = down l m i
  | 0, _, _, h, _ => by omega
  | _, 0, _, _, h => by omega
  | n + 1, m + 1, i, h1, h2 => by
    cases e : l.getD i 0 with
    | zero => rw [down_zero e, down_zero e]
    | succ k =>
      have := sound_all hs i
      rw [down_succ e, down_succ e, down_fuel hs n m k (by omega) (by omega)]

theorem chain_zero {l : List Nat} {i : Nat} (h : l.getD i 0 = 0) : chain l i = [i] := by
  unfold chain
  rw [down_zero h]
  rfl
theorem chain_succ {l : List Nat} {i k : Nat} (hs : SoundN l) (hi : i < l.length) (h : l.getD i 0 = k + 1) : chain l i = chain l k ++ [i] := by
  unfold chain
  have := sound_all hs i
  rw [down_succ h, List.reverse_cons, down_fuel hs l.length (l.length + 1) k (by omega) (by omega)]

theorem mem_chain_zero {l : List Nat} {i j : Nat} (h : l.getD i 0 = 0) : j ∈ chain l i ↔ j = i := by
  rw [chain_zero h, List.mem_singleton]
theorem mem_chain_succ {l : List Nat} {i j k : Nat} (hs : SoundN l) (hi : i < l.length) (h : l.getD i 0 = k + 1) : j ∈ chain l i ↔ j ∈ chain l k ∨ j = i := by
  rw [chain_succ hs hi h, List.mem_append, List.mem_singleton]
theorem mem_chain_self {l : List Nat} {i : Nat} : i ∈ chain l i := by
  unfold chain
  rw [List.mem_reverse]
  cases h : l.getD i 0 with
  | zero => rw [down_zero h]; exact List.mem_singleton.mpr rfl
  | succ k => rw [down_succ h]; exact List.mem_cons_self
/-- Nothing in a chain is behind its end. -/
theorem chain_le {l : List Nat} (hs : SoundN l) : ∀ (i j : Nat), j ∈ chain l i → i < l.length → j ≤ i := by
  intro i
  induction i using Nat.strongRecOn with
  | _ i ih =>
    intro j hj hi
    cases h : l.getD i 0 with
    | zero => rw [mem_chain_zero h] at hj; omega
    | succ k =>
      have := sound_all hs i
      rw [mem_chain_succ hs hi h] at hj
      rcases hj with hj | hj
      · have := ih k (by omega) j hj (by omega)
        omega
      · omega
/-- What one in a chain needs is in the chain. -/
theorem chain_trans {l : List Nat} (hs : SoundN l) : ∀ (i j k : Nat), i < l.length → j ∈ chain l i → k ∈ chain l j → k ∈ chain l i := by
  intro i
  induction i using Nat.strongRecOn with
  | _ i ih =>
    intro j k hi hj hk
    cases h : l.getD i 0 with
    | zero => rw [mem_chain_zero h] at hj; rw [hj] at hk; exact hk
    | succ u =>
      have := sound_all hs i
      rw [mem_chain_succ hs hi h] at hj ⊢
      rcases hj with hj | hj
      · exact .inl (ih u (by omega) j k (by omega) hj hk)
      · rw [hj, mem_chain_succ hs hi h] at hk; exact hk
/-- What one builds upon is in its chain. -/
theorem chain_step {l : List Nat} (hs : SoundN l) {i j u : Nat} (hi : i < l.length) (hj : j ∈ chain l i) (h : l.getD j 0 = u + 1) : u ∈ chain l i := by
  have hji := chain_le hs i j hj hi
  refine chain_trans hs i j u hi hj ?_
  rw [mem_chain_succ hs (by omega) h]
  exact .inl mem_chain_self
end My2
namespace My
open Ks290 Ks290Neutral

theorem okRow_bad {row : List Int} (h : ¬ (row.length ≤ 64 ∧ Sound row)) : okRow (nats row) = false := by
  cases h1 : okRow (nats row) with
  | false => rfl
  | true => exact absurd ((okRow_iff row).mp h1) h

theorem needed_bad {row want : List Int} (h : ¬ (row.length ≤ 64 ∧ Sound row)) : PyKs290.needed row want = [-22] := by
  have e := okRow_bad h
  show (Ks290.answer (Ks290.Call.needed (nats row) (nats want))).ret :: «ints» (Ks290.answer (Ks290.Call.needed (nats row) (nats want))).out = [-22]
  simp only [Ks290.answer, e, if_true, no]
  rfl

theorem above_bad {i : Int} {row : List Int} (h : ¬ (row.length ≤ 64 ∧ Sound row)) : PyKs290.above i row = [-22] := by
  have e := okRow_bad h
  show (Ks290.answer (Ks290.Call.above (nats row) i.toNat)).ret :: «ints» (Ks290.answer (Ks290.Call.above (nats row) i.toNat)).out = [-22]
  simp only [Ks290.answer, e, if_true, no]
  rfl

theorem above_no {i : Int} {row : List Int} (h : row.length ≤ 64) (hs : Sound row) (hi : (row.length : Int) ≤ i) : PyKs290.above i row = [-2] := by
  have e : okRow (nats row) = true := (okRow_iff row).mpr ⟨h, hs⟩
  show (Ks290.answer (Ks290.Call.above (nats row) i.toNat)).ret :: «ints» (Ks290.answer (Ks290.Call.above (nats row) i.toNat)).out = [-2]
  have hl : (nats row).length ≤ i.toNat := by rw [nats_length]; omega
  simp only [Ks290.answer, e, hl, if_true, no, Bool.true_eq_false, if_false]
  rfl

theorem above_is {i : Int} {row : List Int} (h : row.length ≤ 64) (hs : Sound row) (hi : i < (row.length : Int)) (h0 : 0 ≤ i) :
    PyKs290.above i row = ((Ks290.above (nats row) i.toNat).length : Int) :: «ints» (Ks290.above (nats row) i.toNat) := by
  have e : okRow (nats row) = true := (okRow_iff row).mpr ⟨h, hs⟩
  show (Ks290.answer (Ks290.Call.above (nats row) i.toNat)).ret :: «ints» (Ks290.answer (Ks290.Call.above (nats row) i.toNat)).out = _
  have hl : ¬ (nats row).length ≤ i.toNat := by rw [nats_length]; omega
  simp only [Ks290.answer, e, hl, Bool.true_eq_false, if_false]

theorem needed_no {row want : List Int} (h : row.length ≤ 64) (hs : Sound row) (hw : 64 < want.length ∨ ∃ x ∈ want, (row.length : Int) ≤ x) : PyKs290.needed row want = [-2] := by
  have e : okRow (nats row) = true := (okRow_iff row).mpr ⟨h, hs⟩
  show (Ks290.answer (Ks290.Call.needed (nats row) (nats want))).ret :: «ints» (Ks290.answer (Ks290.Call.needed (nats row) (nats want))).out = [-2]
  have hc : MANY < (nats want).length ∨ (nats want).any (fun i => decide ((nats row).length ≤ i)) = true := by
    rw [nats_length, nats_length]
    rcases hw with hw | ⟨x, hx, hl⟩
    · exact .inl hw
    · refine .inr (List.any_eq_true.mpr ⟨x.toNat, List.mem_map.mpr ⟨x, hx, rfl⟩, ?_⟩)
      rw [decide_eq_true_eq]
      omega
  simp only [Ks290.answer, e, Bool.true_eq_false, if_false]
  rw [if_pos hc]
  rfl

theorem needed_is {row want : List Int} (h : row.length ≤ 64) (hs : Sound row) (hw : want.length ≤ 64) (hi : ∀ x ∈ want, 0 ≤ x ∧ x < (row.length : Int)) :
    PyKs290.needed row want = ((Ks290.needed (nats row) (nats want)).length : Int) :: «ints» (Ks290.needed (nats row) (nats want)) := by
  have e : okRow (nats row) = true := (okRow_iff row).mpr ⟨h, hs⟩
  show (Ks290.answer (Ks290.Call.needed (nats row) (nats want))).ret :: «ints» (Ks290.answer (Ks290.Call.needed (nats row) (nats want))).out = _
  have hc : ¬ (MANY < (nats want).length ∨ (nats want).any (fun i => decide ((nats row).length ≤ i)) = true) := by
    rw [nats_length, nats_length]
    rintro (h1 | h1)
    · exact absurd h1 (Nat.not_lt.mpr hw)
    · obtain ⟨y, hy, hl⟩ := List.any_eq_true.mp h1
      obtain ⟨x, hx, rfl⟩ := List.mem_map.mp hy
      rw [decide_eq_true_eq] at hl
      have := hi x hx
      omega
  simp only [Ks290.answer, e, Bool.true_eq_false, if_false]
  rw [if_neg hc]

/-! What is told, rising: two lists that rise and hold the same are one. -/
theorem filter_range_int {p : Nat → Bool} {n : Nat} : «ints» ((List.range n).filter p) = ((List.range n).filter p).map fun (k : Nat) => (k : Int) := rfl
theorem filter_range_succ {p : Nat → Bool} {n : Nat} : (List.range (n + 1)).filter p = (List.range n).filter p ++ (if p n then [n] else []) := by
  rw [List.range_succ, List.filter_append]
  cases h : p n <;> simp [h]
end My
namespace My2
open Ks290 Ks290Neutral

/-- Whether j is needed by one of those wanted. -/
def nd (l want : List Nat) (j : Nat) : Bool := want.any fun i => decide (i < l.length) && (chain l i).contains j
/-- Whether j is above i. -/
def ab (l : List Nat) (i j : Nat) : Bool := j != i && (chain l j).contains i
theorem needed_nd (l want : List Nat) : needed l want = (List.range l.length).filter (nd l want) := rfl
theorem above_ab (l : List Nat) (i : Nat) : above l i = (List.range l.length).filter (ab l i) := rfl

theorem nd_iff {l want : List Nat} {j : Nat} : nd l want j = true ↔ ∃ i ∈ want, i < l.length ∧ j ∈ chain l i := by
  unfold nd
  simp only [List.any_eq_true, Bool.and_eq_true, decide_eq_true_eq, List.contains_iff_mem]
theorem ab_iff {l : List Nat} {i j : Nat} : ab l i j = true ↔ j ≠ i ∧ i ∈ chain l j := by
  unfold ab
  simp only [Bool.and_eq_true, bne_iff_ne, ne_eq, List.contains_iff_mem]

theorem ab_zero {l : List Nat} {i j : Nat} (h : l.getD j 0 = 0) : ab l i j = false := by
  cases e : ab l i j with
  | false => rfl
  | true =>
    rw [ab_iff, mem_chain_zero h] at e
    exact absurd e.2.symm e.1
theorem ab_succ {l : List Nat} {i j k : Nat} (hs : SoundN l) (hj : j < l.length) (h : l.getD j 0 = k + 1) : ab l i j = true ↔ k = i ∨ ab l i k = true := by
  have := sound_all hs j
  rw [ab_iff, ab_iff, mem_chain_succ hs hj h]
  constructor
  · rintro ⟨h1, h2 | h2⟩
    · by_cases e : k = i
      · exact .inl e
      · exact .inr ⟨e, h2⟩
    · exact absurd h2.symm h1
  · rintro (h1 | ⟨h1, h2⟩)
    · subst h1
      exact ⟨by omega, .inl mem_chain_self⟩
    · have := chain_le hs k i h2 (by omega)
      exact ⟨by omega, .inl h2⟩
/-- None at or below i is above it. -/
theorem ab_low {l : List Nat} {i j : Nat} (hs : SoundN l) (hj : j < l.length) (h : j ≤ i) : ab l i j = false := by
  cases e : ab l i j with
  | false => rfl
  | true =>
    rw [ab_iff] at e
    have := chain_le hs j i e.2 hj
    omega
/-- One in a chain, and not its end, has one of the chain upon it. -/
theorem chain_up {l : List Nat} (hs : SoundN l) : ∀ (i j : Nat), i < l.length → j ∈ chain l i → j ≠ i → ∃ c ∈ chain l i, l.getD c 0 = j + 1 := by
  intro i
  induction i using Nat.strongRecOn with
  | _ i ih =>
    intro j hi hj hne
    cases h : l.getD i 0 with
    | zero => rw [mem_chain_zero h] at hj; exact absurd hj hne
    | succ k =>
      have := sound_all hs i
      rw [mem_chain_succ hs hi h] at hj
      rcases hj with hj | hj
      · by_cases e : j = k
        · subst e
          exact ⟨i, mem_chain_self, h⟩
        · obtain ⟨c, hc, hu⟩ := ih k (by omega) j (by omega) hj e
          exact ⟨c, (mem_chain_succ hs hi h).mpr (.inl hc), hu⟩
      · exact absurd hj hne
/-- Needed: wanted, or one that is needed builds upon it. -/
theorem nd_step {l want : List Nat} (hs : SoundN l) (hw : ∀ i ∈ want, i < l.length) (j : Nat) : nd l want j = true ↔ j ∈ want ∨ ∃ c, c < l.length ∧ l.getD c 0 = j + 1 ∧ nd l want c = true := by
  simp only [nd_iff]
  constructor
  · rintro ⟨i, hi, hl, hj⟩
    by_cases e : j = i
    · subst e
      exact .inl hi
    · obtain ⟨c, hc, hu⟩ := chain_up hs i j hl hj e
      exact .inr ⟨c, by have := chain_le hs i c hc hl; omega, hu, i, hi, hl, hc⟩
  · rintro (hj | ⟨c, hc, hu, i, hi, hl, hci⟩)
    · exact ⟨j, hj, hw j hj, mem_chain_self⟩
    · exact ⟨i, hi, hl, chain_step hs hl hci hu⟩
theorem nd_want {l want : List Nat} {j : Nat} (hw : ∀ i ∈ want, i < l.length) (h : j ∈ want) : nd l want j = true := nd_iff.mpr ⟨j, h, hw j h, mem_chain_self⟩
theorem nd_append {l want more : List Nat} {j : Nat} : nd l (want ++ more) j = (nd l want j || nd l more j) := by
  unfold nd
  exact List.any_append
theorem nd_nil {l : List Nat} {j : Nat} : nd l [] j = false := rfl
theorem nd_one {l : List Nat} {i j : Nat} (hi : i < l.length) : nd l [i] j = true ↔ j ∈ chain l i := by
  rw [nd_iff]
  constructor
  · rintro ⟨k, hk, _, h⟩
    rw [List.mem_singleton.mp hk] at h
    exact h
  · intro h
    exact ⟨i, List.mem_singleton.mpr rfl, hi, h⟩
end My2
namespace My
open Ks290 Ks290Neutral My2

theorem soundN {row : List Int} (hs : Sound row) : SoundN (nats row) := by
  intro j hj
  rw [nats_length] at hj
  have := hs j hj
  rw [nats_getD]
  omega
theorem sound_le {row : List Int} (hs : Sound row) (j : Nat) : row.getD j 0 ≤ (j : Int) := by
  by_cases h : j < row.length
  · exact hs j h
  · rw [List.getD_eq_getElem?_getD, List.getElem?_eq_none (by omega)]
    exact Int.natCast_nonneg j
theorem getD_set {bs : List Bool} {k j : Nat} (hk : k < bs.length) : (bs.set k true).getD j false = true ↔ j = k ∨ bs.getD j false = true := by
  rw [List.getD_eq_getElem?_getD, List.getD_eq_getElem?_getD, List.getElem?_set]
  by_cases e : k = j
  · subst e
    simp [hk]
  · have : ¬ j = k := fun h => e h.symm
    simp [e, this]

/-- Each is below a row's length. -/
structure Below (row pre : List Int) : Prop where
  all : ∀ v ∈ pre, v < (row.length : Int)
theorem below_start {row : List Int} : Below row [] := ⟨fun v hv => absurd hv List.not_mem_nil⟩
theorem below_turn {row pre : List Int} {x : Int} (h : Below row pre) (hx : ¬ (row.length : Int) ≤ x) : Below row (pre ++ [x]) := ⟨fun v hv => by
  rcases List.mem_append.mp hv with h1 | h1
  · exact h.all v h1
  · rw [List.mem_singleton.mp h1]
    omega⟩

/-- Marked are just those of pre. -/
structure Marked (row pre : List Int) (marks : List Bool) : Prop where
  len : marks.length = row.length
  iff : ∀ j : Nat, j < row.length → (marks.getD j false = true ↔ (j : Int) ∈ pre)
theorem marked_start {row : List Int} {n : Nat} (h : n = row.length) : Marked row [] (List.replicate n [false]).flatten := by
  refine ⟨?_, fun j hj => ?_⟩
  · simp [h]
  · have e : (List.replicate n [false]).flatten = List.replicate n false := by
      clear h
      induction n with
      | zero => rfl
      | succ n ih => rw [List.replicate_succ, List.flatten_cons, ih, List.replicate_succ]; rfl
    rw [e, List.getD_eq_getElem?_getD, List.getElem?_replicate]
    constructor
    · intro h2
      split at h2 <;> cases h2
    · intro h2
      cases h2
theorem marked_turn {row pre : List Int} {marks : List Bool} {x : Int} (M : Marked row pre marks) (h0 : 0 ≤ x) (h1 : x < (row.length : Int)) : Marked row (pre ++ [x]) (marks.set x.toNat true) := by
  have := M.len
  refine ⟨by rw [List.length_set, M.len], fun j hj => ?_⟩
  rw [getD_set (by omega), M.iff j hj, List.mem_append, List.mem_singleton]
  constructor
  · rintro (h | h)
    · exact .inr (by omega)
    · exact .inl h
  · rintro (h | h)
    · exact .inr h
    · exact .inl (by omega)

/-- What the walk from the last one down knows. -/
structure Swept (row want pre : List Int) (marks : List Bool) : Prop where
  sound : Sound row
  below : Below row want
  least : ∀ x ∈ want, 0 ≤ x
  len : marks.length = row.length
  only : ∀ j : Nat, j < row.length → marks.getD j false = true → nd (nats row) (nats want) j = true
  wanted : ∀ x ∈ want, marks.getD x.toNat false = true
  past : ∀ c ∈ pre, (row.length : Int) - (pre.length : Int) ≤ c
  closed : ∀ c : Nat, (c : Int) ∈ pre → marks.getD c false = true → ∀ j : Nat, row.getD c 0 = (j : Int) + 1 → marks.getD j false = true
theorem nats_below {row want : List Int} (hb : Below row want) (h0 : ∀ x ∈ want, 0 ≤ x) : ∀ i ∈ nats want, i < (nats row).length := by
  intro i hi
  obtain ⟨x, hx, rfl⟩ := List.mem_map.mp hi
  have := hb.all x hx
  have := h0 x hx
  rw [nats_length]
  omega
theorem swept_start {row want : List Int} {marks : List Bool} (hs : Sound row) (M : Marked row want marks) (hb : Below row want) (h0 : ∀ x ∈ want, 0 ≤ x) : Swept row want [] marks := by
  refine ⟨hs, hb, h0, M.len, fun j hj hm => ?_, fun x hx => ?_, fun c hc => absurd hc List.not_mem_nil, fun c hc => absurd hc List.not_mem_nil⟩
  · exact nd_want (nats_below hb h0) (List.mem_map.mpr ⟨_, (M.iff j hj).mp hm, by simp⟩)
  · have h1 := hb.all x hx
    have h2 := h0 x hx
    refine (M.iff _ (by omega)).mpr ?_
    rw [Int.toNat_of_nonneg h2]
    exact hx
theorem swept_keep {row want pre : List Int} {marks : List Bool} {n : Int} (S : Swept row want pre marks) (hn : n = (row.length : Int) - 1 - (pre.length : Int)) (h : marks.getD n.toNat false = false ∨ ¬ 0 < row.getD n.toNat 0) : Swept row want (pre ++ [n]) marks := by
  refine ⟨S.sound, S.below, S.least, S.len, S.only, S.wanted, fun c hc => ?_, fun c hc hm j hj => ?_⟩
  · rw [List.length_append, List.length_singleton]
    rcases List.mem_append.mp hc with h1 | h1
    · have := S.past c h1
      omega
    · rw [List.mem_singleton.mp h1]
      omega
  · rcases List.mem_append.mp hc with h1 | h1
    · exact S.closed c h1 hm j hj
    · have e : n.toNat = c := by have := List.mem_singleton.mp h1; omega
      rw [e] at h
      rcases h with h | h
      · rw [h] at hm
        cases hm
      · omega
theorem swept_set {row want pre : List Int} {marks : List Bool} {n : Int} (S : Swept row want pre marks) (hn : n = (row.length : Int) - 1 - (pre.length : Int)) (h0 : 0 ≤ n) (hm : marks.getD n.toNat false = true) (hr : 0 < row.getD n.toNat 0) : Swept row want (pre ++ [n]) (marks.set (row.getD n.toNat 0 - 1).toNat true) := by
  have hle := sound_le S.sound n.toNat
  have hlen := S.len
  have hk : (row.getD n.toNat 0 - 1).toNat < marks.length := by omega
  refine ⟨S.sound, S.below, S.least, by rw [List.length_set, S.len], fun j hj h1 => ?_, fun x hx => ?_, fun c hc => ?_, fun c hc h1 j hj => ?_⟩
  · rcases (getD_set hk).mp h1 with h2 | h2
    · refine (nd_step (soundN S.sound) (nats_below S.below S.least) j).mpr (.inr ⟨n.toNat, by rw [nats_length]; omega, by rw [nats_getD]; omega, S.only _ (by omega) hm⟩)
    · exact S.only j hj h2
  · exact (getD_set hk).mpr (.inr (S.wanted x hx))
  · rw [List.length_append, List.length_singleton]
    rcases List.mem_append.mp hc with h1 | h1
    · have := S.past c h1
      omega
    · rw [List.mem_singleton.mp h1]
      omega
  · rcases List.mem_append.mp hc with h2 | h2
    · have h3 := S.past _ h2
      rcases (getD_set hk).mp h1 with h4 | h4
      · omega
      · exact (getD_set hk).mpr (.inr (S.closed c h2 h4 j hj))
    · have e : n.toNat = c := by have := List.mem_singleton.mp h2; omega
      refine (getD_set hk).mpr (.inl ?_)
      rw [e]
      omega
theorem chain_marked {row want pre : List Int} {marks : List Bool} (S : Swept row want pre marks) (all : ∀ c : Nat, c < row.length → (c : Int) ∈ pre) : ∀ i : Nat, i < row.length → marks.getD i false = true → ∀ j ∈ chain (nats row) i, marks.getD j false = true := by
  intro i
  induction i using Nat.strongRecOn with
  | _ i ih =>
    intro hi hm j hj
    have hs := soundN S.sound
    cases h : (nats row).getD i 0 with
    | zero =>
      rw [mem_chain_zero h] at hj
      rw [hj]
      exact hm
    | succ k =>
      have := sound_all hs i
      rw [mem_chain_succ hs (by rw [nats_length]; exact hi) h] at hj
      rcases hj with hj | hj
      · refine ih k (by omega) (by omega) (S.closed i (all i hi) hm k ?_) j hj
        rw [nats_getD] at h
        omega
      · rw [hj]
        exact hm
theorem swept_end {row want pre : List Int} {marks : List Bool} (S : Swept row want pre marks) (all : ∀ c : Nat, c < row.length → (c : Int) ∈ pre) (j : Nat) (hj : j < row.length) : marks.getD j false = nd (nats row) (nats want) j := by
  rw [Bool.eq_iff_iff]
  constructor
  · exact S.only j hj
  · intro h
    obtain ⟨i, hi, hl, hc⟩ := nd_iff.mp h
    obtain ⟨x, hx, rfl⟩ := List.mem_map.mp hi
    rw [nats_length] at hl
    exact chain_marked S all _ hl (S.wanted x hx) j hc
theorem needed_marks {row want pre : List Int} {marks : List Bool} (S : Swept row want pre marks) (all : ∀ c : Nat, c < row.length → (c : Int) ∈ pre) : Ks290.needed (nats row) (nats want) = (List.range row.length).filter fun j => marks.getD j false := by
  rw [needed_nd, nats_length]
  refine List.filter_congr fun j hj => ?_
  exact (swept_end S all j (List.mem_range.mp hj)).symm
end My
namespace My
open Ks290 Ks290Neutral My2
theorem fold_filter (p : Int → Bool) (acc : List Int) (n : Nat) : ((List.range n).map fun (i : Nat) => (0 : Int) + (i : Int)).foldl (fun l k => if p k = true then l ++ [k] else l) acc = acc ++ «ints» ((List.range n).filter fun j => p (j : Int)) := by
  induction n with
  | zero => simp [«ints»]
  | succ n ih =>
    rw [List.range_succ, List.map_append, List.foldl_append, ih, List.filter_append]
    simp only [List.map_cons, List.map_nil, List.foldl_cons, List.foldl_nil, Int.zero_add]
    cases h : p (n : Int)
    · simp [h]
    · simp [h, «ints»]
theorem all_down {a₀ : Int} {n c : Nat} (h0 : (c : Int) ≤ a₀) (h1 : a₀ - (n : Int) < (c : Int)) : (c : Int) ∈ (List.range n).map fun (i : Nat) => a₀ - (i : Int) :=
  List.mem_map.mpr ⟨(a₀ - (c : Int)).toNat, List.mem_range.mpr (by omega), by omega⟩
theorem needed_end {row want pre : List Int} {marks : List Bool} (S : Swept row want pre marks) (all : ∀ c : Nat, c < row.length → (c : Int) ∈ pre) (h : row.length ≤ 64) (hw : want.length ≤ 64) :
    PyKs290.needed row want = (((List.range row.length).filter fun j => marks.getD j false).length : Int) :: «ints» ((List.range row.length).filter fun j => marks.getD j false) := by
  rw [needed_is h S.sound hw (fun x hx => ⟨S.least x hx, S.below.all x hx⟩), needed_marks S all]
end My
namespace My
open Ks290 Ks290Neutral My2

/-- Below k, marked are just those that are above i; i itself too, if own. -/
structure Risen (own : Bool) (row : List Int) (i k : Int) (marks : List Bool) : Prop where
  sound : Sound row
  i0 : 0 ≤ i
  i1 : i < (row.length : Int)
  len : marks.length = row.length
  iff : ∀ j : Nat, j < row.length → (marks.getD j false = true ↔ (j : Int) < k ∧ (own = true ∧ (j : Int) = i ∨ ab (nats row) i.toNat j = true))
theorem ab_none {row : List Int} {i : Int} {j : Nat} (hs : Sound row) (hj : j < row.length) (h : (j : Int) ≤ i) : ab (nats row) i.toNat j = false :=
  ab_low (soundN hs) (by rw [nats_length]; exact hj) (by omega)
/-- None marked yet. -/
theorem risen_none {row : List Int} {i k : Int} {marks : List Bool} (hs : Sound row) (i0 : 0 ≤ i) (i1 : i < (row.length : Int)) (hk : k ≤ i + 1) (M : Marked row [] marks) : Risen false row i k marks := by
  refine ⟨hs, i0, i1, M.len, fun j hj => ?_⟩
  rw [M.iff j hj]
  constructor
  · intro h
    cases h
  · rintro ⟨h1, h2 | h2⟩
    · cases h2.1
    · rw [ab_none hs hj (by omega)] at h2
      cases h2
/-- i alone marked. -/
theorem risen_one {row : List Int} {i k : Int} {marks : List Bool} (hs : Sound row) (i0 : 0 ≤ i) (i1 : i < (row.length : Int)) (hk : k = i + 1) (M : Marked row [] marks) : Risen true row i k (marks.set i.toNat true) := by
  have hl := M.len
  refine ⟨hs, i0, i1, by rw [List.length_set, M.len], fun j hj => ?_⟩
  rw [getD_set (by omega), M.iff j hj]
  constructor
  · rintro (h | h)
    · exact ⟨by omega, .inl ⟨rfl, by omega⟩⟩
    · cases h
  · rintro ⟨h1, h2 | h2⟩
    · exact .inl (by omega)
    · rw [ab_none hs hj (by omega)] at h2
      cases h2
/-- What the test asks of one behind i. -/
theorem risen_test {own : Bool} {row : List Int} {i k : Int} {marks : List Bool} (R : Risen own row i k marks) (h0 : 0 ≤ k) (h1 : k < (row.length : Int)) :
    ab (nats row) i.toNat k.toNat = true ↔ 0 < row.getD k.toNat 0 ∧ (row.getD k.toNat 0 - 1 = i ∨ marks.getD (row.getD k.toNat 0 - 1).toNat false = true) := by
  have hle := sound_le R.sound k.toNat
  have i0 := R.i0
  have hn := nats_getD row k.toNat
  have hl := nats_length row
  cases h : (nats row).getD k.toNat 0 with
  | zero =>
    rw [ab_zero h]
    constructor
    · intro h2; cases h2
    · rintro ⟨h2, _⟩
      omega
  | succ m =>
    have hm : row.getD k.toNat 0 - 1 = (m : Int) := by omega
    have hm2 : (row.getD k.toNat 0 - 1).toNat = m := by omega
    rw [ab_succ (soundN R.sound) (by omega) h, hm2, hm, R.iff m (by omega)]
    constructor
    · rintro (h2 | h2)
      · exact ⟨by omega, .inl (by omega)⟩
      · exact ⟨by omega, .inr ⟨by omega, .inr h2⟩⟩
    · rintro ⟨_, h2 | ⟨_, h2 | h2⟩⟩
      · exact .inl (by omega)
      · exact .inl (by omega)
      · exact .inr h2
theorem risen_set {own : Bool} {row : List Int} {i k : Int} {marks : List Bool} (R : Risen own row i k marks) (h0 : 0 ≤ k) (h1 : k < (row.length : Int)) (h : ab (nats row) i.toNat k.toNat = true) : Risen own row i (k + 1) (marks.set k.toNat true) := by
  have hl := R.len
  refine ⟨R.sound, R.i0, R.i1, by rw [List.length_set, R.len], fun j hj => ?_⟩
  rw [getD_set (by omega), R.iff j hj]
  constructor
  · rintro (h2 | h2)
    · subst h2
      exact ⟨by omega, .inr h⟩
    · exact ⟨by omega, h2.2⟩
  · rintro ⟨h2, h3⟩
    by_cases e : j = k.toNat
    · exact .inl e
    · exact .inr ⟨by omega, h3⟩
theorem risen_keep {own : Bool} {row : List Int} {i k : Int} {marks : List Bool} (R : Risen own row i k marks) (h0 : 0 ≤ k) (hi : own = true → k ≠ i) (h : ab (nats row) i.toNat k.toNat = false) : Risen own row i (k + 1) marks := by
  refine ⟨R.sound, R.i0, R.i1, R.len, fun j hj => ?_⟩
  rw [R.iff j hj]
  constructor
  · exact fun h2 => ⟨by omega, h2.2⟩
  · rintro ⟨h2, h3⟩
    refine ⟨?_, h3⟩
    by_cases e : (j : Int) = k
    · rcases h3 with h3 | h3
      · exact absurd (e.symm.trans h3.2) (hi h3.1)
      · rw [show j = k.toNat by omega, h] at h3
        cases h3
    · omega
theorem risen_end {own : Bool} {row : List Int} {i k : Int} {marks : List Bool} (R : Risen own row i k marks) (hk : (row.length : Int) ≤ k) (j : Nat) (hj : j < row.length) (hi : own = true → (j : Int) ≠ i) : marks.getD j false = ab (nats row) i.toNat j := by
  rw [Bool.eq_iff_iff, R.iff j hj]
  constructor
  · rintro ⟨_, h | h⟩
    · exact absurd h.2 (hi h.1)
    · exact h
  · exact fun h => ⟨by omega, .inr h⟩
/-- Numbers that a loop has told: those above i, below k. -/
theorem told_set {l : List Nat} {i k : Nat} (h : ab l i k = true) : «ints» ((List.range (k + 1)).filter (ab l i)) = «ints» ((List.range k).filter (ab l i)) ++ [(k : Int)] := by
  rw [filter_range_succ, if_pos h]
  unfold «ints»
  rw [List.map_append]
  rfl
theorem told_keep {l : List Nat} {i k : Nat} (h : ab l i k = false) : «ints» ((List.range (k + 1)).filter (ab l i)) = «ints» ((List.range k).filter (ab l i)) := by
  rw [filter_range_succ, if_neg (by rw [h]; exact Bool.false_ne_true), List.append_nil]
theorem told_low {row : List Int} {i : Int} {k : Nat} (hs : Sound row) (hk : (k : Int) ≤ i + 1) (hl : k ≤ row.length) : (List.range k).filter (ab (nats row) i.toNat) = [] := by
  rw [List.filter_eq_nil_iff]
  intro j hj
  have := List.mem_range.mp hj
  rw [ab_none hs (by omega) (by omega)]
  exact Bool.false_ne_true
theorem above_told {i : Int} {row : List Int} (h : row.length ≤ 64) (hs : Sound row) (hi : i < (row.length : Int)) (h0 : 0 ≤ i) :
    PyKs290.above i row = ((«ints» ((List.range row.length).filter (ab (nats row) i.toNat))).length : Int) :: «ints» ((List.range row.length).filter (ab (nats row) i.toNat)) := by
  rw [above_is h hs hi h0, above_ab, nats_length]
  unfold «ints»
  rw [List.length_map]
end My
namespace My
theorem dec_cons {c : Codec} {cs : List Codec} {d : WData} {ds : List WData} (h : (Codec.decAll (c :: cs) (d :: ds)).isSome = true) :
    (Codec.decAll [c] [d]).isSome = true ∧ (Codec.decAll cs ds).isSome = true := by
  have e : Codec.decAll (c :: cs) (d :: ds) = Codec.both Prod.mk (c.dec d) (Codec.decAll cs ds) := rfl
  have e1 : Codec.decAll [c] [d] = Codec.both Prod.mk (c.dec d) (some ()) := rfl
  rw [e] at h
  rw [e1]
  cases h1 : c.dec d with
  | none =>
    rw [h1] at h
    cases h
  | some a =>
    cases h2 : Codec.decAll cs ds with
    | none =>
      rw [h1, h2] at h
      cases h
    | some r => exact ⟨rfl, rfl⟩
theorem dec_join {c : Codec} {cs : List Codec} {d : WData} {ds : List WData} {a : c.denote} {r : Codec.denoteAll cs} (h1 : Codec.decAll [c] [d] = some (a, ())) (h2 : Codec.decAll cs ds = some r) :
    Codec.decAll (c :: cs) (d :: ds) = some (a, r) := by
  have e : Codec.decAll (c :: cs) (d :: ds) = Codec.both Prod.mk (c.dec d) (Codec.decAll cs ds) := rfl
  have e1 : Codec.decAll [c] [d] = Codec.both Prod.mk (c.dec d) (some ()) := rfl
  rw [e1] at h1
  rw [e, h2]
  cases h3 : c.dec d with
  | none =>
    rw [h3] at h1
    cases h1
  | some b =>
    rw [h3] at h1
    cases h1
    rfl
theorem dec_int {lo hi k : Int} (h : (Codec.decAll [.int lo hi] [WData.int k]).isSome = true) : Codec.decAll [.int lo hi] [WData.int k] = some (k, ()) ∧ lo ≤ k ∧ k ≤ hi := by
  have e : Codec.decAll [.int lo hi] [WData.int k] = Codec.both Prod.mk (if Codec.inInt lo hi k = true then some k else none) (some ()) := rfl
  rw [e] at h ⊢
  cases h1 : Codec.inInt lo hi k with
  | false =>
    rw [h1] at h
    cases h
  | true =>
    unfold Codec.inInt at h1
    simp only [Bool.and_eq_true, decide_eq_true_eq] at h1
    exact ⟨rfl, h1.1, h1.2⟩
theorem pre_i {k : Int} {d : WData} (h : PySem.Challenge.rw_copychains_s03_above.pre [WData.int k, d] = true) : 0 ≤ k := by
  obtain ⟨h1, _⟩ := dec_cons (os_pre_isSome h)
  exact (dec_int h1).2.1
end My
namespace My
open PyProof.Rows
section
variable {prog : Program} {w : World} {A : Around} {E : Value → Shared → Prop} {s : Shared} {env : Env} {h₀ : Heap} {x : PySem.Str} {body : List Stmt} {Q : Flow → Shared → Prop}
/-- A rising range that turns one list of bools, which only a cell knows. -/
theorem marks_up {r D : Addr} {a₀ b₀ : Int} {t₀ u₀ v₀ : Tok} {vs : List Value} {bs : List Bool} {n : Nat} {m₀ : PySem.Str → Option Value} {rest : List (Addr × Obj)} (P : List Int → List Bool → Prop)
    (hh : A.handled = none) (hr : IsRange s.heap r a₀ b₀ 1 t₀ u₀ v₀) (ha : -(2 ^ 62) ≤ a₀) (ha' : a₀ < 2 ^ 62) (hb0 : -(2 ^ 62) ≤ b₀) (hb' : b₀ < 2 ^ 62) (F : Fr h₀ env.locals s.heap m₀) (N : News h₀ env.locals s.heap ((D, listOf vs.toArray n) :: rest)) (hb : LSm.BoolsAre vs bs) (hp : P [] bs)
    (turn : ∀ (us : List Value) (cs : List Bool) (n' : Nat) (pre : List Int) (k : Int) t (u : PySem.Str → Option Value) h tk own, k = a₀ + (pre.length : Int) → pre.length < (b₀ - a₀).toNat → OwnOff own (((D, listOf vs.toArray n) :: rest).map (·.1)) → LSm.BoolsAre us cs → us.length = cs.length → P pre cs → KstMark →
      Fr h₀ env.locals h (fun y => if y = x then some (.int k t) else if ([] : List PySem.Str).contains y then u y else m₀ y) → News h₀ env.locals h (((D, listOf us.toArray n') :: rest) ++ own) →
      wpAny (model prog w) A (execs body env) (InvPostN h₀ env.locals (KstS (σ := List Value × List Bool × Nat) (fun c => (D, listOf c.1.toArray c.2.2) :: rest) (fun _ => []) (fun c => LSm.BoolsAre c.1 c.2.1) x [] m₀ (fun pre c => P pre c.2.1) (pre ++ [k])) own (((D, listOf vs.toArray n) :: rest).map (·.1)) { s with heap := h, toks := tk } Q) E { s with heap := h, toks := tk })
    (done : ∀ (us : List Value) (cs : List Bool) (n' : Nat) (u : PySem.Str → Option Value) h tk, LSm.BoolsAre us cs → us.length = cs.length → P (rangeKs a₀ (b₀ - a₀).toNat) cs → KstMark → Fr h₀ env.locals h (fun y => if y = x then u y else if ([] : List PySem.Str).contains y then u y else m₀ y) → News h₀ env.locals h ((D, listOf us.toArray n') :: rest) → Q .next { s with heap := h, toks := tk }) :
    wpAny (model prog w) A (pyIter (.ref r)) (fun it s₂ => LoopAtV prog w A h₀ env x body Q E it s₂) E s :=
  kst_range (σ := List Value × List Bool × Nat) (fun c => (D, listOf c.1.toArray c.2.2) :: rest) (fun _ => []) (fun c => LSm.BoolsAre c.1 c.2.1) [] (fun pre c => P pre c.2.1) (vs, bs, n) hh hr (small_one ha ha' hb0 hb') (rangeSize_nat _ _) F N hb (fun _ h => nomatch h) hp
    (fun c pre k t u h tk own e m off f p F' N' => turn c.1 c.2.1 c.2.2 pre k t u h tk own e m off f f.length p kstMark F' N')
    (fun c u h tk f p F' N' => done c.1 c.2.1 c.2.2 u h tk f f.length p kstMark F' N')
end
/-- As many as there are copies, none marked. -/
structure Fresh (row : List Int) (marks : List Bool) : Prop where
  is : marks.length = row.length ∧ Marked row [] marks
abbrev risenOf {row : List Int} {i k : Int} {marks₀ : List Bool} (_ : Risen true row i k marks₀) (pre : List Int) (marks : List Bool) : Prop := marks.length = row.length ∧ Risen true row i (i + 1 + (pre.length : Int)) marks
theorem rise_start {row : List Int} {i : Int} {marks : List Bool} (R : Risen true row i (i + 1) marks) : marks.length = row.length ∧ Risen true row i (i + 1 + (([] : List Int).length : Int)) marks := ⟨R.len, by rw [List.length_nil, show (i + 1 + ((0 : Nat) : Int)) = i + 1 by omega]; exact R⟩
theorem rise_set {row pre : List Int} {i k : Int} {marks : List Bool} (R : Risen true row i (i + 1 + (pre.length : Int)) marks) (hk : k = i + 1 + (pre.length : Int)) (h1 : k < (row.length : Int)) (hr : 0 < row.getD k.toNat 0) (hm : marks.getD (row.getD k.toNat 0 - 1).toNat false = true) :
    (marks.set k.toNat true).length = row.length ∧ Risen true row i (i + 1 + ((pre ++ [k]).length : Int)) (marks.set k.toNat true) := by
  rw [← hk] at R
  have i0 := R.i0
  have S := risen_set R (by omega) h1 ((risen_test R (by omega) h1).mpr ⟨hr, .inr hm⟩)
  refine ⟨S.len, ?_⟩
  rw [List.length_append, List.length_singleton, show (i + 1 + ((pre.length + 1 : Nat) : Int)) = k + 1 by omega]
  exact S
theorem rise_keep {row pre : List Int} {i k : Int} {marks : List Bool} (R : Risen true row i (i + 1 + (pre.length : Int)) marks) (hk : k = i + 1 + (pre.length : Int)) (h1 : k < (row.length : Int)) (h : ¬ 0 < row.getD k.toNat 0 ∨ marks.getD (row.getD k.toNat 0 - 1).toNat false = false) :
    marks.length = row.length ∧ Risen true row i (i + 1 + ((pre ++ [k]).length : Int)) marks := by
  rw [← hk] at R
  have i0 := R.i0
  have hf : My2.ab (Ks290Neutral.nats row) i.toNat k.toNat = false := by
    cases e : My2.ab (Ks290Neutral.nats row) i.toNat k.toNat with
    | false => rfl
    | true =>
      obtain ⟨h2, h3⟩ := (risen_test R (by omega) h1).mp e
      rcases h with h | h
      · exact absurd h2 h
      · rcases h3 with h3 | h3
        · have hm := (R.iff i.toNat (by have := R.i1; omega)).mpr ⟨by omega, .inl ⟨rfl, by omega⟩⟩
          rw [h3, hm] at h
          cases h
        · rw [h] at h3
          cases h3
  refine ⟨R.len, ?_⟩
  rw [List.length_append, List.length_singleton, show (i + 1 + ((pre.length + 1 : Nat) : Int)) = k + 1 by omega]
  exact risen_keep R (by omega) (fun _ => by omega) hf
section
variable {prog : Program} {w : World} {A : Around} {E : Value → Shared → Prop} {s : Shared} {h₀ : Heap} {L D : Addr} {m : PySem.Str → Option Value} {news news' : List (Addr × Obj)} {vs : List Value} {bs : List Bool} {row ns : List Int} {n : Nat} {k : Int} {t : Tok} {b : Bool}
theorem mul_row {l : Addr} {u : Tok} {Q : Value → Shared → Prop} (F : Fr h₀ L s.heap m) (N : News h₀ L s.heap news) (hl : s.heap.IsList l [Value.bool false].toArray) (hr : row.length ≤ 64)
    (h : ∀ D h' us bs, Fr h₀ L h' m → News h₀ L h' ((D, listOf us.toArray 0) :: news) → (∀ p ∈ news, p.1 < D) → LSm.BoolsAre us bs → us.length = bs.length → Fresh row bs → Q (.ref D) { s with heap := h' }) :
    wpAny (model prog w) A (binaryOp .Mult (.ref l) (.int (row.length : Int) u)) Q E s :=
  kbo_mul F N hl (bs := [false]) (.cons false .nil) (by omega) (by omega) (by simp only [List.length_cons, List.length_nil]; omega) fun D h' F' N' l1 i1 _ _ _ _ _ _ => h D h' _ _ F' N' l1 i1 i1.length ⟨(marked_start (by omega)).len, marked_start (by omega)⟩
theorem set_i {news' : List Value → List (Addr × Obj)} {Q : Unit → Shared → Prop} (F : Fr h₀ L s.heap m) (N : News h₀ L s.heap news) (U : ∀ us : List Value, Upd D (listOf vs.toArray n) (listOf us.toArray n) news (news' us)) (hb : LSm.BoolsAre vs bs) (hf : Fresh row bs) (hz : ∀ p ∈ row.zipIdx, decide ((p.2 : Int) < p.1) = false) (h0 : 0 ≤ k) (hk : ¬ (row.length : Int) ≤ k) (hr : row.length ≤ 64)
    (h : ∀ h' us cs, Fr h₀ L h' m → News h₀ L h' (news' us) → LSm.BoolsAre us cs → us.length = cs.length → Risen true row k (k + 1) cs → Q () { s with heap := h' }) :
    wpAny (model prog w) A (setItem (.ref D) (.int k t) (.bool true)) Q E s := by
  have h1 := hf.is.1
  exact kbo_set F N (U _) hb h0 (by omega) (by omega) fun h' F' N' b' _ => h h' _ _ F' N' b' b'.length (risen_one (sound_zip hz) h0 (by omega) rfl hf.is.2)
theorem get_row {value slice : PySem.Expr} {j : Int} {Q : Value → Shared → Prop} (N : News h₀ L s.heap news) (hm : (D, listOf vs.toArray n) ∈ news) (hb : LSm.BoolsAre vs bs) (hz : ∀ p ∈ row.zipIdx, decide ((p.2 : Int) < p.1) = false) (hl : bs.length = row.length) (hp : 0 < row.getD j.toNat 0) (hj : 0 ≤ j) (hj' : j < (row.length : Int)) (hr : row.length ≤ 64) (h : Q (.bool (bs.getD (row.getD j.toNat 0 - 1).toNat false)) s)
    (hs : subscripted slice false (.ref D) (.int (row.getD j.toNat 0 - 1) t) = operate [.ref D, .int (row.getD j.toNat 0 - 1) t] (getItem (.ref D) (.int (row.getD j.toNat 0 - 1) t)) := by with_unfolding_all rfl) :
    wpAny (model prog w) A (subscriptTail value slice (.ref D) (.int (row.getD j.toNat 0 - 1) t)) Q E s := by
  have h1 := sound_le (sound_zip hz) j.toNat
  exact kbo_sub N hm hb (by omega) (by omega) (by omega) h hs
end
end My
local macro_rules | `(tactic| walk_at "binaryOp Mult ref int") => `(tactic| (k_here; (with_reducible show wpAny _ _ (binaryOp Operator.Mult (Value.ref _) (Value.int _ _)) _ _ _); k_dflt (refine' My.mul_row ?F ?N ?l ?z ?_; (case F => k_asm); (case N => k_asm); (case l => is_list); (case z => omega)); intro D' h' us' bs' F' N' l1' hb' hL' hf'; (try k_lt l1')))
local macro_rules | `(tactic| walk_at "setItem ref int") => `(tactic| (k_here; (with_reducible show wpAny _ _ (setItem (Value.ref _) (Value.int _ _) (Value.bool _)) _ _ _); k_dflt (refine' My.set_i ?F ?N ?U ?b ?f ?z ?g ?k ?r ?_; (case F => k_asm); (case N => k_asm); (case U => (intro us'; k_upd)); (case b => (with_reducible assumption)); (case f => (with_reducible assumption)); (case z => (with_reducible assumption)); (case g => exact My.pre_i (by with_reducible assumption)); (case k => (with_reducible assumption)); (case r => omega)); intro h' us' cs' F' N' hb' hl' hR'; (try k_sweep)))
local macro_rules | `(tactic| walk_at "subscriptTail") => `(tactic| (k_here; (with_reducible show wpAny _ _ (PyProof.Rows.subscriptTail _ _ (Value.ref _) (Value.int ((List.getD (_ : List Int) _ (0 : Int)) - (1 : Int)) _)) _ _ _); k_dflt (refine' My.get_row ?N ?m ?b ?z ?l ?p ?j ?g ?r ?_ ?s; (case N => k_asm); (case m => k_mem); (case b => (with_reducible assumption)); (case z => (with_reducible assumption)); (case l => (with_reducible assumption)); (case p => omega); (case j => omega); (case g => omega); (case r => omega); (case s => with_unfolding_all rfl); k_whole)))
local macro_rules | `(tactic| walk_at "InvEndN") => `(tactic| ((rename PyProof.Rows.News _ _ _ _ => nE'); (refine kst_end ⟨_, _, _⟩ (by assumption) nE' (by kst_in) (by intro p hp; (with_unfolding_all exact List.Mem.tail _ (List.Mem.tail _ (List.Mem.tail _ hp)))) (by first | (with_reducible rfl) | (with_unfolding_all rfl)) (by kst_facts) (by kst_all) (by kst_same) (by kst_p))))
local macro_rules | `(tactic| walk_at "CompSrcT") => `(tactic| (k_here; k_dflt (refine PyProof.Rows.LCt.CompSrcT.range (by rfl) (by k_asm) (by k_asm) (by assumption) (by exact small_one (by omega) (by omega) (by omega) (by omega)) (by exact PyProof.Rows.rangeSize_nat _ _) (by rw [PySem.sizeLine_eq]; omega) ?_; intro g'; (refine' kci_range _ (fun k' t' I' oI' C' oC' D' m' ys' l' h' tk' E' hlo' hhi' hI' hC' hx' F' N' off' ne' => ?_) ?_ ?_); (all_goals (try (simp only [PyProof.Rows.LCg.Off3, and_true] at off'))); (all_goals (try ((show KPfMark → _); intro hMark'))); kcf_last)))
namespace My
open Ks290 Ks290Neutral My2
theorem fold_any (p : Int → Bool) : ∀ (ks acc : List Int), ks.foldl (fun l k => if p k = true then l ++ [k] else l) acc = acc ++ ks.filter p
  | [], acc => by simp
  | k :: ks, acc => by
    rw [List.foldl_cons, fold_any p ks, List.filter_cons]
    cases p k <;> simp
theorem rise_told {row : List Int} {i k : Int} {marks : List Bool} {n : Nat} (R : Risen true row i k marks) (hk : (row.length : Int) ≤ k) (hn : (n : Int) = (row.length : Int) - (i + 1)) :
    ((List.range n).map fun (j : Nat) => i + 1 + (j : Int)).filter (fun k => marks.getD k.toNat false) = «ints» ((List.range row.length).filter (ab (nats row) i.toNat)) := by
  have i0 := R.i0
  have e : row.length = (i + 1).toNat + n := by omega
  rw [e, List.range_add, List.filter_append, told_low R.sound (by omega) (by omega), List.nil_append]
  unfold «ints»
  rw [List.filter_map, List.filter_map, List.map_map]
  have h1 : (List.range n).filter ((fun (k : Int) => marks.getD k.toNat false) ∘ fun (j : Nat) => i + 1 + (j : Int)) = (List.range n).filter (ab (nats row) i.toNat ∘ fun x => (i + 1).toNat + x) := by
    refine List.filter_congr fun j hj => ?_
    have := List.mem_range.mp hj
    show marks.getD (i + 1 + (j : Int)).toNat false = ab (nats row) i.toNat ((i + 1).toNat + j)
    rw [show (i + 1 + (j : Int)).toNat = (i + 1).toNat + j by omega]
    exact risen_end R hk _ (by omega) (fun _ => by omega)
  rw [h1]
  refine List.map_congr_left fun j _ => ?_
  show i + 1 + (j : Int) = Int.ofNat ((i + 1).toNat + j)
  simp only [Int.ofNat_eq_natCast]
  omega
end My

namespace My
open PyProof.Rows
theorem end_many {i : Int} {row : List Int} (_ : 0 ≤ i) (h : 64 < (row.length : Int)) : [PyData.int (-22)] = (PyKs290.above i row).map PyData.int := by
  rw [above_bad (fun hh => by have := hh.1; omega)]
  rfl
theorem end_unsound {i a : Int} {row : List Int} {j : Nat} (_ : 0 ≤ i) (h1 : row[j]? = some a) (h2 : decide ((j : Int) < a) = true) : [PyData.int (-22)] = (PyKs290.above i row).map PyData.int := by
  obtain ⟨hj, e⟩ := List.getElem?_eq_some_iff.mp h1
  rw [above_bad (unsound hj (by rw [List.getD_eq_getElem?_getD, h1]; exact of_decide_eq_true h2))]
  rfl
theorem end_none {i : Int} {row : List Int} (hz : ∀ p ∈ row.zipIdx, decide ((p.2 : Int) < p.1) = false) (h : ¬ 64 < (row.length : Int)) (hi : (row.length : Int) ≤ i) : [PyData.int (-2)] = (PyKs290.above i row).map PyData.int := by
  rw [above_no (by omega) (sound_zip hz) hi]
  rfl
theorem end_above {i k : Int} {row F : List Int} {marks : List Bool} (R : Risen true row i k marks) (h : ¬ 64 < (row.length : Int)) (hk : (row.length : Int) ≤ k)
    (hF : F = (rangeKs (i + 1) ((row.length : Int) - (i + 1)).toNat).foldl (fun l k => if marks.getD k.toNat false = true then l ++ [k] else if marks.getD k.toNat false = false then l else l) []) :
    ([(F.length : Int)] ++ F).map PyData.int = (PyKs290.above i row).map PyData.int := by
  have i0 := R.i0
  have i1 := R.i1
  have e : (fun (l : List Int) (k : Int) => if marks.getD k.toNat false = true then l ++ [k] else if marks.getD k.toNat false = false then l else l) = fun l k => if (fun (k : Int) => marks.getD k.toNat false) k = true then l ++ [k] else l := by
    funext l k
    show (if marks.getD k.toNat false = true then l ++ [k] else if marks.getD k.toNat false = false then l else l) = if marks.getD k.toNat false = true then l ++ [k] else l
    split
    · rfl
    · split <;> rfl
  rw [e, fold_any (fun (k : Int) => marks.getD k.toNat false), List.nil_append] at hF
  have e2 := rise_told (n := ((row.length : Int) - (i + 1)).toNat) R hk (by omega)
  rw [above_told (by omega) R.sound i1 i0, hF]
  show ([(((rangeKs (i + 1) ((row.length : Int) - (i + 1)).toNat).filter _).length : Int)] ++ (rangeKs (i + 1) ((row.length : Int) - (i + 1)).toNat).filter _).map PyData.int = _
  unfold rangeKs
  rw [e2]
  rfl
end My
set_option maxRecDepth 100000 in
set_option maxHeartbeats 8000000 in
theorem PySem.Challenge.cw_copychains_s03_above_holds : PySem.Challenge.rw_copychains_s03_above.Holds := by
  k_with "state" => first | exact My.rise_set (by with_reducible assumption) (by with_reducible assumption) (by omega) (by with_reducible assumption) (by with_reducible assumption) | exact My.rise_keep (by with_reducible assumption) (by with_reducible assumption) (by omega) (.inl (by with_reducible assumption)) | exact My.rise_keep (by with_reducible assumption) (by with_reducible assumption) (by omega) (.inr (by with_reducible assumption))
  k_with "pyIter ref" => ((with_reducible show wpAny _ _ (pyIter (Value.ref _)) (fun it s₂ => PyProof.Rows.LoopAtV _ _ _ _ _ _ _ _ _ it s₂) _ _); k_here; (rename My.Risen _ _ _ _ _ => hR0); (rename PyProof.Rows.Fr _ _ _ _ => lF'); (rename PyProof.Rows.News _ _ _ _ => lN'); (rename IsRange _ _ _ _ _ _ _ _ => rgX); (with_unfolding_all refine' My.marks_up (fun pre marks => My.risenOf hR0 pre marks) (by rfl) (by with_unfolding_all exact rgX) ?q1 ?q2 ?q3 ?q4 lF' ?qn ?qc ?qh ?qt ?qd); (case q1 => (have hb9 := My.pre_i (by with_reducible assumption); omega)); (case q2 => omega); (case q3 => omega); (case q4 => omega); (case qn => (with_unfolding_all (exact lN'))); (case qc => assumption); (case qh => exact My.rise_start hR0); (case' qt => (clear lF' lN'; intro us' cs' n' pre' k' t' u' h' tk' own' kE kM kO hb' hL' hI' hM' F' N'; (obtain ⟨kl', kI'⟩ := hI'); (simp only [List.nil_append, List.cons_append] at N'); (simp only [List.map_cons, List.map_nil] at kO); (have kP := My.pre_i (by with_reducible assumption)); (try k_fold))); (case' qd => (clear lF' lN'; intro us' cs' n' u' h' tk' hb' hL' hI' hM' F' N'; (obtain ⟨kl', kI'⟩ := hI'); (have kP := My.pre_i (by with_reducible assumption)); (try k_fold))))
  open_ks with [.int 0, .list []]
  all_goals
    obtain ⟨h1, h2⟩ := My.dec_cons (os_pre_isSome hpre)
    obtain ⟨e1, lo, hi⟩ := My.dec_int h1
    obtain ⟨e2, least, most, items⟩ := os_dec_ints h2
    refine os_post (My.dec_join e1 e2) ?_
    refine os_same_list ?_
  · exact My.end_many lo (by with_reducible assumption)
  · exact My.end_unsound lo (by with_reducible assumption) (by with_reducible assumption)
  · exact My.end_none (by with_reducible assumption) (by with_reducible assumption) (by with_reducible assumption)
  · exact My.end_above (by with_reducible assumption) (by with_reducible assumption) (by rw [rangeKs_length]; dsimp only; omega) rfl
#print axioms PySem.Challenge.cw_copychains_s03_above_holds
