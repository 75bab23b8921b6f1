import PyProof.Rows.All
import KE.OsGo
import PySem.Challenge.RW_copychains_s01_chain
open PySem PySem.W
set_option Elab.async false
namespace My
open Ks290 Ks290Neutral

/-- Every copy builds only upon one before it, said over Python's own numbers. -/
def Sound (row : List Int) : Prop := ∀ j : Nat, j < row.length → row.getD j 0 ≤ (j : Int)

theorem okFrom_iff : ∀ (l : List Nat) (k : Nat), okFrom k l = true ↔ ∀ j, j < l.length → l.getD j 0 ≤ k + j
  | [], k => by simp [okFrom]
  | u :: l, k => by
    simp only [okFrom, Bool.and_eq_true, decide_eq_true_eq, okFrom_iff l (k + 1)]
    constructor
    · rintro ⟨h1, h2⟩ j hj
      cases j with
      | zero => simpa using h1
      | succ j =>
        have := h2 j (by simpa using hj)
        simp only [List.getD_cons_succ]
        omega
    · intro h
      refine ⟨by simpa using h 0 (by simp), fun j hj => ?_⟩
      have := h (j + 1) (by simpa using hj)
      simp only [List.getD_cons_succ] at this
      omega

theorem nats_getD (row : List Int) (j : Nat) : (nats row).getD j 0 = (row.getD j 0).toNat := by
  unfold nats
  rw [List.getD_eq_getElem?_getD, List.getD_eq_getElem?_getD, List.getElem?_map]
  cases row[j]? <;> rfl

theorem nats_length (row : List Int) : (nats row).length = row.length := List.length_map ..

theorem okRow_iff (row : List Int) : okRow (nats row) = true ↔ row.length ≤ 64 ∧ Sound row := by
  unfold okRow
  rw [Bool.and_eq_true, decide_eq_true_eq, okFrom_iff, nats_length]
  refine and_congr Iff.rfl ?_
  constructor
  · intro h j hj
    have := h j hj
    rw [nats_getD] at this
    omega
  · intro h j hj
    have := h j hj
    rw [nats_getD]
    omega

theorem chain_bad {i : Int} {row : List Int} (h : ¬ (row.length ≤ 64 ∧ Sound row)) : PyKs290.chain i row = [-22] := by
  have e : okRow (nats row) = false := by
    cases h1 : okRow (nats row) with
    | false => rfl
    | true => exact absurd ((okRow_iff row).mp h1) h
  show (Ks290.answer (Ks290.Call.chain (nats row) i.toNat)).ret :: «ints» (Ks290.answer (Ks290.Call.chain (nats row) i.toNat)).out = [-22]
  simp only [Ks290.answer, e, if_true, no]
  rfl

theorem chain_no {i : Int} {row : List Int} (h : row.length ≤ 64) (hs : Sound row) (hi : (row.length : Int) ≤ i) : PyKs290.chain i row = [-2] := by
  have e : okRow (nats row) = true := (okRow_iff row).mpr ⟨h, hs⟩
  show (Ks290.answer (Ks290.Call.chain (nats row) i.toNat)).ret :: «ints» (Ks290.answer (Ks290.Call.chain (nats row) i.toNat)).out = [-2]
  have hl : (nats row).length ≤ i.toNat := by rw [nats_length]; omega
  simp only [Ks290.answer, e, hl, if_true, no, Bool.true_eq_false, if_false]
  rfl

theorem chain_is {i : Int} {row : List Int} (h : row.length ≤ 64) (hs : Sound row) (hi : i < (row.length : Int)) (h0 : 0 ≤ i) :
    PyKs290.chain i row = ((down (nats row) (row.length + 1) i.toNat).length : Int) :: («ints» (down (nats row) (row.length + 1) i.toNat)).reverse := by
  have e : okRow (nats row) = true := (okRow_iff row).mpr ⟨h, hs⟩
  show (Ks290.answer (Ks290.Call.chain (nats row) i.toNat)).ret :: «ints» (Ks290.answer (Ks290.Call.chain (nats row) i.toNat)).out = _
  have hl : ¬ (nats row).length ≤ i.toNat := by rw [nats_length]; omega
  simp only [Ks290.answer, e, hl, Bool.true_eq_false, if_false]
  unfold Ks290.chain «ints»
  rw [nats_length, List.length_reverse, List.map_reverse]

/-- What stands between two turns: what has been walked, and what is still to walk from at_. -/
structure Told (row links : List Int) (i at_ : Int) : Prop where
  eq : ∃ (pre : List Int) (fuel : Nat), links = pre ++ [at_] ∧ at_.toNat < fuel ∧
    «ints» (down (nats row) (row.length + 1) i.toNat) = pre ++ «ints» (down (nats row) fuel at_.toNat)

theorem told_start {row : List Int} {i : Int} (h : i < (row.length : Int)) : Told row [i] i i :=
  ⟨[], row.length + 1, rfl, by omega, rfl⟩

theorem told_turn {row links : List Int} {i a : Int} (hs : Sound row) (T : Told row links i a) (h0 : 0 ≤ a) (h1 : a < (row.length : Int))
    (h2 : 0 < row.getD a.toNat 0) : Told row (links ++ [row.getD a.toNat 0 - 1]) i (row.getD a.toNat 0 - 1) := by
  obtain ⟨pre, fuel, e1, e2, e3⟩ := T.eq
  cases fuel with
  | zero => omega
  | succ fuel =>
    have hle := hs a.toNat (by omega)
    refine ⟨links, fuel, rfl, by omega, ?_⟩
    rw [e3, e1]
    have e4 : (nats row).getD a.toNat 0 = (row.getD a.toNat 0 - 1).toNat + 1 := by rw [nats_getD]; omega
    have e5 : down (nats row) (fuel + 1) a.toNat = a.toNat :: down (nats row) fuel (row.getD a.toNat 0 - 1).toNat := by
      conv => lhs; unfold down
      rw [e4]
    rw [e5]
    show pre ++ (Int.ofNat a.toNat :: «ints» _) = _
    have e6 : Int.ofNat a.toNat = a := by simp; omega
    rw [e6, List.append_assoc]
    rfl

theorem told_end {row links : List Int} {i a : Int} (T : Told row links i a) (h0 : 0 ≤ a) (h2 : ¬ 0 < row.getD a.toNat 0) :
    «ints» (down (nats row) (row.length + 1) i.toNat) = links := by
  obtain ⟨pre, fuel, e1, e2, e3⟩ := T.eq
  cases fuel with
  | zero => omega
  | succ fuel =>
    rw [e3, e1]
    have e4 : (nats row).getD a.toNat 0 = 0 := by rw [nats_getD]; omega
    have e5 : down (nats row) (fuel + 1) a.toNat = [a.toNat] := by
      conv => lhs; unfold down
      rw [e4]
    rw [e5]
    have e6 : Int.ofNat a.toNat = a := by simp; omega
    show pre ++ [Int.ofNat a.toNat] = _
    rw [e6]

theorem chain_end {row links : List Int} {i a : Int} (h : row.length ≤ 64) (hs : Sound row) (hi : i < (row.length : Int)) (hi0 : 0 ≤ i)
    (T : Told row links i a) (h0 : 0 ≤ a) (h2 : ¬ 0 < row.getD a.toNat 0) : PyKs290.chain i row = (links.length : Int) :: links.reverse := by
  rw [chain_is h hs hi hi0]
  have e := told_end T h0 h2
  have el : (down (nats row) (row.length + 1) i.toNat).length = links.length := by
    rw [← e]
    unfold «ints»
    rw [List.length_map]
  rw [e, el]

theorem sound_zip {row : List Int} (h : ∀ p ∈ row.zipIdx, decide ((p.2 : Int) < p.1) = false) : Sound row := by
  intro j hj
  have hm : (row[j], j) ∈ row.zipIdx := by
    rw [List.mem_zipIdx_iff_getElem?]
    simp [hj]
  have := h _ hm
  simp only [decide_eq_false_iff_not] at this
  rw [List.getD_eq_getElem?_getD, List.getElem?_eq_getElem hj]
  show row[j] ≤ _
  omega

theorem unsound {row : List Int} {j : Nat} (hj : j < row.length) (h : (j : Int) < row.getD j 0) : ¬ (row.length ≤ 64 ∧ Sound row) := fun hh => by
  have := hh.2 j hj
  omega
end My
namespace My
open PyProof.Rows
/-- What the walk down knows, besides plain bounds. -/
structure Wk (row : List Int) (i at_ : Int) (links : List Int) : Prop where
  sound : Sound row
  told : Told row links i at_
theorem wk_start {row : List Int} {i : Int} (h : ∀ p ∈ row.zipIdx, decide ((p.2 : Int) < p.1) = false) (h0 : 0 ≤ i) (h1 : i < (row.length : Int)) :
    0 ≤ i ∧ i < (row.length : Int) ∧ (([i] : List Int).length : Int) + i ≤ (row.length : Int) ∧ Wk row i i [i] :=
  ⟨h0, h1, by simp only [List.length_singleton]; omega, ⟨sound_zip h, told_start h1⟩⟩
theorem wk_turn {row links : List Int} {i a : Int} (W : Wk row i a links) (h0 : 0 ≤ a) (h1 : a < (row.length : Int)) (hl : (links.length : Int) + a ≤ (row.length : Int)) (h2 : 0 < row.getD a.toNat 0) :
    0 ≤ row.getD a.toNat 0 - 1 ∧ row.getD a.toNat 0 - 1 < (row.length : Int) ∧ ((links ++ [row.getD a.toNat 0 - 1]).length : Int) + (row.getD a.toNat 0 - 1) ≤ (row.length : Int) ∧ Wk row i (row.getD a.toNat 0 - 1) (links ++ [row.getD a.toNat 0 - 1]) := by
  have hle := W.sound a.toNat (by omega)
  refine ⟨by omega, by omega, ?_, ⟨W.sound, told_turn W.sound W.told h0 h1 h2⟩⟩
  rw [List.length_append, List.length_singleton]
  omega
theorem wk_less {row links : List Int} {i a : Int} (W : Wk row i a links) (h0 : 0 ≤ a) (h1 : a < (row.length : Int)) (h2 : 0 < row.getD a.toNat 0) : (row.getD a.toNat 0 - 1).toNat < a.toNat := by
  have hle := W.sound a.toNat (by omega)
  omega
theorem step_rev {prog : Program} {w : World} {A : Around} {E : Value → Shared → Prop} {s : Shared} {h₀ : Heap} {L D : Addr} {m : PySem.Str → Option Value} {news : List (Addr × Obj)} {news' : List Value → List (Addr × Obj)} {vs : List Value} {n : Nat} {ns : List Int} {Q : Value → Shared → Prop}
    (F : Fr h₀ L s.heap m) (N : News h₀ L s.heap news) (hi : IntsAre vs ns) (U : ∀ us : List Value, Upd D (listOf vs.toArray n) (listOf us.toArray n) news (news' us)) (hz : ns.length ≤ sizeLine)
    (h : ∀ (us : List Value) (rs : List Int) h', Fr h₀ L h' m → News h₀ L h' (news' us) → IntsAre us rs → rs.length = ns.length → rs = ns.reverse → Q .none { s with heap := h' }) :
    wpAny (model prog w) A (call (.builtin "list.reverse") [.ref D]) Q E s :=
  kl_reverse F N (l := vs.reverse) (by simp) (U _) (by rw [← hi.length] at hz; simpa using hz) (fun h' F' N' => h _ _ h' F' N' hi.reverse List.length_reverse rfl)
end My
namespace My
open PyProof.Rows
theorem end_many {i : Int} {row : List Int} (_ : 0 ≤ i) (h : 64 < (row.length : Int)) : [PyData.int (-22)] = (PyKs290.chain i row).map PyData.int := by
  rw [chain_bad (fun hh => by have := hh.1; omega)]
  rfl
theorem end_unsound {i a : Int} {row : List Int} {j : Nat} (_ : 0 ≤ i) (h1 : row[j]? = some a) (h2 : decide ((j : Int) < a) = true) : [PyData.int (-22)] = (PyKs290.chain i row).map PyData.int := by
  obtain ⟨hj, e⟩ := List.getElem?_eq_some_iff.mp h1
  rw [chain_bad (unsound hj (by rw [List.getD_eq_getElem?_getD, h1]; exact of_decide_eq_true h2))]
  rfl
theorem end_none {i : Int} {row : List Int} (h : ¬ 64 < (row.length : Int)) (hz : ∀ p ∈ row.zipIdx, decide ((p.2 : Int) < p.1) = false) (hi : (row.length : Int) ≤ i) : [PyData.int (-2)] = (PyKs290.chain i row).map PyData.int := by
  rw [chain_no (by omega) (sound_zip hz) hi]
  rfl
theorem end_chain {i a : Int} {row links rs : List Int} (W : Wk row i a links) (h2 : ¬ 0 < row.getD a.toNat 0) (er : rs = links.reverse) (el : rs.length = links.length) (h : ¬ 64 < (row.length : Int)) (hi : ¬ (row.length : Int) ≤ i) (hi0 : 0 ≤ i) (h0 : 0 ≤ a) :
    ([(rs.length : Int)] ++ rs).map PyData.int = (PyKs290.chain i row).map PyData.int := by
  rw [chain_end (by omega) W.sound (by omega) hi0 W.told h0 h2, el, er]
  rfl
end My
namespace My
theorem dec_cons {c : Codec} {cs : List Codec} {d : WData} {ds : List WData} (h : (Codec.decAll (c :: cs) (d :: ds)).isSome = true) :
    (Codec.decAll [c] [d]).isSome = true ∧ (Codec.decAll cs ds).isSome = true := by
  have e : Codec.decAll (c :: cs) (d :: ds) = Codec.both Prod.mk (c.dec d) (Codec.decAll cs ds) := rfl
  have e1 : Codec.decAll [c] [d] = Codec.both Prod.mk (c.dec d) (some ()) := rfl
  rw [e] at h
  rw [e1]
  cases h1 : c.dec d with
  | none =>
    rw [h1] at h
    cases h
  | some a =>
    cases h2 : Codec.decAll cs ds with
    | none =>
      rw [h1, h2] at h
      cases h
    | some r => exact ⟨rfl, rfl⟩
theorem dec_join {c : Codec} {cs : List Codec} {d : WData} {ds : List WData} {a : c.denote} {r : Codec.denoteAll cs} (h1 : Codec.decAll [c] [d] = some (a, ())) (h2 : Codec.decAll cs ds = some r) :
    Codec.decAll (c :: cs) (d :: ds) = some (a, r) := by
  have e : Codec.decAll (c :: cs) (d :: ds) = Codec.both Prod.mk (c.dec d) (Codec.decAll cs ds) := rfl
  have e1 : Codec.decAll [c] [d] = Codec.both Prod.mk (c.dec d) (some ()) := rfl
  rw [e1] at h1
  rw [e, h2]
  cases h3 : c.dec d with
  | none =>
    rw [h3] at h1
    cases h1
  | some b =>
    rw [h3] at h1
    cases h1
    rfl
theorem dec_int {lo hi k : Int} (h : (Codec.decAll [.int lo hi] [WData.int k]).isSome = true) : Codec.decAll [.int lo hi] [WData.int k] = some (k, ()) ∧ lo ≤ k ∧ k ≤ hi := by
  have e : Codec.decAll [.int lo hi] [WData.int k] = Codec.both Prod.mk (if Codec.inInt lo hi k = true then some k else none) (some ()) := rfl
  rw [e] at h ⊢
  cases h1 : Codec.inInt lo hi k with
  | false =>
    rw [h1] at h
    cases h
  | true =>
    unfold Codec.inInt at h1
    simp only [Bool.and_eq_true, decide_eq_true_eq] at h1
    exact ⟨rfl, h1.1, h1.2⟩
theorem pre_i {k : Int} {d : WData} (h : PySem.Challenge.rw_copychains_s01_chain.pre [WData.int k, d] = true) : 0 ≤ k := by
  obtain ⟨h1, _⟩ := dec_cons (os_pre_isSome h)
  exact (dec_int h1).2.1
end My
local macro_rules | `(tactic| walk_at "call builtin:list.reverse") => `(tactic| (k_here; (with_reducible show wpAny _ _ (call (Value.builtin _) [Value.ref _]) _ _ _); k_dflt (refine' My.step_rev ?F ?N ?i ?U ?z ?_; (case F => k_asm); (case N => k_asm); (case U => (intro us'; k_upd)); (case i => l_ints); (case z => (simp only [sizeLine_eq]; omega))); intro us' rs' h' F' N' hI' hL' hR'; (try k_sweep)))
example : Int → List Int → Int → List Int → Prop := fun i row a links => 0 ≤ a ∧ a < (row.length : Int) ∧ (links.length : Int) + a ≤ (row.length : Int) ∧ My.Wk row i a links
set_option maxRecDepth 100000 in
set_option maxHeartbeats 8000000 in
theorem PySem.Challenge.cw_copychains_s01_chain_holds : PySem.Challenge.rw_copychains_s01_chain.Holds := by
  k_with "state" => first | exact My.wk_start (by assumption) (My.pre_i (by assumption)) (by omega) | exact My.wk_turn (by assumption) (by omega) (by omega) (by omega) (by omega)
  k_with "measure" => exact My.wk_less (by assumption) (by omega) (by omega) (by omega)
  k_with "exec While Compare cons nil" => k_while_given ["i"] (fun i row a links => 0 ≤ a ∧ a < (row.length : Int) ∧ (links.length : Int) + a ≤ (row.length : Int) ∧ My.Wk row i a links) (fun _ _ a _ => a.toNat) "at" "links"
  open_ks with [.int 0, .list []]
  all_goals
    obtain ⟨h1, h2⟩ := My.dec_cons (os_pre_isSome hpre)
    obtain ⟨e1, lo, hi⟩ := My.dec_int h1
    obtain ⟨e2, least, most, items⟩ := os_dec_ints h2
    refine os_post (My.dec_join e1 e2) ?_
    refine os_same_list ?_
  · exact My.end_many lo (by assumption)
  · exact My.end_unsound lo (by assumption) (by assumption)
  · exact My.end_none (by assumption) (by assumption) (by assumption)
  · exact My.end_chain (by assumption) (by assumption) (by assumption) (by assumption) (by assumption) (by assumption) lo (by assumption)
#print axioms PySem.Challenge.cw_copychains_s01_chain_holds
