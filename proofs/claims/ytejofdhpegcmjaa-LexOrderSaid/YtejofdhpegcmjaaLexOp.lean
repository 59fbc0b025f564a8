/- Tokens in order: plain Lean. -/
import Derived.Test.YtejofdhpegcmjaaLexLv
namespace Go.Proofs.Ytejofdhpegcmjaa
open Go.RowKit

/-- Tokens from a place on, in order. -/
inductive OrdL (s : List UInt8) : Nat → List Tp → Prop
  | last (k j : Nat) (hk : k ≤ j) (hj : j ≤ s.length) : OrdL s k [(0, [], j)]
  | cons (k j k' : Nat) (K : Int) (S : List UInt8) (r : List Tp) (hk : k ≤ j) (hK : K ≠ 0) (hj : j + 1 ≤ k') (hl : j ≤ s.length) (hS : K ≠ 3 → K ≠ 4 → S.length ≤ s.length - j ∧ (s.drop j).take S.length = S) (hr : OrdL s k' r) : OrdL s k ((K, S, j) :: r)
theorem OrdL.ne {s : List UInt8} {k : Nat} {l : List Tp} (h : OrdL s k l) : l ≠ [] := by cases h <;> simp
theorem OrdL.low {s : List UInt8} {k : Nat} {l : List Tp} (h : OrdL s k l) : ∀ i (hi : i < l.length), k ≤ l[i].2.2 := by
  induction h with
  | last k j hk hj =>
    intro i hi
    have : i = 0 := by simp at hi; omega
    subst this
    exact hk
  | cons k j k' K S r hk hK hj hl hS hr ih =>
    intro i hi
    cases i with
    | zero => exact hk
    | succ i =>
      have hi' : i < r.length := by simpa using hi
      have := ih i hi'
      show k ≤ r[i].2.2
      omega
theorem OrdL.get {s : List UInt8} {k : Nat} {l : List Tp} (h : OrdL s k l) : ∀ i (hi : i < l.length), l[i].2.2 ≤ s.length ∧ (l[i].1 = 0 ↔ i + 1 = l.length) ∧ (l[i].1 ≠ 3 → l[i].1 ≠ 4 → l[i].2.1.length ≤ s.length - l[i].2.2 ∧ (s.drop l[i].2.2).take l[i].2.1.length = l[i].2.1) := by
  induction h with
  | last k j hk hj =>
    intro i hi
    have : i = 0 := by simp at hi; omega
    subst this
    exact ⟨hj, by simp, fun _ _ => ⟨Nat.zero_le _, rfl⟩⟩
  | cons k j k' K S r hk hK hj hl hS hr ih =>
    intro i hi
    cases i with
    | zero =>
      refine ⟨hl, ?_, hS⟩
      have := List.length_pos_iff.2 hr.ne
      constructor
      · intro h; exact absurd h hK
      · intro h; rw [List.length_cons] at h; omega
    | succ i =>
      have hi' : i < r.length := by simpa using hi
      obtain ⟨h1, h2, h3⟩ := ih i hi'
      refine ⟨h1, ?_, h3⟩
      show r[i].1 = 0 ↔ i + 1 + 1 = r.length + 1
      rw [h2]; omega
theorem OrdL.rise {s : List UInt8} {k : Nat} {l : List Tp} (h : OrdL s k l) : ∀ i (hi : i + 1 < l.length), l[i].2.2 < l[i + 1].2.2 := by
  induction h with
  | last k j hk hj => intro i hi; simp at hi
  | cons k j k' K S r hk hK hj hl hS hr ih =>
    intro i hi
    cases i with
    | zero =>
      have hr0 : 0 < r.length := List.length_pos_iff.2 hr.ne
      have := hr.low 0 hr0
      show j < r[0].2.2
      omega
    | succ i => exact ih i (by simpa using hi)

theorem passA_le (s : List UInt8) (k : Nat) (hk : k ≤ s.length) : k + passA (s.drop k) ≤ s.length := by
  have h := pass_le ⟨s.toArray⟩ k (by rw [Lib.size_eq]; exact hk)
  rw [Lib.size_eq] at h
  exact h
theorem ws_ord (s : List UInt8) : ∀ (r k : Nat) (op : Bool), k ≤ s.length → ∀ l, wordsN s r k op = .ok l → OrdL s k l := by
  intro r
  induction r with
  | zero =>
    intro k op hk l h
    cases hr : readN (s.drop (k + passA (s.drop k))) op with
    | bad x => rw [ws_bad hr] at h; exact absurd h (by simp)
    | got K S m => rw [ws_full hr] at h; exact absurd h (by simp)
  | succ r ih =>
    intro k op hk l h
    have hj := passA_le s k hk
    cases hr : readN (s.drop (k + passA (s.drop k))) op with
    | bad x => rw [ws_bad hr] at h; exact absurd h (by simp)
    | got K S m =>
      by_cases hK : K = 0
      · subst hK
        rw [ws_end hr] at h
        injection h with h
        subst h
        rcases read_got hr with ⟨_, _, hS, _⟩ | ⟨_, h0, _⟩
        · rw [hS]; exact .last _ _ (by omega) hj
        · exact absurd rfl h0
      · rw [ws_on hr hK] at h
        rcases read_got hr with ⟨_, h0, _⟩ | ⟨hne, _, h1, hm, hS⟩
        · exact absurd h0 hK
        · rw [List.length_drop] at hm
          cases hw : wordsN s r (k + passA (s.drop k) + m) (opN K S) with
          | bad a x => rw [hw] at h; exact absurd h (by simp [preW])
          | ok l' =>
            rw [hw] at h
            injection h with h
            subst h
            refine .cons _ _ (k + passA (s.drop k) + m) _ _ _ (by omega) hK (by omega) hj (fun h3 h4 => ?_) (ih _ _ (by omega) _ hw)
            have e := hS h3 h4
            have hl : S.length = m := by rw [e, List.length_take, List.length_drop]; omega
            rw [hl]
            exact ⟨hm, e.symm⟩
theorem read_bad {l : List UInt8} {op : Bool} {x : Int} (h : readN l op = .bad x) : x ≠ 0 := by
  cases l with
  | nil => exact absurd h (by simp [readN])
  | cons c r =>
    rw [rd_eq] at h
    split at h
    · exact absurd h (by simp)
    · split at h
      · unfold nameN at h
        split at h
        · injection h with h; omega
        · exact absurd h (by simp)
      · split at h
        · exact absurd h (by simp)
        · split at h
          · cases ht : textN r with
            | none => rw [ht] at h; injection h with h; omega
            | some y => rw [ht] at h; exact absurd h (by simp [quoteN])
          · split at h
            · cases ht : patN 0 r with
              | none => rw [ht] at h; injection h with h; omega
              | some y => rw [ht] at h; exact absurd h (by simp [quoteN])
            · unfold signR at h
              split at h
              · injection h with h; omega
              · exact absurd h (by simp)
theorem ws_bad_ne (s : List UInt8) : ∀ (r k : Nat) (op : Bool) (a : Nat) (x : Int), wordsN s r k op = .bad a x → x ≠ 0 := by
  intro r
  induction r with
  | zero =>
    intro k op a x h
    cases hr : readN (s.drop (k + passA (s.drop k))) op with
    | bad y => rw [ws_bad hr] at h; injection h with h1 h2; rw [← h2]; exact read_bad hr
    | got K S m => rw [ws_full hr] at h; injection h with h1 h2; omega
  | succ r ih =>
    intro k op a x h
    cases hr : readN (s.drop (k + passA (s.drop k))) op with
    | bad y => rw [ws_bad hr] at h; injection h with h1 h2; rw [← h2]; exact read_bad hr
    | got K S m =>
      by_cases hK : K = 0
      · subst hK; rw [ws_end hr] at h; exact absurd h (by simp)
      · rw [ws_on hr hK] at h
        cases hw : wordsN s r (k + passA (s.drop k) + m) (opN K S) with
        | bad b y => rw [hw] at h; injection h with h1 h2; rw [← h2]; exact ih _ _ _ _ hw
        | ok l' => rw [hw] at h; exact absurd h (by simp [preW])
theorem top_ord {s : List UInt8} {l : List Tp} (h : wordsTop s = .ok l) : OrdL s 0 l ∧ s.length ≤ 8000 := by
  unfold wordsTop at h
  split at h
  · exact absurd h (by simp)
  · exact ⟨ws_ord s 3000 0 false (Nat.zero_le _) l h, by omega⟩
theorem top_bad {s : List UInt8} {a : Nat} {x : Int} (h : wordsTop s = .bad a x) : x ≠ 0 := by
  unfold wordsTop at h
  split at h
  · injection h with h1 h2; omega
  · exact ws_bad_ne s 3000 0 false a x h
theorem ws_count (s : List UInt8) : ∀ (r k : Nat) (op : Bool) (l : List Tp), wordsN s r k op = .ok l → l.length ≤ r := by
  intro r
  induction r with
  | zero =>
    intro k op l h
    cases hr : readN (s.drop (k + passA (s.drop k))) op with
    | bad x => rw [ws_bad hr] at h; exact absurd h (by simp)
    | got K S m => rw [ws_full hr] at h; exact absurd h (by simp)
  | succ r ih =>
    intro k op l h
    cases hr : readN (s.drop (k + passA (s.drop k))) op with
    | bad x => rw [ws_bad hr] at h; exact absurd h (by simp)
    | got K S m =>
      by_cases hK : K = 0
      · subst hK; rw [ws_end hr] at h; injection h with h; rw [← h]; simp
      · rw [ws_on hr hK] at h
        cases hw : wordsN s r (k + passA (s.drop k) + m) (opN K S) with
        | bad b y => rw [hw] at h; exact absurd h (by simp [preW])
        | ok l' =>
          rw [hw] at h
          injection h with h
          have := ih _ _ _ hw
          rw [← h]; simp; omega
theorem top_count {s : List UInt8} {l : List Tp} (h : wordsTop s = .ok l) : l.length ≤ 3000 := by
  unfold wordsTop at h
  split at h
  · exact absurd h (by simp)
  · exact ws_count s 3000 0 false l h

theorem toksV_get (l : List Tp) (i : Nat) (hi : i < l.length) : (toksV l)[i * 3]? = some (.int .i64 l[i].1) ∧ (toksV l)[i * 3 + 1]? = some (.string ⟨l[i].2.1.toArray⟩) ∧ (toksV l)[i * 3 + 2]? = some (.int .i64 (l[i].2.2 : Nat)) := by
  induction l generalizing i with
  | nil => exact absurd hi (by simp)
  | cons x r ih =>
    cases i with
    | zero => exact ⟨rfl, rfl, rfl⟩
    | succ i =>
      have := ih i (by simpa using hi)
      rw [show (i + 1) * 3 = i * 3 + 3 by omega]
      exact this
end Go.Proofs.Ytejofdhpegcmjaa
