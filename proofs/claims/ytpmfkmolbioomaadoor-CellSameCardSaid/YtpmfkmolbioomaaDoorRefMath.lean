/- Plain mathematics of digits, the lowest first: no program. -/
namespace Go.Proofs.YtpmfkmolbioomaaDoor

def val : List Nat → Nat
  | [] => 0
  | d :: l => d + 10 * val l
def Dl (l : List Nat) : Prop := ∀ d ∈ l, d < 10
def sv (m : Bool) (l : List Nat) : Int := if m then -(val l : Int) else val l

theorem val_append (a b : List Nat) : val (a ++ b) = val a + 10 ^ a.length * val b := by
  induction a with
  | nil => simp [val]
  | cons d a ih =>
    simp only [List.cons_append, val, List.length_cons, ih, Nat.pow_succ]
    rw [Nat.mul_add, ← Nat.mul_assoc, Nat.mul_comm 10 (10 ^ a.length)]
    omega

theorem val_lt {l : List Nat} (h : Dl l) : val l < 10 ^ l.length := by
  induction l with
  | nil => simp [val]
  | cons d l ih =>
    have h1 : d < 10 := h d (by simp)
    have h2 := ih (fun x hx => h x (by simp [hx]))
    simp only [val, List.length_cons, Nat.pow_succ]
    omega

theorem val_zeros (n : Nat) : val (List.replicate n 0) = 0 := by
  induction n with
  | zero => rfl
  | succ n ih => simp [List.replicate_succ, val, ih]

theorem Dl.nil : Dl [] := by intro d h; simp at h
theorem Dl.append {a b : List Nat} (ha : Dl a) (hb : Dl b) : Dl (a ++ b) := by
  intro d h
  rcases List.mem_append.1 h with h | h
  · exact ha d h
  · exact hb d h
theorem Dl.one {d : Nat} (h : d < 10) : Dl [d] := by intro x hx; simp at hx; omega
theorem Dl.take {l : List Nat} (h : Dl l) (k : Nat) : Dl (l.take k) := fun d hd => h d (List.mem_of_mem_take hd)
theorem Dl.drop {l : List Nat} (h : Dl l) (k : Nat) : Dl (l.drop k) := fun d hd => h d (List.mem_of_mem_drop hd)
theorem Dl.zeros (n : Nat) : Dl (List.replicate n 0) := by intro d h; rw [List.mem_replicate] at h; omega

theorem Dl.getD {l : List Nat} (h : Dl l) (k : Nat) : l.getD k 0 < 10 := by
  rw [List.getD_eq_getElem?_getD]
  rcases Nat.lt_or_ge k l.length with hk | hk
  · rw [List.getElem?_eq_getElem hk]; exact h _ (List.getElem_mem hk)
  · rw [List.getElem?_eq_none hk]; decide

/-- The first k digits of a list that goes on with noughts. -/
def pre (l : List Nat) (k : Nat) : Nat := val (l.take k)

theorem pre_succ (l : List Nat) (k : Nat) : pre l (k + 1) = pre l k + 10 ^ k * l.getD k 0 := by
  unfold pre
  rcases Nat.lt_or_ge k l.length with h | h
  · rw [List.take_succ_eq_append_getElem h, val_append, List.length_take, Nat.min_eq_left (by omega)]
    simp [val, List.getD_eq_getElem?_getD, h]
  · rw [List.take_of_length_le (by omega), List.take_of_length_le (by omega)]
    simp [List.getD_eq_getElem?_getD, List.getElem?_eq_none h]

theorem pre_all (l : List Nat) (k : Nat) (h : l.length ≤ k) : pre l k = val l := by
  unfold pre; rw [List.take_of_length_le h]

theorem pre_lt {l : List Nat} (h : Dl l) (k : Nat) : pre l k < 10 ^ k := by
  induction k with
  | zero => simp [pre, val]
  | succ k ih =>
    rw [pre_succ, Nat.pow_succ]
    have := h.getD k
    have h2 : 10 ^ k * l.getD k 0 ≤ 10 ^ k * 9 := Nat.mul_le_mul_left _ (by omega)
    omega

/-- The digits from k on. -/
def suf (l : List Nat) (k : Nat) : Nat := val (l.drop k)
theorem suf_step (l : List Nat) (k : Nat) : suf l k = l.getD k 0 + 10 * suf l (k + 1) := by
  unfold suf
  rcases Nat.lt_or_ge k l.length with h | h
  · rw [List.drop_eq_getElem_cons h]
    simp [val, List.getD_eq_getElem?_getD, h]
  · rw [List.drop_of_length_le h, List.drop_of_length_le (by omega)]
    simp [val, List.getD_eq_getElem?_getD, List.getElem?_eq_none h]
theorem suf_zero (l : List Nat) : suf l 0 = val l := rfl
theorem suf_end (l : List Nat) (k : Nat) (h : l.length ≤ k) : suf l k = 0 := by
  unfold suf; rw [List.drop_of_length_le h]; rfl

end Go.Proofs.YtpmfkmolbioomaaDoor
