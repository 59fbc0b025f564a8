/- The document's text of a number is dec's; its length. -/
import Derived.Test.YtpmfkmolbioomaaDoorRefN
import Derived.Test.YtpmfkmolbioomaaDoorThere
namespace Go.Proofs.YtpmfkmolbioomaaDoor
open Go.RowKit
theorem decZ_len : ∀ k n, (decZ k n).length ≤ k
  | 0, _ => by simp [decZ]
  | k + 1, n => by
    unfold decZ
    split
    · simp
    · have := decZ_len k (n / 10); simp; omega
theorem showText_len (a : Int) : (showText a).length ≤ 21 := by
  have h : ∀ n, (showPlain n).length ≤ 20 := by
    intro n
    have h1 := decZ_len 12 (n / 1000000 / 10)
    have h2 := frac_len (n % 1000000)
    unfold showPlain
    simp only [List.length_append, List.length_singleton]
    omega
  have := h a.natAbs
  unfold showText
  split <;> simp <;> omega

theorem refShow_any (a : Int) (w : World) (ha : Fits a) :
    Calls Tryd.prog 22 #[.int .i64 a] w (ShowPost a w) :=
  (refShow_grow a w ha).mono fun e w' ⟨t, ht, he, hb⟩ => ⟨t, by
    rw [ht, grow_plain _ (by unfold Fits at ha; omega)]
    rfl, he, hb⟩

theorem clean_nil : Clean [] := ⟨fun c h => by simp at h⟩

theorem bytes_eq {t u : ByteArray} (h : t.data.toList = u.data.toList) : t = u := by
  apply ByteArray.ext
  exact Array.toList_inj.1 h

end Go.Proofs.YtpmfkmolbioomaaDoor
