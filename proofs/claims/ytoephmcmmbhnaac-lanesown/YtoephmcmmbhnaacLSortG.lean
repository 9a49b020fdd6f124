/-
  slices.Sort at uint64: pdqsort, whole.
-/
import Derived.Test.YtoephmcmmbhnaacLSortC
import Derived.Test.YtoephmcmmbhnaacLSortD
import Derived.Test.YtoephmcmmbhnaacLSortE2
import Derived.Test.YtoephmcmmbhnaacLSortF
import Derived.Sort.LotD3
import Derived.Deep.Cut
namespace Go.Proofs.Ytoephmcmmbhnaac.Ln
open Go.RowKit Go.Sort

/-- What is left to be sorted: [a', b') of d'; then all of [a, b) is. -/
structure Fin (a b : Nat) (d : Array Nat) (a' b' : Nat) (d' : Array Nat) : Prop where
  perm : PermIn a b d d'
  left : Go.Sort.Below ltN a' b' d'
  fin : ∀ R, PermIn a' b' d' R → SortedIn ltN a' b' R → SortedIn ltN a b R
theorem Fin.start {a b : Nat} {d : Array Nat} (h : Go.Sort.Below ltN a b d) : Fin a b d a b d := ⟨permIn_refl _ _ _, h, fun _ _ h => h⟩
theorem Fin.done {a b a' b' : Nat} {d d' R : Array Nat} (h : Fin a b d a' b' d') (h1 : a ≤ a') (h2 : b' ≤ b) (hb : b ≤ d.size) (hp : PermIn a' b' d' R) (hs : SortedIn ltN a' b' R) : PermIn a b d R ∧ SortedIn ltN a b R :=
  ⟨permIn_trans _ _ _ _ _ h.perm (permIn_mono _ _ _ _ _ _ h1 h2 (by rw [h.perm.1]; exact hb) hp), h.fin R hp hs⟩
theorem Fin.step {a b a' b' : Nat} {d d' d1 : Array Nat} (h : Fin a b d a' b' d') (h1 : a ≤ a') (h2 : b' ≤ b) (hb : b ≤ d.size) (hp : PermIn a' b' d' d1) : Fin a b d a' b' d1 := by
  have hb' : b ≤ d'.size := by rw [h.perm.1]; exact hb
  exact ⟨permIn_trans _ _ _ _ _ h.perm (permIn_mono _ _ _ _ _ _ h1 h2 hb' hp), Go.Sort.Below.perm h.left (by omega) hp, fun R hR hs => h.fin R (permIn_trans _ _ _ _ _ hp hR) hs⟩
theorem Fin.equal {a b a' b' mid p : Nat} {d d' d1 : Array Nat} (h : Fin a b d a' b' d') (h1 : a ≤ a') (h2 : b' ≤ b) (hb : b ≤ d.size) (h0 : 0 < a') (hp : d'[p]! ≤ d'[a' - 1]!) (he : EqOK a' b' mid d'[p]! d' d1) : Fin a b d mid b' d1 := by
  have hb' : b ≤ d'.size := by rw [h.perm.1]; exact hb
  have hb1 : b ≤ d1.size := by rw [he.perm.1]; exact hb'
  have hl := he.low
  have ht := he.top
  have hge : ∀ i, a' ≤ i → i < b' → d'[p]! ≤ d'[i]! := fun i hi hi' => by
    rcases h.left with h3 | h3
    · omega
    · have := h3 i hi hi'
      simp [ltN] at this
      omega
  have hge1 := permIn_all d' d1 a' b' (fun x => d'[p]! ≤ x) (by omega) he.perm hge
  refine ⟨permIn_trans _ _ _ _ _ h.perm (permIn_mono _ _ _ _ _ _ h1 h2 hb' he.perm), Or.inr fun i hi hi' => ?_, fun R hR hs => ?_⟩
  · have q1 := he.rest i hi hi'
    have q2 := he.same (mid - 1) (by omega) (by omega)
    simp [ltN]; omega
  · refine h.fin R (permIn_trans _ _ _ _ _ he.perm (permIn_mono _ _ mid b' a' b' (by omega) (Nat.le_refl _) (by omega) hR)) ?_
    refine sorted_glue_eq swoN d'[p]! hs (fun i hi hi' => ?_) (fun i hi hi' => ?_) (permIn_all d1 R mid b' (fun x => ltN d'[p]! x = true) (by omega) hR (fun i hi hi' => by simp [ltN]; exact he.rest i hi hi'))
    · rw [hR.2.1 i (Or.inl hi')]
      have := he.same i hi hi'
      simp [ltN]; omega
    · rw [hR.2.1 i (Or.inl hi')]
      have := hge1 i hi (by omega)
      simp [ltN]; omega
theorem Fin.parted {a b a' b' mid : Nat} {d d' d1 : Array Nat} (h : Fin a b d a' b' d') (h1 : a ≤ a') (h2 : b' ≤ b) (hb : b ≤ d.size) (he : PartOK a' b' mid d' d1) :
    Go.Sort.Below ltN a' mid d1 ∧ Go.Sort.Below ltN (mid + 1) b' d1 ∧ (∀ L, PermIn a' mid d1 L → SortedIn ltN a' mid L → Fin a b d (mid + 1) b' L) ∧ (∀ L, PermIn (mid + 1) b' d1 L → SortedIn ltN (mid + 1) b' L → Fin a b d a' mid L) := by
  have hb' : b ≤ d'.size := by rw [h.perm.1]; exact hb
  have hb1 : b ≤ d1.size := by rw [he.perm.1]; exact hb'
  have hl := he.low
  have ht := he.top
  have hlo : ∀ i, a' ≤ i → i < mid → ltN d1[i]! d1[mid]! = true := fun i hi hi' => by simp [ltN]; exact he.less i hi hi'
  have hhi : ∀ i, mid < i → i < b' → ltN d1[i]! d1[mid]! = false := fun i hi hi' => by simp [ltN]; exact he.rest i hi hi'
  have hP : PermIn a b d d1 := permIn_trans _ _ _ _ _ h.perm (permIn_mono _ _ _ _ _ _ h1 h2 hb' he.perm)
  have hB1 : Go.Sort.Below ltN a' mid d1 := (Go.Sort.Below.perm h.left (by omega) he.perm).mono (by omega)
  refine ⟨hB1, Or.inr fun i hi hi' => by rw [Nat.add_sub_cancel]; exact hhi i (by omega) hi', fun L hL hsL => ?_, fun L hL hsL => ?_⟩
  · have hbL : b ≤ L.size := by rw [hL.1]; exact hb1
    have eL : ∀ i, mid ≤ i → L[i]! = d1[i]! := fun i hi => hL.2.1 i (Or.inr hi)
    refine ⟨permIn_trans _ _ _ _ _ hP (permIn_mono _ _ _ _ _ _ h1 (by omega) hb1 hL), Or.inr fun i hi hi' => by rw [Nat.add_sub_cancel, eL i (by omega), eL mid (Nat.le_refl _)]; exact hhi i (by omega) hi', fun R hR hsR => ?_⟩
    have eR : ∀ i, i ≤ mid → R[i]! = L[i]! := fun i hi => hR.2.1 i (Or.inl (by omega))
    refine h.fin R (permIn_trans _ _ _ _ _ he.perm (permIn_trans _ _ _ _ _ (permIn_mono _ _ a' mid a' b' (Nat.le_refl _) (by omega) (by omega) hL) (permIn_mono _ _ (mid + 1) b' a' b' (by omega) (Nat.le_refl _) (by omega) hR))) ?_
    refine sorted_glue swoN (hsL.congr fun i _ hi' => eR i (by omega)) hsR (fun i hi hi' => ?_) (fun i hi hi' => ?_)
    · rw [eR i (by omega), eR mid (Nat.le_refl _), eL mid (Nat.le_refl _)]
      exact permIn_all d1 L a' mid (fun x => ltN x d1[mid]! = true) (by omega) hL hlo i hi hi'
    · rw [eR mid (Nat.le_refl _), eL mid (Nat.le_refl _)]
      exact permIn_all L R (mid + 1) b' (fun x => ltN x d1[mid]! = false) (by omega) hR (fun k hk hk' => by rw [eL k (by omega)]; exact hhi k (by omega) hk') i (by omega) hi'
  · have hbL : b ≤ L.size := by rw [hL.1]; exact hb1
    have eL : ∀ i, i ≤ mid → L[i]! = d1[i]! := fun i hi => hL.2.1 i (Or.inl (by omega))
    refine ⟨permIn_trans _ _ _ _ _ hP (permIn_mono _ _ _ _ _ _ (by omega) h2 hb1 hL), ?_, fun R hR hsR => ?_⟩
    · rcases hB1 with h0 | h0
      · exact Or.inl h0
      · exact Or.inr fun i hi hi' => by rw [eL i (by omega), eL (a' - 1) (by omega)]; exact h0 i hi hi'
    have eR : ∀ i, mid ≤ i → R[i]! = L[i]! := fun i hi => hR.2.1 i (Or.inr hi)
    refine h.fin R (permIn_trans _ _ _ _ _ he.perm (permIn_trans _ _ _ _ _ (permIn_mono _ _ (mid + 1) b' a' b' (by omega) (Nat.le_refl _) (by omega) hL) (permIn_mono _ _ a' mid a' b' (Nat.le_refl _) (by omega) (by omega) hR))) ?_
    refine sorted_glue swoN hsR (hsL.congr fun i hi _ => eR i (by omega)) (fun i hi hi' => ?_) (fun i hi hi' => ?_)
    · rw [eR mid (Nat.le_refl _), eL mid (Nat.le_refl _)]
      exact permIn_all L R a' mid (fun x => ltN x d1[mid]! = true) (by omega) hR (fun k hk hk' => by rw [eL k (by omega)]; exact hlo k hk hk') i hi hi'
    · rw [eR i (by omega), eR mid (Nat.le_refl _), eL mid (Nat.le_refl _)]
      exact permIn_all d1 L (mid + 1) b' (fun x => ltN x d1[mid]! = false) (by omega) hL (fun k hk hk' => hhi k (by omega) hk') i (by omega) hi'
theorem Turned.of_below {g : Nat} {a b c : World} (h : Turned g a b) (k : Go.RowKit.Below b.heap.size b c) : Turned g a c :=
  h.trans ⟨k.os, k.tape, k.output, k.size, fun i hi _ => k.block i hi⟩
/-- The state's memory. -/
def Mm (a b g c n : Nat) (d : Array Nat) (w : World) (a' b' : Nat) (d' : Array Nat) (W : World) : Prop := Fin a b d a' b' d' ∧ d'.size = n ∧ RowD W g c d' ∧ Turned g w W
theorem Mm.res {a b g c n a' b' : Nat} {d d' R : Array Nat} {w W W' : World} (h : Mm a b g c n d w a' b' d' W) (h1 : a ≤ a') (h2 : b' ≤ b) (hb : b ≤ d.size) (hp : PermIn a' b' d' R) (hs : SortedIn ltN a' b' R) (hr : RowD W' g c R) (ht : Turned g W W') :
    PermIn a b d R ∧ SortedIn ltN a b R ∧ RowD W' g c R ∧ Turned g w W' :=
  ⟨(h.1.done h1 h2 hb hp hs).1, (h.1.done h1 h2 hb hp hs).2, hr, h.2.2.2.trans ht⟩
theorem Mm.step {a b g c n a' b' : Nat} {d d' d1 : Array Nat} {w W W' : World} (h : Mm a b g c n d w a' b' d' W) (h1 : a ≤ a') (h2 : b' ≤ b) (hb : b ≤ d.size) (hp : PermIn a' b' d' d1) (hr : RowD W' g c d1) (ht : Turned g W W') : Mm a b g c n d w a' b' d1 W' :=
  ⟨h.1.step h1 h2 hb hp, hp.1.trans h.2.1, hr, h.2.2.2.trans ht⟩
theorem Mm.drewN {a b g c n a' b' : Nat} {d d' : Array Nat} {w W : World} (h : Mm a b g c n d w a' b' d' W) (j : Nat) : Mm a b g c n d w a' b' d' (W.drewN j) :=
  ⟨h.1, h.2.1, h.2.2.1.kept rfl, h.2.2.2.drewN j⟩
/-- What the whole leaves. -/
def Rs (a b g c : Nat) (d : Array Nat) (w W : World) : Prop := ∃ R, PermIn a b d R ∧ SortedIn ltN a b R ∧ RowD W g c R ∧ Turned g w W
section
variable {a b g c n a' b' : Nat} {d d' : Array Nat} {w W : World}
theorem mm_ins (h : Mm a b g c n d w a' b' d' W) (h1 : a ≤ a') (h2 : b' ≤ b) (h3 : a' ≤ b') (hb : b ≤ d.size) (hn : b ≤ n) (hs : n ≤ 140737488351232) :
    Calls Try.prog 75 #[.slice (some ⟨g, 0, none⟩) n c, .int .i64 (a' : Int), .int .i64 (b' : Int)] W fun e w' => e = .returned (.tuple #[]) ∧ Hid (Rs a b g c d w w') := by
  obtain ⟨h4, h5, h6, h7⟩ := h
  subst h5
  refine (ins_any g c a' b' d' W h6 h3 (by omega) hs).mono ?_
  rintro e w' ⟨q1, q2, _, q4⟩
  obtain ⟨p1, p2⟩ := insertionSort_holds (lt := ltN) swoN d' a' b' h3 (by omega)
  exact ⟨q1, _, Mm.res ⟨h4, rfl, h6, h7⟩ h1 h2 hb p1 p2 q2 q4⟩
theorem mm_heap (h : Mm a b g c n d w a' b' d' W) (h1 : a ≤ a') (h2 : b' ≤ b) (h3 : a' < b') (hb : b ≤ d.size) (hn : b ≤ n) (hs : n ≤ 140737488351232) :
    Calls Try.prog 76 #[.slice (some ⟨g, 0, none⟩) n c, .int .i64 (a' : Int), .int .i64 (b' : Int)] W fun e w' => e = .returned (.tuple #[]) ∧ Hid (Rs a b g c d w w') := by
  obtain ⟨h4, h5, h6, h7⟩ := h
  subst h5
  refine (heap_any g c a' b' d' W h6 h3 (by omega) hs).mono ?_
  rintro e w' ⟨q1, q2, q4⟩
  obtain ⟨p1, p2⟩ := heapSort_holds (lt := ltN) swoN d' a' b' (by omega) (by omega)
  exact ⟨q1, _, Mm.res ⟨h4, rfl, h6, h7⟩ h1 h2 hb p1 p2 q2 q4⟩
theorem mm_break (h : Mm a b g c n d w a' b' d' W) (h1 : a ≤ a') (h2 : b' ≤ b) (h3 : a' + 13 ≤ b') (hb : b ≤ d.size) (hn : b ≤ n) (hs : n ≤ 140737488351232) :
    Calls Try.prog 77 #[.slice (some ⟨g, 0, none⟩) n c, .int .i64 (a' : Int), .int .i64 (b' : Int)] W fun e w' => e = .returned (.tuple #[]) ∧ ∃ d1, Hid (Mm a b g c n d w a' b' d1 w') := by
  obtain ⟨h4, h5, h6, h7⟩ := h
  subst h5
  refine (break_any g c a' b' d' W h6 h3 (by omega) hs).mono ?_
  rintro e w' ⟨q1, d1, q2, q3, q4⟩
  exact ⟨q1, d1, Mm.step ⟨h4, rfl, h6, h7⟩ h1 h2 hb q2 q3 q4⟩
theorem mm_rev (h : Mm a b g c n d w a' b' d' W) (h1 : a ≤ a') (h2 : b' ≤ b) (h3 : a' < b') (hb : b ≤ d.size) (hn : b ≤ n) (hs : n ≤ 140737488351232) :
    Calls Try.prog 79 #[.slice (some ⟨g, 0, none⟩) n c, .int .i64 (a' : Int), .int .i64 (b' : Int)] W fun e w' => e = .returned (.tuple #[]) ∧ ∃ d1, Hid (Mm a b g c n d w a' b' d1 w') := by
  obtain ⟨h4, h5, h6, h7⟩ := h
  subst h5
  refine (reverse_any g c a' b' d' W h6 h3 (by omega) hs).mono ?_
  rintro e w' ⟨q1, d1, q2, q3, q4⟩
  exact ⟨q1, d1, Mm.step ⟨h4, rfl, h6, h7⟩ h1 h2 hb q2 q3 q4⟩
theorem mm_choose (h : Mm a b g c n d w a' b' d' W) (h2 : b' ≤ b) (h3 : a' + 13 ≤ b') (hn : b ≤ n) (hs : n ≤ 140737488351232) :
    Calls Try.prog 78 #[.slice (some ⟨g, 0, none⟩) n c, .int .i64 (a' : Int), .int .i64 (b' : Int)] W fun e w' => ∃ p h : Nat, e = .returned (.tuple #[.int .i64 (p : Int), .int .i64 (h : Int)]) ∧ a' ≤ p ∧ p < b' ∧ h ≤ 2 ∧ Hid (Mm a b g c n d w a' b' d' w') := by
  obtain ⟨h4, h5, h6, h7⟩ := h
  subst h5
  refine (choose_any g c a' b' d' W h6 h3 (by omega) hs).mono ?_
  rintro e w' ⟨p, h, q1, q2, q3, q4, q5⟩
  exact ⟨p, h, q1, q2, q3, q4, h4, rfl, h6.kept (q5.block _ h6.lt), h7.of_below q5⟩
theorem mm_partial (h : Mm a b g c n d w a' b' d' W) (h1 : a ≤ a') (h2 : b' ≤ b) (h3 : a' < b') (hb : b ≤ d.size) (hn : b ≤ n) (hs : n ≤ 140737488351232) :
    Calls Try.prog 80 #[.slice (some ⟨g, 0, none⟩) n c, .int .i64 (a' : Int), .int .i64 (b' : Int)] W fun e w' => ∃ q : Bool, e = .returned (.bool q) ∧ Hid (q = true → Rs a b g c d w w') ∧ Hid (q = false → ∃ d1, Mm a b g c n d w a' b' d1 w') := by
  obtain ⟨h4, h5, h6, h7⟩ := h
  subst h5
  refine (partial_any g c a' b' d' W h6 h3 (by omega) hs).mono ?_
  rintro e w' ⟨q1, q2, q4⟩
  obtain ⟨p1, p2⟩ := partialInsertionSort_holds (lt := ltN) swoN d' a' b' h3 (by omega) h4.left
  exact ⟨_, q1, fun hq => ⟨_, Mm.res ⟨h4, rfl, h6, h7⟩ h1 h2 hb p1 (p2 hq) q2 q4⟩, fun _ => ⟨_, Mm.step ⟨h4, rfl, h6, h7⟩ h1 h2 hb p1 q2 q4⟩⟩
/-- Behind the partition. -/
structure Md (a b g c n : Nat) (d : Array Nat) (w : World) (a' b' mid : Nat) (d1 : Array Nat) (W : World) : Prop where
  size : d1.size = n
  row : RowD W g c d1
  turn : Turned g w W
  low : Go.Sort.Below ltN a' mid d1
  top : Go.Sort.Below ltN (mid + 1) b' d1
  left : ∀ L, PermIn a' mid d1 L → SortedIn ltN a' mid L → Fin a b d (mid + 1) b' L
  right : ∀ L, PermIn (mid + 1) b' d1 L → SortedIn ltN (mid + 1) b' L → Fin a b d a' mid L
theorem Md.goLeft {mid : Nat} {d1 : Array Nat} {W' : World} (h : Md a b g c n d w a' b' mid d1 W) (k : Rs a' mid g c d1 W W') : ∃ L, Mm a b g c n d w (mid + 1) b' L W' := by
  obtain ⟨L, k1, k2, k3, k4⟩ := k
  exact ⟨L, h.left L k1 k2, k1.1.trans h.size, k3, h.turn.trans k4⟩
theorem Md.goRight {mid : Nat} {d1 : Array Nat} {W' : World} (h : Md a b g c n d w a' b' mid d1 W) (k : Rs (mid + 1) b' g c d1 W W') : ∃ L, Mm a b g c n d w a' mid L W' := by
  obtain ⟨L, k1, k2, k3, k4⟩ := k
  exact ⟨L, h.right L k1 k2, k1.1.trans h.size, k3, h.turn.trans k4⟩
theorem mm_part (p : Nat) (h : Mm a b g c n d w a' b' d' W) (h1 : a ≤ a') (h2 : b' ≤ b) (h3 : a' ≤ p) (h3' : p < b') (hb : b ≤ d.size) (hn : b ≤ n) (hs : n ≤ 140737488351232) :
    Calls Try.prog 82 #[.slice (some ⟨g, 0, none⟩) n c, .int .i64 (a' : Int), .int .i64 (b' : Int), .int .i64 (p : Int)] W fun e w' => ∃ (mid : Nat) (ap : Bool) (d1 : Array Nat), e = .returned (.tuple #[.int .i64 (mid : Int), .bool ap]) ∧ a' ≤ mid ∧ mid < b' ∧ Hid (Md a b g c n d w a' b' mid d1 w') := by
  obtain ⟨h4, h5, h6, h7⟩ := h
  subst h5
  refine (part_any g c a' b' p d' W h6 h3 h3' (by omega) hs).mono ?_
  rintro e w' ⟨mid, ap, d1, q1, q2, q3, q4⟩
  obtain ⟨r1, r2, r3, r4⟩ := h4.parted h1 h2 hb q2
  exact ⟨mid, ap, d1, q1, q2.low, q2.top, ⟨q2.perm.1, q3, h7.trans q4, r1, r2, r3, r4⟩⟩
theorem mm_partEq (p : Nat) (h : Mm a b g c n d w a' b' d' W) (h1 : a ≤ a') (h2 : b' ≤ b) (h3 : a' ≤ p) (h3' : p < b') (hb : b ≤ d.size) (hn : b ≤ n) (hs : n ≤ 140737488351232) (h0 : 0 < a') (hp : d'[p]! ≤ d'[a' - 1]!) :
    Calls Try.prog 81 #[.slice (some ⟨g, 0, none⟩) n c, .int .i64 (a' : Int), .int .i64 (b' : Int), .int .i64 (p : Int)] W fun e w' => ∃ (mid : Nat) (d1 : Array Nat), e = .returned (.int .i64 (mid : Int)) ∧ a' < mid ∧ mid ≤ b' ∧ Hid (Mm a b g c n d w mid b' d1 w') := by
  obtain ⟨h4, h5, h6, h7⟩ := h
  subst h5
  refine (partEq_any g c a' b' p d' W h6 h3 h3' (by omega) hs).mono ?_
  rintro e w' ⟨mid, d1, q1, q2, q3, q4⟩
  exact ⟨mid, d1, q1, q2.low, q2.top, h4.equal h1 h2 hb h0 hp q2, q2.perm.1, q3, h7.trans q4⟩
end
end Go.Proofs.Ytoephmcmmbhnaac.Ln
