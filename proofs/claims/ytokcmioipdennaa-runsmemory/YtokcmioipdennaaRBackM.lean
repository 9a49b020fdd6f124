/-
  How long the bytes of runs are, and that they are bytes.
-/
import Derived.Test.YtokcmioipdennaaRBack
namespace Go.Proofs.Ytokcmioipdennaa.Rn
open Cu

theorem encS_len_le (r : List (ByteArray × Int)) (h : ∀ p ∈ r, p.1.size ≤ 65535) : (encR evS r).length ≤ 10 + 65560 * r.length := by
  unfold encR
  have hb : (body evS r).length ≤ 65560 * r.length := by
    induction r with
    | nil => simp [body_nil]
    | cons p r ih =>
      rw [body_cons, List.length_append, List.length_append, List.length_cons]
      have h1 := uv_le p.2.toNat
      have h2 : (evS p.1).length = (uv (bs p.1).length).length + (bs p.1).length := by unfold evS encB; rw [List.length_append]
      have h3 := uv_le (bs p.1).length
      have h4 := h p (List.mem_cons_self ..)
      have h5 := bs_len p.1
      have h6 := ih (fun q hq => h q (List.mem_cons_of_mem _ hq))
      omega
  have := uv_le r.length
  rw [List.length_append]; omega
theorem encR_lt {α : Type} {ev : α → List Nat} {r : List (α × Int)} (hl : r.length < 18446744073709551616) (h : ∀ p ∈ r, p.2 < 18446744073709551616 ∧ ∀ c ∈ ev p.1, c < 256) : ∀ c ∈ encR ev r, c < 256 := by
  unfold encR body
  intro c hc
  rcases List.mem_append.1 hc with hc | hc
  · exact uv_lt hl c hc
  · rw [List.mem_flatMap] at hc
    obtain ⟨p, hp, hc⟩ := hc
    rcases List.mem_append.1 hc with hc | hc
    · exact uv_lt (by have := (h p hp).1; omega) c hc
    · exact (h p hp).2 c hc
theorem evI_lt {v : Int} (h : In64 v) : ∀ c ∈ evI v, c < 256 := uv_lt (fold_lt h.1 h.2)
theorem evS_lt {s : ByteArray} (h : s.size ≤ 65535) : ∀ c ∈ evS s, c < 256 := by
  unfold evS encB
  intro c hc
  rcases List.mem_append.1 hc with hc | hc
  · exact uv_lt (by rw [bs_len]; omega) c hc
  · exact bs_lt s c hc
theorem encR_pos {α : Type} (ev : α → List Nat) (r : List (α × Int)) : 0 < (encR ev r).length := by
  unfold encR
  have := uv_pos r.length
  rw [List.length_append]; omega
section
variable {α : Type} [DecidableEq α] {dec : Rd → α × Rd} {ev : α → List Nat} {ok : α → Prop}
/-- Numbers of values that are not theirs. -/
theorem readT_more (C : Codec dec ev ok) (F : List (α × Int)) (n : Nat) (hok : ∀ p ∈ F, ok p.1 ∧ p.2 < 18446744073709551616) (hN : Norm F) (hF : F.length < 18446744073709551616) (ht : total F = n) : (readT dec (encR ev F) ((n : Int) + 1)).1 ≠ 0 := by
  by_cases h : n + 1 ≤ 16777216
  · have := readT_enc C F [] (n + 1) h hok hN hF
    rw [List.append_nil, if_neg (by omega)] at this
    rw [show (n : Int) + 1 = ((n + 1 : Nat) : Int) by omega, this]
    simp
  · unfold readT; rw [if_pos (by omega)]; simp
theorem readT_less (C : Codec dec ev ok) (F : List (α × Int)) (n : Nat) (hn : n ≤ 16777216) (hok : ∀ p ∈ F, ok p.1 ∧ p.2 < 18446744073709551616) (hN : Norm F) (hF : F.length < 18446744073709551616) (ht : total F = n) : (readT dec (encR ev F) ((n : Int) - 1)).1 ≠ 0 := by
  by_cases h : 1 ≤ n
  · have := readT_enc C F [] (n - 1) (by omega) hok hN hF
    rw [List.append_nil, if_neg (by omega)] at this
    rw [show (n : Int) - 1 = ((n - 1 : Nat) : Int) by omega, this]
    simp
  · unfold readT; rw [if_pos (by omega)]; simp
end
end Go.Proofs.Ytokcmioipdennaa.Rn
