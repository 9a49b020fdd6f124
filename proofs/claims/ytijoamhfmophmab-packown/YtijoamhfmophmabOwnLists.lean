/-
  PackOwn: lists out of blocks.
-/
import Derived.Test.YtijoamhfmophmabOwnMem
namespace Go.Proofs.Ytijoamhfmophmab
open Go.RowKit

def be0 : BE := ⟨0, 0, .u8, 0, 0, fun _ => 0⟩
def gOf (es : List BE) (i : Nat) : Nat := (es.getD i be0).g
def mOf (es : List BE) (i : Nat) : Nat := (es.getD i be0).m
def cOf (es : List BE) (i : Nat) : Nat := (es.getD i be0).c
def lOf (es : List BE) (i : Nat) : Nat → Nat := (es.getD i be0).L
theorem getD_mem {es : List BE} {i : Nat} (h : i < es.length) : es.getD i be0 ∈ es := by
  rw [List.getD_eq_getElem?_getD, List.getElem?_eq_getElem h]; exact List.getElem_mem h
theorem lists_of {w : World} {es : List BE} {arr : Array Value} {t : TypeId} (hM : Mem w es) (hP : es.Pairwise fun a b => a.g < b.g) (hr : ∀ e, e ∈ es → e.m ≤ e.c ∧ e.c ≤ 1073741824)
    (harr : arr.toList = es.map fun e => Value.slice (some ⟨e.g, 0, none⟩) e.m e.c) : Lists (w.alloc (.cells arr t)) es.length w.heap.size (gOf es) (mOf es) (cOf es) := by
  refine ⟨fun i hi => ?_, by simp, fun i hi => ?_, fun i j hi hj hg => ?_, fun i hi hg => ?_, fun i hi => hr _ (getD_mem hi)⟩
  · have h1 : arr[i]? = some (.slice (some ⟨gOf es i, 0, none⟩) (mOf es i) (cOf es i)) := by
      rw [← Array.getElem?_toList, harr, List.getElem?_map, List.getElem?_eq_getElem hi]
      simp [gOf, mOf, cOf, hi]
    rw [cell_of_row _ w.heap.size i arr t (0, 0) (heap_alloc_new w (.cells arr t))]
    exact h1
  · have := (hM _ (getD_mem hi)).lt
    simp [gOf]; simp at this; omega
  · have hp := List.pairwise_iff_getElem.1 hP
    have e1 : ∀ q (hq : q < es.length), gOf es q = es[q].g := fun q hq => by simp [gOf, hq]
    rw [e1 i hi, e1 j hj] at hg
    rcases Nat.lt_trichotomy i j with h | h | h
    · have := hp i j hi hj h; omega
    · exact h
    · have := hp j i hj hi h; omega
  · have := (hM _ (getD_mem hi)).lt
    unfold gOf at hg
    omega
theorem isG_of {es : List BE} {j : Nat} (h : isG es.length (gOf es) j) : ∃ e, e ∈ es ∧ j = e.g := by
  obtain ⟨i, hi, rfl⟩ := h
  exact ⟨_, getD_mem hi, rfl⟩
theorem Mem.front {w : World} {es : List BE} {x : BE} (h : Mem w (es ++ [x])) : Mem w es := fun e he => h e (List.mem_append_left _ he)
theorem Mem.alloc {w : World} {es : List BE} (h : Mem w es) (o : Obj) : Mem (w.alloc o) es := fun e he => (h e he).alloc o
/-- apart, of such lists. -/
theorem apart8 {w : World} {es : List BE} {arr : Array Value} (hM : Mem w es) (hP : es.Pairwise fun a b => a.g < b.g) (hr : ∀ e, e ∈ es → e.m ≤ e.c ∧ e.c ≤ 1073741824) (hE : ∀ e, e ∈ es → e.t = 5 ∧ e.k = .u8) (hN : es.length ≤ 6)
    (harr : arr.toList = es.map fun e => Value.slice (some ⟨e.g, 0, none⟩) e.m e.c) :
    Calls Try.prog 14 #[.slice (some ⟨w.heap.size, 0, none⟩) es.length es.length] (w.alloc (.cells arr 22)) fun e w' => e = .returned (.bool true) ∧ Touch (fun j => ∃ e, e ∈ es ∧ j = e.g) w w' := by
  refine (apartU8_yes es.length w.heap.size (gOf es) (mOf es) (cOf es) (lOf es) _ hN (lists_of hM hP hr harr) (fun i hi => ?_)).mono ?_
  · have h1 := (hM _ (getD_mem hi)).alloc (.cells arr 22)
    obtain ⟨h2, h3⟩ := hE _ (getD_mem hi)
    rw [h2, h3] at h1
    exact h1
  · rintro e w' ⟨h1, h2⟩
    refine ⟨h1, h2.os, h2.tape, h2.output, by have := h2.size; simp at this; omega, fun j hj hn => ?_⟩
    rw [h2.block j (by simp; omega) (fun h => hn (isG_of h)), Below.heap_alloc _ _ _ hj]
theorem apart64 {w : World} {es : List BE} {arr : Array Value} (hM : Mem w es) (hP : es.Pairwise fun a b => a.g < b.g) (hr : ∀ e, e ∈ es → e.m ≤ e.c ∧ e.c ≤ 1073741824) (hE : ∀ e, e ∈ es → e.t = 28 ∧ e.k = .u64) (hN : es.length ≤ 6)
    (harr : arr.toList = es.map fun e => Value.slice (some ⟨e.g, 0, none⟩) e.m e.c) :
    Calls Try.prog 15 #[.slice (some ⟨w.heap.size, 0, none⟩) es.length es.length] (w.alloc (.cells arr 24)) fun e w' => e = .returned (.bool true) ∧ Touch (fun j => ∃ e, e ∈ es ∧ j = e.g) w w' := by
  refine (apartU64_yes es.length w.heap.size (gOf es) (mOf es) (cOf es) (lOf es) _ hN (lists_of hM hP hr harr) (fun i hi => ?_)).mono ?_
  · have h1 := (hM _ (getD_mem hi)).alloc (.cells arr 24)
    obtain ⟨h2, h3⟩ := hE _ (getD_mem hi)
    rw [h2, h3] at h1
    exact h1
  · rintro e w' ⟨h1, h2⟩
    refine ⟨h1, h2.os, h2.tape, h2.output, by have := h2.size; simp at this; omega, fun j hj hn => ?_⟩
    rw [h2.block j (by simp; omega) (fun h => hn (isG_of h)), Below.heap_alloc _ _ _ hj]
end Go.Proofs.Ytijoamhfmophmab
