/-
  The program's own readings: short forms, folded numbers, bytes, blocks.
-/
import Derived.Test.YtjphnkjikemghaaPTake
namespace Go.Proofs.Ytjphnkjikemghaa
open Go.RowKit Cu

theorem stp_no {F : FuncId} {args : Array Value} {w : World} {lo hi q : Nat} {r' : Rd} {Ok : Ending → World → Prop} (h : Calls Try.prog F args w fun x w' => Stp w lo hi q r' Ok x w') (he : ¬ r'.e = 0) : Calls Try.prog F args w fun x w' => x = Pan r'.e ∧ Hit q w w' :=
  h.mono fun _ _ h => h.2.elim (fun k => ⟨k.2, h.1⟩) (fun k => absurd k.1 he)
theorem stp_ok {F : FuncId} {args : Array Value} {w : World} {lo hi q : Nat} {r' : Rd} {Ok : Ending → World → Prop} (h : Calls Try.prog F args w fun x w' => Stp w lo hi q r' Ok x w') (he : r'.e = 0) : Calls Try.prog F args w fun x w' => Ok x w' ∧ RestAt w' lo hi q r'.rest ∧ Hit q w w' :=
  h.mono fun _ _ h => h.2.elim (fun k => absurd he k.1) (fun k => ⟨k.2.2, k.2.1, h.1⟩)
set_option maxRecDepth 4000 in
set_option maxHeartbeats 1000000 in
theorem pUv {w : World} {lo hi g : Nat} {r : Rd} (h : ProgRd w lo hi g r) :
    Calls Try.prog 13 #[.pointer (some ⟨g, 0, none⟩)] w fun x w' => x = .returned (.int .u64 (r.uv.1 : Int)) ∧ ProgRd w' lo hi g r.uv.2 ∧ Hit g w w' := by
  by_cases h0 : r.e = 0
  · obtain ⟨hg, hz⟩ := good_uv h.ok h0
    have HC := hid (reading_uint64 h h0 38 (fun _ _ => by kernel_rfl) r.uv.2 (fun v _ => v = .int .u64 (r.uv.1 : Int))
      (fun W lo' hi' q hq _ _ => (pUvS h0 hq).mono fun x w' ⟨h1, h2⟩ => ⟨h1, h2.imp id fun ⟨p1, p2, p3⟩ => ⟨p1, p2, _, p3, rfl⟩⟩)
      (fun _ _ _ _ hp => hp) hg.no hg.ok hg.low)
    have HZ := hid hz
    clear h hg hz
    generalize r.uv = R at *
    go_enter Try.func13, Try.ntmps13
    go_wp2_with (go_at_call 37; refine HC.out.mono ?_; rintro e w2 ⟨v2, rfl, h2, h3, h4⟩)
    go_ret
    rcases h2 with ⟨h2, rfl⟩ | ⟨_, rfl⟩
    · refine ⟨?_, h3, h4⟩
      rw [HZ.out h2]; rfl
    · exact ⟨rfl, h3, h4⟩
  · rw [uv_e h0]
    have HC := hid (reading_bad_uint64 h h0 38)
    have HH := hid h
    clear h
    go_enter Try.func13, Try.ntmps13
    go_wp2_with (go_at_call 37; refine HC.out.mono ?_; rintro e w2 ⟨rfl, h2⟩)
    go_ret
    exact ⟨rfl, HH.out.later h2, hit_of_below h2⟩
set_option maxRecDepth 4000 in
set_option maxHeartbeats 1000000 in
theorem pUv_nil (w : World) : Calls Try.prog 13 #[.pointer none] w fun x w' => x = .returned (.int .u64 0) ∧ Below w.heap.size w w' := by
  go_enter Try.func13, Try.ntmps13
  go_wp2_with (go_at_call 37; refine (reading_nil_uint64 w 38).mono ?_; rintro e w2 ⟨rfl, h2⟩)
  go_ret
  exact ⟨rfl, h2⟩
theorem uv_top {r : Rd} (h : r.Ok) : r.uv.1 < 18446744073709551616 := by
  by_cases he : r.uv.2.e = 0
  · exact (uv_took h he).2
  · by_cases h0 : r.e = 0
    · rw [(good_uv h h0).2 he]; omega
    · rw [uv_e h0]; show (0 : Nat) < _; omega
theorem hit_up {q : Nat} {w a b : World} (h : Hit q w a) (hb : Below a.heap.size a b) : Hit q w b := h.trans (hit_of_below hb)
set_option maxRecDepth 4000 in
set_option maxHeartbeats 2000000 in
theorem pBytesS {w : World} {lo hi q nb : Nat} {r : Rd} (h0 : r.e = 0) (h : RestAt w lo hi q r.rest) (n : Int) (h1 : -9223372036854775808 ≤ n) (h2 : n ≤ 9223372036854775807) (hc : w.cell? ⟨nb, 0, none⟩ = some (.int .i64 n)) :
    Calls Try.prog 39 #[.pointer (some ⟨q, 0, none⟩), .pointer (some ⟨nb, 0, none⟩)] w fun x w' => Stp w lo hi q (r.bytes n).2 (fun x w' => ∃ v, x = .returned v ∧ Own w' w.heap.size 5 .u8 v (r.bytes n).1.length (ofL (r.bytes n).1)) x w' := by
  unfold Rd.bytes
  rw [if_neg (by simp [h0])]
  by_cases hn : n < 0
  · rw [if_pos hn]
    have hC := pNatural n w h1 h2
    simp only [if_pos hn] at hC
    have HC := hid hC
    clear hC h
    go_enter Try.func39, Try.ntmps39
    go_wp2_with (go_at_call 36; refine HC.out.mono ?_; rintro e w2 ⟨rfl, hw2⟩; subst w2)
    exact ⟨rfl, Hit.refl _ _, .inl ⟨by show (2 : Nat) ≠ 0; decide, rfl⟩⟩
  · rw [if_neg hn]
    have hC := pNatural n w h1 h2
    simp only [if_neg hn] at hC
    have HC := hid hC
    clear hC
    obtain ⟨k, hk⟩ : ∃ k, n.toNat = k := ⟨_, rfl⟩
    rw [hk] at HC ⊢
    have hk2 : k < 18446744073709551616 := by omega
    clear hk
    by_cases hs : r.rest.length < k
    · rw [if_pos hs]
      have HD := hid (pCut_no h k hk2 hs)
      clear h
      go_enter Try.func39, Try.ntmps39
      go_wp2_with (first
        | (go_at_call 36; refine HC.out.mono ?_; rintro e w2 ⟨rfl, hw2⟩; subst w2)
        | (go_at_call 40; refine HD.out.mono ?_; rintro e w2 ⟨rfl, hw2⟩; subst w2))
      exact ⟨rfl, Hit.refl _ _, .inl ⟨by show (71 : Nat) ≠ 0; decide, rfl⟩⟩
    · rw [if_neg hs]
      have HD := hid (pCut_ok h k hk2 (by omega))
      have hlen : (r.rest.take k).length = k := by rw [List.length_take]; omega
      have hl := h.len
      have HRst := hid (Rd.on_rest r k)
      have HL := hid hlen
      clear h hlen
      have hkl : k ≤ 140737488355328 := by omega
      obtain ⟨p, hp⟩ : ∃ p, r.rest.take k = p := ⟨_, rfl⟩
      rw [hp] at HD HL ⊢
      clear hp hs hl
      go_enter Try.func39, Try.ntmps39
      go_wp2_with (first
        | (go_at_call 36; refine HC.out.mono ?_; rintro e w2 ⟨rfl, hw2⟩; subst w2)
        | (go_at_call 40; refine HD.out.mono ?_; rintro e w3 ⟨a3, c3, rfl, h3, h4, h5, h6⟩; have hcl := pClone a3 p c3 w3 h3.bytes h3.nil (by rw [HL.out]; exact hkl); rw [HL.out] at hcl; have HCl := hid hcl; have H4 := hid h4; have H5 := hid h5; have H6 := hid h6; clear hcl h3 h4 h5 h6)
        | (go_at_call 32; refine HCl.out.mono ?_; rintro e w4 ⟨v4, rfl, h7⟩))
      go_ret
      refine ⟨hit_up H5.out h7.2, .inr ⟨h0, ?_, _, rfl, ?_⟩⟩
      · rw [HRst.out]; exact H4.out.later h7.2
      · rw [← H6.out]; exact h7.1
set_option maxRecDepth 4000 in
set_option maxHeartbeats 2000000 in
theorem pBlkS {w : World} {lo hi q nb : Nat} {r : Rd} (h0 : r.e = 0) (hlen : r.l.length + 20 ≤ 140737488355328) (h : RestAt w lo hi q r.rest) (n : Int) (h1 : -9223372036854775808 ≤ n) (h2 : n ≤ 9223372036854775807) (hc : w.cell? ⟨nb, 0, none⟩ = some (.int .i64 n)) :
    Calls Try.prog 34 #[.pointer (some ⟨q, 0, none⟩), .pointer (some ⟨nb, 0, none⟩)] w fun x w' => Stp w lo hi q (r.block n).2 (fun x w' => ∃ v, x = .returned v ∧ Own w' w.heap.size 5 .u8 v (r.block n).1.length (ofL (r.block n).1)) x w' := by
  by_cases hn : n < 0
  · have e : r.block n = ([], r.no 2) := by unfold Rd.block; rw [if_neg (by simp [h0]), if_pos hn]
    rw [e]
    have hC := pNatural n w h1 h2
    simp only [if_pos hn] at hC
    have HC := hid hC
    clear hC h e
    go_enter Try.func34, Try.ntmps34
    go_wp2_with (go_at_call 36; refine HC.out.mono ?_; rintro e w2 ⟨rfl, hw2⟩; subst w2)
    exact ⟨rfl, Hit.refl _ _, .inl ⟨by show (2 : Nat) ≠ 0; decide, rfl⟩⟩
  · have hC := pNatural n w h1 h2
    simp only [if_neg hn] at hC
    have HC := hid hC
    clear hC
    obtain ⟨k, hk⟩ : ∃ k : Nat, n = (k : Int) := ⟨n.toNat, by omega⟩
    subst hk
    rw [show ((k : Int)).toNat = k by omega] at HC
    have HD := hid (pBlockS h0 h k)
    have HB : Hid ((r.block (k : Int)).1.length ≤ 140737488355328) := by
      show _ ≤ _
      have := block_short r (k : Int)
      omega
    clear h hn
    generalize r.block (k : Int) = R at *
    by_cases he : R.2.e = 0
    · go_enter Try.func34, Try.ntmps34
      go_wp2_with (first
        | (go_at_call 36; refine HC.out.mono ?_; rintro e w2 ⟨rfl, hw2⟩; subst w2)
        | (go_at_call 35
           refine HD.out.mono ?_
           rintro e w3 ⟨h3, ⟨h4, _⟩ | ⟨_, h5, a3, c3, rfl, h6⟩⟩
           · exact absurd he h4
           have HCl := hid (pClone a3 R.1 c3 w3 h6.bytes h6.nil HB.out)
           have H3 := hid h3
           have H5 := hid h5
           clear h3 h5 h6)
        | (go_at_call 32; refine HCl.out.mono ?_; rintro e w4 ⟨v4, rfl, h7⟩))
      go_ret
      exact ⟨hit_up H3.out h7.2, .inr ⟨he, H5.out.later h7.2, _, rfl, h7.1.low H3.out.size⟩⟩
    · go_enter Try.func34, Try.ntmps34
      go_wp2_with (first
        | (go_at_call 36; refine HC.out.mono ?_; rintro e w2 ⟨rfl, hw2⟩; subst w2)
        | (go_at_call 35; refine (stp_no HD.out he).mono ?_; rintro e w2 ⟨rfl, h2⟩))
      exact ⟨rfl, h2, .inl ⟨he, rfl⟩⟩
theorem own_hit {w1 w2 : World} {B g : Nat} {v : Value} {n : Nat} {L : Nat → Nat} (h : Own w1 B 5 .u8 v n L) (hg : g < B) (hh : Hit g w1 w2) : Own w2 B 5 .u8 v n L :=
  h.kept fun j hj => hh.block j (h.lt j hj).2 (by have := (h.lt j hj).1; omega)
theorem hit_low {g : Nat} {a b c : World} (hb : Below a.heap.size a b) (h : Hit g b c) : Hit g a c := (hit_of_below hb).trans h
set_option maxRecDepth 4000 in
set_option maxHeartbeats 1000000 in
theorem pBytes {w : World} {lo hi g : Nat} {r : Rd} (h : ProgRd w lo hi g r) (n : Int) (h1 : -9223372036854775808 ≤ n) (h2 : n ≤ 9223372036854775807) :
    Calls Try.prog 14 #[.pointer (some ⟨g, 0, none⟩), .int .i64 n] w fun x w' => ∃ v, x = .returned v ∧ Own w' w.heap.size 5 .u8 v (r.bytes n).1.length (ofL (r.bytes n).1) ∧ ProgRd w' lo hi g (r.bytes n).2 ∧ Hit g w w' := by
  have hm := mkf
  have hb1 := below_new w (.cells #[.int .i64 n] 3)
  have hz1 : (w.alloc (.cells #[.int .i64 n] 3)).heap.size = w.heap.size + 1 := by simp
  have hc1 : (w.alloc (.cells #[.int .i64 n] 3)).cell? ⟨w.heap.size, 0, none⟩ = some (.int .i64 n) := by rw [cell_of_row _ _ _ _ _ _ (heap_alloc_new w _)]; rfl
  have hgl := Nat.lt_of_lt_of_le h.ghi h.top
  by_cases h0 : r.e = 0
  · obtain ⟨hg, hz⟩ := good_bytes h.ok h0 n
    have hlen := h.len
    have HC := hid (reading_bytes (h.later hb1) h0 39 (.pointer (some ⟨w.heap.size, 0, none⟩)) (fun _ _ => by kernel_rfl) (r.bytes n).2 (fun v w' => Own w' w.heap.size 5 .u8 v (r.bytes n).1.length (ofL (r.bytes n).1))
      (fun W lo' hi' q hq _ hb => (pBytesS h0 hq n h1 h2 ((hb.cell (p := ⟨w.heap.size, 0, none⟩) (by show w.heap.size < _; omega)).trans hc1)).mono fun x w' ⟨h1, h2⟩ => ⟨h1, h2.imp id fun ⟨p1, p2, v, p3, p4⟩ => ⟨p1, p2, v, p3, p4.low (by have := hb.size; omega)⟩⟩)
      (fun _ _ _ hh hp => own_hit hp hgl hh) hg.no hg.ok hg.low)
    have HZ := hid hz
    have HB := hid hb1
    clear h hg hz hb1 hz1 hc1 hlen
    generalize r.bytes n = R at *
    go_enter Try.func14, Try.ntmps14
    go_wp2_with (go_at_call 33; refine HC.out.mono ?_; rintro e w2 ⟨v2, rfl, h2, h3, h4⟩)
    go_ret
    refine ⟨_, rfl, ?_, h3, hit_low HB.out h4⟩
    rcases h2 with ⟨h2, rfl⟩ | ⟨_, h2⟩
    · rw [HZ.out h2]; exact Own.nil _ _ _ _ _
    · exact h2
  · rw [bytes_e h0]
    have HC := hid (reading_bad_bytes (h.later hb1) h0 39 (.pointer (some ⟨w.heap.size, 0, none⟩)))
    have HH := hid h
    have HB := hid hb1
    clear h hb1 hz1 hc1
    go_enter Try.func14, Try.ntmps14
    go_wp2_with (go_at_call 33; refine HC.out.mono ?_; rintro e w2 ⟨rfl, h2⟩)
    go_ret
    exact ⟨_, rfl, Own.nil _ _ _ _ _, HH.out.later (below_up HB.out h2), hit_of_below (below_up HB.out h2)⟩
set_option maxRecDepth 4000 in
set_option maxHeartbeats 1000000 in
theorem pBytes_nil (w : World) (n : Int) : Calls Try.prog 14 #[.pointer none, .int .i64 n] w fun x w' => x = .returned (.slice none 0 0) ∧ Below w.heap.size w w' := by
  have hm := mkf
  have HB := hid (below_new w (.cells #[.int .i64 n] 3))
  have HC := hid (reading_nil_bytes (w.alloc (.cells #[.int .i64 n] 3)) 39 (.pointer (some ⟨w.heap.size, 0, none⟩)))
  go_enter Try.func14, Try.ntmps14
  go_wp2_with (go_at_call 33; refine HC.out.mono ?_; rintro e w2 ⟨rfl, h2⟩)
  go_ret
  exact ⟨rfl, below_up HB.out h2⟩
set_option maxRecDepth 4000 in
set_option maxHeartbeats 1000000 in
theorem pBlock {w : World} {lo hi g : Nat} {r : Rd} (h : ProgRd w lo hi g r) (n : Int) (h1 : -9223372036854775808 ≤ n) (h2 : n ≤ 9223372036854775807) :
    Calls Try.prog 12 #[.pointer (some ⟨g, 0, none⟩), .int .i64 n] w fun x w' => ∃ v, x = .returned v ∧ Own w' w.heap.size 5 .u8 v (r.block n).1.length (ofL (r.block n).1) ∧ ProgRd w' lo hi g (r.block n).2 ∧ Hit g w w' := by
  have hm := mkf
  have hb1 := below_new w (.cells #[.int .i64 n] 3)
  have hz1 : (w.alloc (.cells #[.int .i64 n] 3)).heap.size = w.heap.size + 1 := by simp
  have hc1 : (w.alloc (.cells #[.int .i64 n] 3)).cell? ⟨w.heap.size, 0, none⟩ = some (.int .i64 n) := by rw [cell_of_row _ _ _ _ _ _ (heap_alloc_new w _)]; rfl
  have hgl := Nat.lt_of_lt_of_le h.ghi h.top
  by_cases h0 : r.e = 0
  · obtain ⟨hg, hz⟩ := good_block h.ok h0 n
    have hlen := h.len
    have HC := hid (reading_bytes (h.later hb1) h0 34 (.pointer (some ⟨w.heap.size, 0, none⟩)) (fun _ _ => by kernel_rfl) (r.block n).2 (fun v w' => Own w' w.heap.size 5 .u8 v (r.block n).1.length (ofL (r.block n).1))
      (fun W lo' hi' q hq _ hb => (pBlkS h0 hlen hq n h1 h2 ((hb.cell (p := ⟨w.heap.size, 0, none⟩) (by show w.heap.size < _; omega)).trans hc1)).mono fun x w' ⟨h1, h2⟩ => ⟨h1, h2.imp id fun ⟨p1, p2, v, p3, p4⟩ => ⟨p1, p2, v, p3, p4.low (by have := hb.size; omega)⟩⟩)
      (fun _ _ _ hh hp => own_hit hp hgl hh) hg.no hg.ok hg.low)
    have HZ := hid hz
    have HB := hid hb1
    clear h hg hz hb1 hz1 hc1 hlen
    generalize r.block n = R at *
    go_enter Try.func12, Try.ntmps12
    go_wp2_with (go_at_call 33; refine HC.out.mono ?_; rintro e w2 ⟨v2, rfl, h2, h3, h4⟩)
    go_ret
    refine ⟨_, rfl, ?_, h3, hit_low HB.out h4⟩
    rcases h2 with ⟨h2, rfl⟩ | ⟨_, h2⟩
    · rw [HZ.out h2]; exact Own.nil _ _ _ _ _
    · exact h2
  · rw [block_e h0]
    have HC := hid (reading_bad_bytes (h.later hb1) h0 34 (.pointer (some ⟨w.heap.size, 0, none⟩)))
    have HH := hid h
    have HB := hid hb1
    clear h hb1 hz1 hc1
    go_enter Try.func12, Try.ntmps12
    go_wp2_with (go_at_call 33; refine HC.out.mono ?_; rintro e w2 ⟨rfl, h2⟩)
    go_ret
    exact ⟨_, rfl, Own.nil _ _ _ _ _, HH.out.later (below_up HB.out h2), hit_of_below (below_up HB.out h2)⟩
set_option maxRecDepth 4000 in
set_option maxHeartbeats 1000000 in
theorem pBlock_nil (w : World) (n : Int) : Calls Try.prog 12 #[.pointer none, .int .i64 n] w fun x w' => x = .returned (.slice none 0 0) ∧ Below w.heap.size w w' := by
  have hm := mkf
  have HB := hid (below_new w (.cells #[.int .i64 n] 3))
  have HC := hid (reading_nil_bytes (w.alloc (.cells #[.int .i64 n] 3)) 34 (.pointer (some ⟨w.heap.size, 0, none⟩)))
  go_enter Try.func12, Try.ntmps12
  go_wp2_with (go_at_call 33; refine HC.out.mono ?_; rintro e w2 ⟨rfl, h2⟩)
  go_ret
  exact ⟨rfl, below_up HB.out h2⟩
theorem rd_new {l : List Nat} : (Rd.mk l 0 0).rest = l := rfl
set_option maxRecDepth 4000 in
set_option maxHeartbeats 1000000 in
theorem pOpen (a : Option Addr) (l : List Nat) (c : Nat) (w : World) (hA : Bytes w a l) (ha : a = none → l.length = 0 ∧ c = 0) (hl : ∀ c ∈ l, c < 256) (hn : l.length + 20 ≤ 140737488355328) :
    Calls Try.prog 11 #[.slice a l.length c] w fun x w' => ∃ g, x = .returned (.pointer (some ⟨g, 0, none⟩)) ∧ ProgRd w' w.heap.size w'.heap.size g ⟨l, 0, 0⟩ ∧ Below w.heap.size w w' := by
  have HJ := hid (pClone a l c w hA ha (by omega))
  clear hA ha
  go_enter Try.func11, Try.ntmps11
  go_wp2_with (go_at_call 32; refine HJ.out.mono ?_; rintro e w2 ⟨v2, rfl, h2⟩; obtain ⟨a2, c2, rfl, h21, h22, h23⟩ := h2.1.form; clear HJ)
  go_ret
  have hb : Below w.heap.size w (w2.alloc (.cells #[.slice a2 l.length c2, .int .i64 0] tPr)) := h2.2.alloc h2.2.size _
  refine ⟨w2.heap.size, rfl, ⟨h2.2.size, by simp, by simp, ⟨a2, c2, heap_alloc_new w2 _, ⟨?_, h23, h21, h22, ?_⟩⟩, ok_new hl, hn, by show 0 < 1000; omega⟩, hb⟩
  · exact Nums.later h2.1.nums (below_new w2 _)
  · intro x hx
    subst hx
    rcases h2.1.blk with ⟨hv, _⟩ | ⟨g, c', hv, hg1, hg2, _⟩
    · cases hv
    · cases hv
      exact ⟨hg1, by simp; omega, by show g ≠ w2.heap.size; omega, rfl⟩
end Go.Proofs.Ytjphnkjikemghaa
