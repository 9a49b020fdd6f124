/-
  The law's back, by kinds.
-/
import Derived.Test.YtefjhiodeaohcaaPPutTh
import Derived.Test.YtefjhiodeaohcaaUFacts
namespace Go.Proofs.Ytefjhiodeaohcaa
open Go.RowKit Cu

theorem thing_cells {w : World} {z : Nat} {a b c d e : Value} (h : w.heap[z]? = some (.cells #[a, b, c, d, e] tThing (0, 0))) : w.cell? ⟨z, 0, none⟩ = some a ∧ w.cell? ⟨z, 1, none⟩ = some b ∧ w.cell? ⟨z, 2, none⟩ = some c ∧ w.cell? ⟨z, 3, none⟩ = some d ∧ w.cell? ⟨z, 4, none⟩ = some e := by
  refine ⟨?_, ?_, ?_, ?_, ?_⟩
  · rw [cell_of_row _ _ _ _ _ _ h]; rfl
  · rw [cell_of_row _ _ _ _ _ _ h]; rfl
  · rw [cell_of_row _ _ _ _ _ _ h]; rfl
  · rw [cell_of_row _ _ _ _ _ _ h]; rfl
  · rw [cell_of_row _ _ _ _ _ _ h]; rfl
/-- What back answers, and what it makes of the reader. -/
def backM (x : Th) (r : Rd) : Bool × Rd := match pickN x.k 9 with
  | 0 => (decide ((r.fix 1).1 = x.u % 256), (r.fix 1).2)
  | 1 => (decide ((r.fix 2).1 = x.u % 65536), (r.fix 2).2)
  | 2 => (decide ((r.fix 4).1 = x.u % 4294967296), (r.fix 4).2)
  | 3 => (decide ((r.fix 8).1 = x.u), (r.fix 8).2)
  | 4 => (decide ((r.fix 2).1 = x.u % 65536), (r.fix 2).2)
  | 5 => (decide (r.uv.1 = x.u), r.uv.2)
  | 6 => (decide (unfold' r.uv.1 = x.s), r.uv.2)
  | 7 => (decide ((r.block x.b.length).1 = x.b), (r.block x.b.length).2)
  | _ => (decide ((r.texts x.T.length (lgT x.T x.T.length : Nat)).1.map strL = x.T), (r.texts x.T.length (lgT x.T x.T.length : Nat)).2)
theorem nat_beq (a b : Nat) : ((a : Int) == (b : Int)) = decide (a = b) := by
  rw [Bool.eq_iff_iff]; simp only [beq_iff_eq, decide_eq_true_eq]; omega
theorem int_beq (a b : Int) : (a == b) = decide (a = b) := by
  rw [Bool.eq_iff_iff]; simp
theorem str_beq (s t : ByteArray) : (s.toList == t.toList) = decide (s = t) := by
  rw [Bool.eq_iff_iff]
  simp only [beq_iff_eq, decide_eq_true_eq]
  constructor
  · intro h
    rw [Go.ByteArray.toList_eq, Go.ByteArray.toList_eq] at h
    exact ByteArray.ext (Array.toList_inj.1 h)
  · intro h; rw [h]
theorem aw_back {w W w3 : World} {g : Nat} (hb : Below w.heap.size w W) (h4 : Hit g (W.drewN 1) w3) : Hit g w w3 := (hit_of_below (below_drewN hb 1)).trans h4
theorem block_mem {r : Rd} (h : r.Ok) (n : Int) : ∀ c ∈ (r.block n).1, c < 256 := by
  by_cases h0 : r.e = 0
  · by_cases he : (r.block n).2.e = 0
    · have t := (block_took h n he).1
      intro c hc
      exact h.rest c (by rw [t.2.1]; exact List.mem_append_left _ (by unfold encB; exact List.mem_append_right _ hc))
    · rw [(good_block h h0 n).2 he]; intro c hc; cases hc
  · rw [block_e h0]; intro c hc; cases hc
theorem bytes_hit {w w' : World} {a : Option Addr} {l : List Nat} {g : Nat} (h : Bytes w a l) (hh : Hit g w w') (hn : ∀ y, a = some y → 0 < l.length → y.block ≠ g) : Bytes w' a l := fun j hj => by
  obtain ⟨b, o, e, hg, hc⟩ := h j hj
  exact ⟨b, o, e, Nat.lt_of_lt_of_le hg hh.size, by rw [World.cell?_of_block (w := w) (a := ⟨b, o + j, none⟩) (hh.block b hg (hn _ e (by omega)))]; exact hc⟩
theorem strs_hit {w w' : World} {a : Option Addr} {T : List ByteArray} {g : Nat} (h : Strs w a T) (hh : Hit g w w') (hn : ∀ y, a = some y → 0 < T.length → y.block ≠ g) : Strs w' a T := fun j s hj => by
  obtain ⟨b, o, e, hg, hc⟩ := h j s hj
  exact ⟨b, o, e, Nat.lt_of_lt_of_le hg hh.size, by rw [World.cell?_of_block (w := w) (a := ⟨b, o + j, none⟩) (hh.block b hg (hn _ e (by have := (List.getElem?_eq_some_iff.1 hj).1; omega)))]; exact hc⟩
theorem texts_count {r : Rd} (h : r.Ok) (n e : Int) : (r.texts n e).1.length ≤ r.l.length := by
  by_cases h0 : r.e = 0
  · by_cases he : (r.texts n e).2.e = 0
    · have t := texts_took h n e he
      have h1 := took_len t
      have h2 := encBs_count (r.texts n e).1
      unfold encT at h1
      rw [List.length_append] at h1
      omega
    · rw [(good_texts h h0 n e).2 he]; exact Nat.zero_le _
  · rw [texts_e h0]; exact Nat.zero_le _
set_option maxRecDepth 4000 in
set_option maxHeartbeats 4000000 in
theorem back0 {w : World} {x : Th} {lo hi g : Nat} {r : Rd} (h : ThOk w x) (hp : ProgRd w lo hi g r) (hk : pickN x.k 9 = 0) :
    Calls Try.prog 20 #[.pointer (some ⟨g, 0, none⟩), thV x] w fun e w' => e = .returned (.bool (backM x r).1) ∧ ProgRd w' lo hi g (backM x r).2 ∧ Hit g w w' := by
  have hP := fun W => pick_any x.k 9 W (by omega) (by omega)
  rw [hk] at hP
  have HP := hid hP
  have hb1 := below_new w (.cells #[.int .i64 x.k, .int .u64 (x.u : Int), .int .i64 x.s, .slice x.ab x.b.length x.cb, .slice x.at3 x.T.length x.ct] tThing)
  have hgl := Nat.lt_of_lt_of_le hp.ghi hp.top
  have hp1 := (hp.later hb1).drewN 1
  have HC := hid (pTake_uint8 hp1)
  have HB := hid hb1
  have HR : Hid ((w.alloc (.cells #[.int .i64 x.k, .int .u64 (x.u : Int), .int .i64 x.s, .slice x.ab x.b.length x.cb, .slice x.at3 x.T.length x.ct] tThing)).heap[w.heap.size]? = some (.cells #[.int .i64 x.k, .int .u64 (x.u : Int), .int .i64 x.s, .slice x.ab x.b.length x.cb, .slice x.at3 x.T.length x.ct] tThing (0, 0))) := heap_alloc_new w _
  have HZ : Hid ((w.alloc (.cells #[.int .i64 x.k, .int .u64 (x.u : Int), .int .i64 x.s, .slice x.ab x.b.length x.cb, .slice x.at3 x.T.length x.ct] tThing)).heap.size = w.heap.size + 1) := by show _ = _; simp
  have hu := h.u
  have HE : Hid (backM x r = (decide ((r.fix 1).1 = x.u % 256), (r.fix 1).2)) := by show backM x r = _; unfold backM; rw [hk]; try rfl
  obtain ⟨z, hz⟩ : ∃ z, x.u % 256 = z := ⟨_, rfl⟩
  have hm : (x.u : Int) % 256 = (z : Int) := by omega
  have hm2 : IntKind.u8.wrap (x.u : Int) = (z : Int) := by rw [IntKind.wrap_u8]; exact hm
  rw [hz] at HE
  clear hz
  clear h hP hb1 hp hp1
  rw [HE.out]
  generalize r.fix 1 = R at *
  clear HE
  unfold thV
  go_enter Try.func20, Try.ntmps20
  go_wp2_with (go_at_call 12; refine (HP.out _).mono ?_; rintro e w2 ⟨rfl, hw2⟩; subst w2)
  refine wp_region_held_drew (S := fun W => W.heap[w.heap.size]? = some (.cells #[.int .i64 x.k, .int .u64 (x.u : Int), .int .i64 x.s, .slice x.ab x.b.length x.cb, .slice x.at3 x.T.length x.ct] tThing (0, 0))) (by kernel_rfl) HR.out (fun hSd => ?_)
  refine wpAnyH_take (i := 0) (v := ?_) rfl (by kernel_rfl) (by kernel_rfl) (by kernel_rfl) (fun _ _ _ h => h) (Or.inl ⟨by rfl, ?_⟩) (by assumption) ?_
  rotate_left
  · intro W hSw
    obtain ⟨t0, t1, t2, t3, t4⟩ := thing_cells hSw
    go_simp
    try with_reducible rfl
  refine wpAnyH_take (i := 2) (v := ?_) rfl (by kernel_rfl) (by kernel_rfl) (by kernel_rfl) (fun _ _ _ h => h) (Or.inl ⟨by rfl, ?_⟩) (by assumption) ?_
  rotate_left
  · intro W hSw
    obtain ⟨t0, t1, t2, t3, t4⟩ := thing_cells hSw
    go_simp
    try with_reducible rfl
  refine wpAnyH_take (i := 3) (v := ?_) rfl (by kernel_rfl) (by kernel_rfl) (by kernel_rfl) (fun _ _ _ h => h) (Or.inl ⟨by rfl, ?_⟩) (by assumption) ?_
  rotate_left
  · intro W hSw
    obtain ⟨t0, t1, t2, t3, t4⟩ := thing_cells hSw
    go_simp
    try with_reducible rfl
  refine wpAnyH_take (i := 4) (v := ?_) rfl (by kernel_rfl) (by kernel_rfl) (by kernel_rfl) (fun _ _ _ h => h) (Or.inl ⟨by rfl, ?_⟩) (by assumption) ?_
  rotate_left
  · intro W hSw
    obtain ⟨t0, t1, t2, t3, t4⟩ := thing_cells hSw
    go_simp
    try with_reducible rfl
  refine wpAnyH_ready (rs := [1]) (by kernel_rfl) (by simp) ?_
  refine AllReadyH.cons rfl (fun K hK => ?_) AllReadyH.nil
  rw [if_pos (by rfl)]
  go_simp
  refine HC.out.mono ?_
  rintro e w3 ⟨rfl, h3, h4⟩
  have hs3 := (h4.block w.heap.size (by show w.heap.size < (w.alloc (.cells #[.int .i64 x.k, .int .u64 (x.u : Int), .int .i64 x.s, .slice x.ab x.b.length x.cb, .slice x.at3 x.T.length x.ct] tThing)).heap.size; rw [HZ.out]; omega) (by omega)).trans HR.out
  refine hK.out _ _ hs3 (fun hSd => ?_)
  clear hK K
  refine wpAnyH_take (i := 5) (v := ?_) rfl (by kernel_rfl) (by kernel_rfl) (by kernel_rfl) (fun _ _ _ h => h) (Or.inl ⟨by rfl, ?_⟩) (by assumption) ?_
  rotate_left
  · intro W hSw
    go_simp
    try with_reducible rfl
  refine wpAnyH_take (i := 6) (v := ?_) rfl (by kernel_rfl) (by kernel_rfl) (by kernel_rfl) (fun _ _ _ h => h) (Or.inl ⟨by rfl, ?_⟩) (by assumption) ?_
  rotate_left
  · intro W hSw
    go_simp
    try with_reducible rfl
  refine wpAnyH_done (by kernel_rfl) ?_ _
  go_wp2_with fail
  go_ret
  exact ⟨ret_bool (nat_beq _ _), h3, aw_back HB.out h4⟩
set_option maxRecDepth 4000 in
set_option maxHeartbeats 4000000 in
theorem back1 {w : World} {x : Th} {lo hi g : Nat} {r : Rd} (h : ThOk w x) (hp : ProgRd w lo hi g r) (hk : pickN x.k 9 = 1) :
    Calls Try.prog 20 #[.pointer (some ⟨g, 0, none⟩), thV x] w fun e w' => e = .returned (.bool (backM x r).1) ∧ ProgRd w' lo hi g (backM x r).2 ∧ Hit g w w' := by
  have hP := fun W => pick_any x.k 9 W (by omega) (by omega)
  rw [hk] at hP
  have HP := hid hP
  have hb1 := below_new w (.cells #[.int .i64 x.k, .int .u64 (x.u : Int), .int .i64 x.s, .slice x.ab x.b.length x.cb, .slice x.at3 x.T.length x.ct] tThing)
  have hgl := Nat.lt_of_lt_of_le hp.ghi hp.top
  have hp1 := (hp.later hb1).drewN 1
  have HC := hid (pTake_uint16 hp1)
  have HB := hid hb1
  have HR : Hid ((w.alloc (.cells #[.int .i64 x.k, .int .u64 (x.u : Int), .int .i64 x.s, .slice x.ab x.b.length x.cb, .slice x.at3 x.T.length x.ct] tThing)).heap[w.heap.size]? = some (.cells #[.int .i64 x.k, .int .u64 (x.u : Int), .int .i64 x.s, .slice x.ab x.b.length x.cb, .slice x.at3 x.T.length x.ct] tThing (0, 0))) := heap_alloc_new w _
  have HZ : Hid ((w.alloc (.cells #[.int .i64 x.k, .int .u64 (x.u : Int), .int .i64 x.s, .slice x.ab x.b.length x.cb, .slice x.at3 x.T.length x.ct] tThing)).heap.size = w.heap.size + 1) := by show _ = _; simp
  have hu := h.u
  have HE : Hid (backM x r = (decide ((r.fix 2).1 = x.u % 65536), (r.fix 2).2)) := by show backM x r = _; unfold backM; rw [hk]; try rfl
  obtain ⟨z, hz⟩ : ∃ z, x.u % 65536 = z := ⟨_, rfl⟩
  have hm : (x.u : Int) % 65536 = (z : Int) := by omega
  have hm2 : IntKind.u16.wrap (x.u : Int) = (z : Int) := by rw [IntKind.wrap_u16]; exact hm
  rw [hz] at HE
  clear hz
  clear h hP hb1 hp hp1
  rw [HE.out]
  generalize r.fix 2 = R at *
  clear HE
  unfold thV
  go_enter Try.func20, Try.ntmps20
  go_wp2_with (go_at_call 12; refine (HP.out _).mono ?_; rintro e w2 ⟨rfl, hw2⟩; subst w2)
  refine wp_region_held_drew (S := fun W => W.heap[w.heap.size]? = some (.cells #[.int .i64 x.k, .int .u64 (x.u : Int), .int .i64 x.s, .slice x.ab x.b.length x.cb, .slice x.at3 x.T.length x.ct] tThing (0, 0))) (by kernel_rfl) HR.out (fun hSd => ?_)
  refine wpAnyH_take (i := 0) (v := ?_) rfl (by kernel_rfl) (by kernel_rfl) (by kernel_rfl) (fun _ _ _ h => h) (Or.inl ⟨by rfl, ?_⟩) (by assumption) ?_
  rotate_left
  · intro W hSw
    obtain ⟨t0, t1, t2, t3, t4⟩ := thing_cells hSw
    go_simp
    try with_reducible rfl
  refine wpAnyH_take (i := 2) (v := ?_) rfl (by kernel_rfl) (by kernel_rfl) (by kernel_rfl) (fun _ _ _ h => h) (Or.inl ⟨by rfl, ?_⟩) (by assumption) ?_
  rotate_left
  · intro W hSw
    obtain ⟨t0, t1, t2, t3, t4⟩ := thing_cells hSw
    go_simp
    try with_reducible rfl
  refine wpAnyH_take (i := 3) (v := ?_) rfl (by kernel_rfl) (by kernel_rfl) (by kernel_rfl) (fun _ _ _ h => h) (Or.inl ⟨by rfl, ?_⟩) (by assumption) ?_
  rotate_left
  · intro W hSw
    obtain ⟨t0, t1, t2, t3, t4⟩ := thing_cells hSw
    go_simp
    try with_reducible rfl
  refine wpAnyH_take (i := 4) (v := ?_) rfl (by kernel_rfl) (by kernel_rfl) (by kernel_rfl) (fun _ _ _ h => h) (Or.inl ⟨by rfl, ?_⟩) (by assumption) ?_
  rotate_left
  · intro W hSw
    obtain ⟨t0, t1, t2, t3, t4⟩ := thing_cells hSw
    go_simp
    try with_reducible rfl
  refine wpAnyH_ready (rs := [1]) (by kernel_rfl) (by simp) ?_
  refine AllReadyH.cons rfl (fun K hK => ?_) AllReadyH.nil
  rw [if_pos (by rfl)]
  go_simp
  refine HC.out.mono ?_
  rintro e w3 ⟨rfl, h3, h4⟩
  have hs3 := (h4.block w.heap.size (by show w.heap.size < (w.alloc (.cells #[.int .i64 x.k, .int .u64 (x.u : Int), .int .i64 x.s, .slice x.ab x.b.length x.cb, .slice x.at3 x.T.length x.ct] tThing)).heap.size; rw [HZ.out]; omega) (by omega)).trans HR.out
  refine hK.out _ _ hs3 (fun hSd => ?_)
  clear hK K
  refine wpAnyH_take (i := 5) (v := ?_) rfl (by kernel_rfl) (by kernel_rfl) (by kernel_rfl) (fun _ _ _ h => h) (Or.inl ⟨by rfl, ?_⟩) (by assumption) ?_
  rotate_left
  · intro W hSw
    go_simp
    try with_reducible rfl
  refine wpAnyH_take (i := 6) (v := ?_) rfl (by kernel_rfl) (by kernel_rfl) (by kernel_rfl) (fun _ _ _ h => h) (Or.inl ⟨by rfl, ?_⟩) (by assumption) ?_
  rotate_left
  · intro W hSw
    go_simp
    try with_reducible rfl
  refine wpAnyH_done (by kernel_rfl) ?_ _
  go_wp2_with fail
  go_ret
  exact ⟨ret_bool (nat_beq _ _), h3, aw_back HB.out h4⟩
set_option maxRecDepth 4000 in
set_option maxHeartbeats 4000000 in
theorem back2 {w : World} {x : Th} {lo hi g : Nat} {r : Rd} (h : ThOk w x) (hp : ProgRd w lo hi g r) (hk : pickN x.k 9 = 2) :
    Calls Try.prog 20 #[.pointer (some ⟨g, 0, none⟩), thV x] w fun e w' => e = .returned (.bool (backM x r).1) ∧ ProgRd w' lo hi g (backM x r).2 ∧ Hit g w w' := by
  have hP := fun W => pick_any x.k 9 W (by omega) (by omega)
  rw [hk] at hP
  have HP := hid hP
  have hb1 := below_new w (.cells #[.int .i64 x.k, .int .u64 (x.u : Int), .int .i64 x.s, .slice x.ab x.b.length x.cb, .slice x.at3 x.T.length x.ct] tThing)
  have hgl := Nat.lt_of_lt_of_le hp.ghi hp.top
  have hp1 := (hp.later hb1).drewN 1
  have HC := hid (pTake_uint32 hp1)
  have HB := hid hb1
  have HR : Hid ((w.alloc (.cells #[.int .i64 x.k, .int .u64 (x.u : Int), .int .i64 x.s, .slice x.ab x.b.length x.cb, .slice x.at3 x.T.length x.ct] tThing)).heap[w.heap.size]? = some (.cells #[.int .i64 x.k, .int .u64 (x.u : Int), .int .i64 x.s, .slice x.ab x.b.length x.cb, .slice x.at3 x.T.length x.ct] tThing (0, 0))) := heap_alloc_new w _
  have HZ : Hid ((w.alloc (.cells #[.int .i64 x.k, .int .u64 (x.u : Int), .int .i64 x.s, .slice x.ab x.b.length x.cb, .slice x.at3 x.T.length x.ct] tThing)).heap.size = w.heap.size + 1) := by show _ = _; simp
  have hu := h.u
  have HE : Hid (backM x r = (decide ((r.fix 4).1 = x.u % 4294967296), (r.fix 4).2)) := by show backM x r = _; unfold backM; rw [hk]; try rfl
  obtain ⟨z, hz⟩ : ∃ z, x.u % 4294967296 = z := ⟨_, rfl⟩
  have hm : (x.u : Int) % 4294967296 = (z : Int) := by omega
  have hm2 : IntKind.u32.wrap (x.u : Int) = (z : Int) := by rw [IntKind.wrap_u32]; exact hm
  rw [hz] at HE
  clear hz
  clear h hP hb1 hp hp1
  rw [HE.out]
  generalize r.fix 4 = R at *
  clear HE
  unfold thV
  go_enter Try.func20, Try.ntmps20
  go_wp2_with (go_at_call 12; refine (HP.out _).mono ?_; rintro e w2 ⟨rfl, hw2⟩; subst w2)
  refine wp_region_held_drew (S := fun W => W.heap[w.heap.size]? = some (.cells #[.int .i64 x.k, .int .u64 (x.u : Int), .int .i64 x.s, .slice x.ab x.b.length x.cb, .slice x.at3 x.T.length x.ct] tThing (0, 0))) (by kernel_rfl) HR.out (fun hSd => ?_)
  refine wpAnyH_take (i := 0) (v := ?_) rfl (by kernel_rfl) (by kernel_rfl) (by kernel_rfl) (fun _ _ _ h => h) (Or.inl ⟨by rfl, ?_⟩) (by assumption) ?_
  rotate_left
  · intro W hSw
    obtain ⟨t0, t1, t2, t3, t4⟩ := thing_cells hSw
    go_simp
    try with_reducible rfl
  refine wpAnyH_take (i := 2) (v := ?_) rfl (by kernel_rfl) (by kernel_rfl) (by kernel_rfl) (fun _ _ _ h => h) (Or.inl ⟨by rfl, ?_⟩) (by assumption) ?_
  rotate_left
  · intro W hSw
    obtain ⟨t0, t1, t2, t3, t4⟩ := thing_cells hSw
    go_simp
    try with_reducible rfl
  refine wpAnyH_take (i := 3) (v := ?_) rfl (by kernel_rfl) (by kernel_rfl) (by kernel_rfl) (fun _ _ _ h => h) (Or.inl ⟨by rfl, ?_⟩) (by assumption) ?_
  rotate_left
  · intro W hSw
    obtain ⟨t0, t1, t2, t3, t4⟩ := thing_cells hSw
    go_simp
    try with_reducible rfl
  refine wpAnyH_take (i := 4) (v := ?_) rfl (by kernel_rfl) (by kernel_rfl) (by kernel_rfl) (fun _ _ _ h => h) (Or.inl ⟨by rfl, ?_⟩) (by assumption) ?_
  rotate_left
  · intro W hSw
    obtain ⟨t0, t1, t2, t3, t4⟩ := thing_cells hSw
    go_simp
    try with_reducible rfl
  refine wpAnyH_ready (rs := [1]) (by kernel_rfl) (by simp) ?_
  refine AllReadyH.cons rfl (fun K hK => ?_) AllReadyH.nil
  rw [if_pos (by rfl)]
  go_simp
  refine HC.out.mono ?_
  rintro e w3 ⟨rfl, h3, h4⟩
  have hs3 := (h4.block w.heap.size (by show w.heap.size < (w.alloc (.cells #[.int .i64 x.k, .int .u64 (x.u : Int), .int .i64 x.s, .slice x.ab x.b.length x.cb, .slice x.at3 x.T.length x.ct] tThing)).heap.size; rw [HZ.out]; omega) (by omega)).trans HR.out
  refine hK.out _ _ hs3 (fun hSd => ?_)
  clear hK K
  refine wpAnyH_take (i := 5) (v := ?_) rfl (by kernel_rfl) (by kernel_rfl) (by kernel_rfl) (fun _ _ _ h => h) (Or.inl ⟨by rfl, ?_⟩) (by assumption) ?_
  rotate_left
  · intro W hSw
    go_simp
    try with_reducible rfl
  refine wpAnyH_take (i := 6) (v := ?_) rfl (by kernel_rfl) (by kernel_rfl) (by kernel_rfl) (fun _ _ _ h => h) (Or.inl ⟨by rfl, ?_⟩) (by assumption) ?_
  rotate_left
  · intro W hSw
    go_simp
    try with_reducible rfl
  refine wpAnyH_done (by kernel_rfl) ?_ _
  go_wp2_with fail
  go_ret
  exact ⟨ret_bool (nat_beq _ _), h3, aw_back HB.out h4⟩
set_option maxRecDepth 4000 in
set_option maxHeartbeats 4000000 in
theorem back3 {w : World} {x : Th} {lo hi g : Nat} {r : Rd} (h : ThOk w x) (hp : ProgRd w lo hi g r) (hk : pickN x.k 9 = 3) :
    Calls Try.prog 20 #[.pointer (some ⟨g, 0, none⟩), thV x] w fun e w' => e = .returned (.bool (backM x r).1) ∧ ProgRd w' lo hi g (backM x r).2 ∧ Hit g w w' := by
  have hP := fun W => pick_any x.k 9 W (by omega) (by omega)
  rw [hk] at hP
  have HP := hid hP
  have hb1 := below_new w (.cells #[.int .i64 x.k, .int .u64 (x.u : Int), .int .i64 x.s, .slice x.ab x.b.length x.cb, .slice x.at3 x.T.length x.ct] tThing)
  have hgl := Nat.lt_of_lt_of_le hp.ghi hp.top
  have hp1 := (hp.later hb1).drewN 1
  have HC := hid (pTake_uint64 hp1)
  have HB := hid hb1
  have HR : Hid ((w.alloc (.cells #[.int .i64 x.k, .int .u64 (x.u : Int), .int .i64 x.s, .slice x.ab x.b.length x.cb, .slice x.at3 x.T.length x.ct] tThing)).heap[w.heap.size]? = some (.cells #[.int .i64 x.k, .int .u64 (x.u : Int), .int .i64 x.s, .slice x.ab x.b.length x.cb, .slice x.at3 x.T.length x.ct] tThing (0, 0))) := heap_alloc_new w _
  have HZ : Hid ((w.alloc (.cells #[.int .i64 x.k, .int .u64 (x.u : Int), .int .i64 x.s, .slice x.ab x.b.length x.cb, .slice x.at3 x.T.length x.ct] tThing)).heap.size = w.heap.size + 1) := by show _ = _; simp
  have hu := h.u
  have HE : Hid (backM x r = (decide ((r.fix 8).1 = x.u), (r.fix 8).2)) := by show backM x r = _; unfold backM; rw [hk]; try rfl
  clear h hP hb1 hp hp1
  rw [HE.out]
  generalize r.fix 8 = R at *
  clear HE
  unfold thV
  go_enter Try.func20, Try.ntmps20
  go_wp2_with (go_at_call 12; refine (HP.out _).mono ?_; rintro e w2 ⟨rfl, hw2⟩; subst w2)
  refine wp_region_held_drew (S := fun W => W.heap[w.heap.size]? = some (.cells #[.int .i64 x.k, .int .u64 (x.u : Int), .int .i64 x.s, .slice x.ab x.b.length x.cb, .slice x.at3 x.T.length x.ct] tThing (0, 0))) (by kernel_rfl) HR.out (fun hSd => ?_)
  refine wpAnyH_take (i := 0) (v := ?_) rfl (by kernel_rfl) (by kernel_rfl) (by kernel_rfl) (fun _ _ _ h => h) (Or.inl ⟨by rfl, ?_⟩) (by assumption) ?_
  rotate_left
  · intro W hSw
    obtain ⟨t0, t1, t2, t3, t4⟩ := thing_cells hSw
    go_simp
    try with_reducible rfl
  refine wpAnyH_take (i := 2) (v := ?_) rfl (by kernel_rfl) (by kernel_rfl) (by kernel_rfl) (fun _ _ _ h => h) (Or.inl ⟨by rfl, ?_⟩) (by assumption) ?_
  rotate_left
  · intro W hSw
    obtain ⟨t0, t1, t2, t3, t4⟩ := thing_cells hSw
    go_simp
    try with_reducible rfl
  refine wpAnyH_take (i := 3) (v := ?_) rfl (by kernel_rfl) (by kernel_rfl) (by kernel_rfl) (fun _ _ _ h => h) (Or.inl ⟨by rfl, ?_⟩) (by assumption) ?_
  rotate_left
  · intro W hSw
    obtain ⟨t0, t1, t2, t3, t4⟩ := thing_cells hSw
    go_simp
    try with_reducible rfl
  refine wpAnyH_ready (rs := [1]) (by kernel_rfl) (by simp) ?_
  refine AllReadyH.cons rfl (fun K hK => ?_) AllReadyH.nil
  rw [if_pos (by rfl)]
  go_simp
  refine HC.out.mono ?_
  rintro e w3 ⟨rfl, h3, h4⟩
  have hs3 := (h4.block w.heap.size (by show w.heap.size < (w.alloc (.cells #[.int .i64 x.k, .int .u64 (x.u : Int), .int .i64 x.s, .slice x.ab x.b.length x.cb, .slice x.at3 x.T.length x.ct] tThing)).heap.size; rw [HZ.out]; omega) (by omega)).trans HR.out
  refine hK.out _ _ hs3 (fun hSd => ?_)
  clear hK K
  refine wpAnyH_take (i := 4) (v := ?_) rfl (by kernel_rfl) (by kernel_rfl) (by kernel_rfl) (fun _ _ _ h => h) (Or.inl ⟨by rfl, ?_⟩) (by assumption) ?_
  rotate_left
  · intro W hSw
    go_simp
    try with_reducible rfl
  refine wpAnyH_take (i := 5) (v := ?_) rfl (by kernel_rfl) (by kernel_rfl) (by kernel_rfl) (fun _ _ _ h => h) (Or.inl ⟨by rfl, ?_⟩) (by assumption) ?_
  rotate_left
  · intro W hSw
    go_simp
    try with_reducible rfl
  refine wpAnyH_done (by kernel_rfl) ?_ _
  go_wp2_with fail
  go_ret
  exact ⟨ret_bool (nat_beq _ _), h3, aw_back HB.out h4⟩
set_option maxRecDepth 4000 in
set_option maxHeartbeats 4000000 in
theorem back4 {w : World} {x : Th} {lo hi g : Nat} {r : Rd} (h : ThOk w x) (hp : ProgRd w lo hi g r) (hk : pickN x.k 9 = 4) :
    Calls Try.prog 20 #[.pointer (some ⟨g, 0, none⟩), thV x] w fun e w' => e = .returned (.bool (backM x r).1) ∧ ProgRd w' lo hi g (backM x r).2 ∧ Hit g w w' := by
  have hP := fun W => pick_any x.k 9 W (by omega) (by omega)
  rw [hk] at hP
  have HP := hid hP
  have hb1 := below_new w (.cells #[.int .i64 x.k, .int .u64 (x.u : Int), .int .i64 x.s, .slice x.ab x.b.length x.cb, .slice x.at3 x.T.length x.ct] tThing)
  have hgl := Nat.lt_of_lt_of_le hp.ghi hp.top
  have hp1 := (hp.later hb1).drewN 1
  have HC := hid (pTake_tall hp1)
  have HB := hid hb1
  have HR : Hid ((w.alloc (.cells #[.int .i64 x.k, .int .u64 (x.u : Int), .int .i64 x.s, .slice x.ab x.b.length x.cb, .slice x.at3 x.T.length x.ct] tThing)).heap[w.heap.size]? = some (.cells #[.int .i64 x.k, .int .u64 (x.u : Int), .int .i64 x.s, .slice x.ab x.b.length x.cb, .slice x.at3 x.T.length x.ct] tThing (0, 0))) := heap_alloc_new w _
  have HZ : Hid ((w.alloc (.cells #[.int .i64 x.k, .int .u64 (x.u : Int), .int .i64 x.s, .slice x.ab x.b.length x.cb, .slice x.at3 x.T.length x.ct] tThing)).heap.size = w.heap.size + 1) := by show _ = _; simp
  have hu := h.u
  have HE : Hid (backM x r = (decide ((r.fix 2).1 = x.u % 65536), (r.fix 2).2)) := by show backM x r = _; unfold backM; rw [hk]; try rfl
  obtain ⟨z, hz⟩ : ∃ z, x.u % 65536 = z := ⟨_, rfl⟩
  have hm : (x.u : Int) % 65536 = (z : Int) := by omega
  have hm2 : IntKind.u16.wrap (x.u : Int) = (z : Int) := by rw [IntKind.wrap_u16]; exact hm
  rw [hz] at HE
  clear hz
  clear h hP hb1 hp hp1
  rw [HE.out]
  generalize r.fix 2 = R at *
  clear HE
  unfold thV
  go_enter Try.func20, Try.ntmps20
  go_wp2_with (go_at_call 12; refine (HP.out _).mono ?_; rintro e w2 ⟨rfl, hw2⟩; subst w2)
  refine wp_region_held_drew (S := fun W => W.heap[w.heap.size]? = some (.cells #[.int .i64 x.k, .int .u64 (x.u : Int), .int .i64 x.s, .slice x.ab x.b.length x.cb, .slice x.at3 x.T.length x.ct] tThing (0, 0))) (by kernel_rfl) HR.out (fun hSd => ?_)
  refine wpAnyH_take (i := 0) (v := ?_) rfl (by kernel_rfl) (by kernel_rfl) (by kernel_rfl) (fun _ _ _ h => h) (Or.inl ⟨by rfl, ?_⟩) (by assumption) ?_
  rotate_left
  · intro W hSw
    obtain ⟨t0, t1, t2, t3, t4⟩ := thing_cells hSw
    go_simp
    try with_reducible rfl
  refine wpAnyH_take (i := 2) (v := ?_) rfl (by kernel_rfl) (by kernel_rfl) (by kernel_rfl) (fun _ _ _ h => h) (Or.inl ⟨by rfl, ?_⟩) (by assumption) ?_
  rotate_left
  · intro W hSw
    obtain ⟨t0, t1, t2, t3, t4⟩ := thing_cells hSw
    go_simp
    try with_reducible rfl
  refine wpAnyH_take (i := 3) (v := ?_) rfl (by kernel_rfl) (by kernel_rfl) (by kernel_rfl) (fun _ _ _ h => h) (Or.inl ⟨by rfl, ?_⟩) (by assumption) ?_
  rotate_left
  · intro W hSw
    obtain ⟨t0, t1, t2, t3, t4⟩ := thing_cells hSw
    go_simp
    try with_reducible rfl
  refine wpAnyH_take (i := 4) (v := ?_) rfl (by kernel_rfl) (by kernel_rfl) (by kernel_rfl) (fun _ _ _ h => h) (Or.inl ⟨by rfl, ?_⟩) (by assumption) ?_
  rotate_left
  · intro W hSw
    obtain ⟨t0, t1, t2, t3, t4⟩ := thing_cells hSw
    go_simp
    try with_reducible rfl
  refine wpAnyH_ready (rs := [1]) (by kernel_rfl) (by simp) ?_
  refine AllReadyH.cons rfl (fun K hK => ?_) AllReadyH.nil
  rw [if_pos (by rfl)]
  go_simp
  refine HC.out.mono ?_
  rintro e w3 ⟨rfl, h3, h4⟩
  have hs3 := (h4.block w.heap.size (by show w.heap.size < (w.alloc (.cells #[.int .i64 x.k, .int .u64 (x.u : Int), .int .i64 x.s, .slice x.ab x.b.length x.cb, .slice x.at3 x.T.length x.ct] tThing)).heap.size; rw [HZ.out]; omega) (by omega)).trans HR.out
  refine hK.out _ _ hs3 (fun hSd => ?_)
  clear hK K
  refine wpAnyH_take (i := 5) (v := ?_) rfl (by kernel_rfl) (by kernel_rfl) (by kernel_rfl) (fun _ _ _ h => h) (Or.inl ⟨by rfl, ?_⟩) (by assumption) ?_
  rotate_left
  · intro W hSw
    go_simp
    try with_reducible rfl
  refine wpAnyH_take (i := 6) (v := ?_) rfl (by kernel_rfl) (by kernel_rfl) (by kernel_rfl) (fun _ _ _ h => h) (Or.inl ⟨by rfl, ?_⟩) (by assumption) ?_
  rotate_left
  · intro W hSw
    go_simp
    try with_reducible rfl
  refine wpAnyH_done (by kernel_rfl) ?_ _
  go_wp2_with fail
  go_ret
  exact ⟨ret_bool (nat_beq _ _), h3, aw_back HB.out h4⟩
set_option maxRecDepth 4000 in
set_option maxHeartbeats 4000000 in
theorem back5 {w : World} {x : Th} {lo hi g : Nat} {r : Rd} (h : ThOk w x) (hp : ProgRd w lo hi g r) (hk : pickN x.k 9 = 5) :
    Calls Try.prog 20 #[.pointer (some ⟨g, 0, none⟩), thV x] w fun e w' => e = .returned (.bool (backM x r).1) ∧ ProgRd w' lo hi g (backM x r).2 ∧ Hit g w w' := by
  have hP := fun W => pick_any x.k 9 W (by omega) (by omega)
  rw [hk] at hP
  have HP := hid hP
  have hb1 := below_new w (.cells #[.int .i64 x.k, .int .u64 (x.u : Int), .int .i64 x.s, .slice x.ab x.b.length x.cb, .slice x.at3 x.T.length x.ct] tThing)
  have hgl := Nat.lt_of_lt_of_le hp.ghi hp.top
  have hp1 := (hp.later hb1).drewN 1
  have HC := hid (pUv hp1)
  have HB := hid hb1
  have HR : Hid ((w.alloc (.cells #[.int .i64 x.k, .int .u64 (x.u : Int), .int .i64 x.s, .slice x.ab x.b.length x.cb, .slice x.at3 x.T.length x.ct] tThing)).heap[w.heap.size]? = some (.cells #[.int .i64 x.k, .int .u64 (x.u : Int), .int .i64 x.s, .slice x.ab x.b.length x.cb, .slice x.at3 x.T.length x.ct] tThing (0, 0))) := heap_alloc_new w _
  have HZ : Hid ((w.alloc (.cells #[.int .i64 x.k, .int .u64 (x.u : Int), .int .i64 x.s, .slice x.ab x.b.length x.cb, .slice x.at3 x.T.length x.ct] tThing)).heap.size = w.heap.size + 1) := by show _ = _; simp
  have hu := h.u
  have HE : Hid (backM x r = (decide (r.uv.1 = x.u), (r.uv).2)) := by show backM x r = _; unfold backM; rw [hk]; try rfl
  clear h hP hb1 hp hp1
  rw [HE.out]
  generalize r.uv = R at *
  clear HE
  unfold thV
  go_enter Try.func20, Try.ntmps20
  go_wp2_with (go_at_call 12; refine (HP.out _).mono ?_; rintro e w2 ⟨rfl, hw2⟩; subst w2)
  refine wp_region_held_drew (S := fun W => W.heap[w.heap.size]? = some (.cells #[.int .i64 x.k, .int .u64 (x.u : Int), .int .i64 x.s, .slice x.ab x.b.length x.cb, .slice x.at3 x.T.length x.ct] tThing (0, 0))) (by kernel_rfl) HR.out (fun hSd => ?_)
  refine wpAnyH_take (i := 0) (v := ?_) rfl (by kernel_rfl) (by kernel_rfl) (by kernel_rfl) (fun _ _ _ h => h) (Or.inl ⟨by rfl, ?_⟩) (by assumption) ?_
  rotate_left
  · intro W hSw
    obtain ⟨t0, t1, t2, t3, t4⟩ := thing_cells hSw
    go_simp
    try with_reducible rfl
  refine wpAnyH_take (i := 2) (v := ?_) rfl (by kernel_rfl) (by kernel_rfl) (by kernel_rfl) (fun _ _ _ h => h) (Or.inl ⟨by rfl, ?_⟩) (by assumption) ?_
  rotate_left
  · intro W hSw
    obtain ⟨t0, t1, t2, t3, t4⟩ := thing_cells hSw
    go_simp
    try with_reducible rfl
  refine wpAnyH_take (i := 3) (v := ?_) rfl (by kernel_rfl) (by kernel_rfl) (by kernel_rfl) (fun _ _ _ h => h) (Or.inl ⟨by rfl, ?_⟩) (by assumption) ?_
  rotate_left
  · intro W hSw
    obtain ⟨t0, t1, t2, t3, t4⟩ := thing_cells hSw
    go_simp
    try with_reducible rfl
  refine wpAnyH_ready (rs := [1]) (by kernel_rfl) (by simp) ?_
  refine AllReadyH.cons rfl (fun K hK => ?_) AllReadyH.nil
  rw [if_pos (by rfl)]
  go_simp
  refine HC.out.mono ?_
  rintro e w3 ⟨rfl, h3, h4⟩
  have hs3 := (h4.block w.heap.size (by show w.heap.size < (w.alloc (.cells #[.int .i64 x.k, .int .u64 (x.u : Int), .int .i64 x.s, .slice x.ab x.b.length x.cb, .slice x.at3 x.T.length x.ct] tThing)).heap.size; rw [HZ.out]; omega) (by omega)).trans HR.out
  refine hK.out _ _ hs3 (fun hSd => ?_)
  clear hK K
  refine wpAnyH_take (i := 4) (v := ?_) rfl (by kernel_rfl) (by kernel_rfl) (by kernel_rfl) (fun _ _ _ h => h) (Or.inl ⟨by rfl, ?_⟩) (by assumption) ?_
  rotate_left
  · intro W hSw
    go_simp
    try with_reducible rfl
  refine wpAnyH_take (i := 5) (v := ?_) rfl (by kernel_rfl) (by kernel_rfl) (by kernel_rfl) (fun _ _ _ h => h) (Or.inl ⟨by rfl, ?_⟩) (by assumption) ?_
  rotate_left
  · intro W hSw
    go_simp
    try with_reducible rfl
  refine wpAnyH_done (by kernel_rfl) ?_ _
  go_wp2_with fail
  go_ret
  exact ⟨ret_bool (nat_beq _ _), h3, aw_back HB.out h4⟩
set_option maxRecDepth 4000 in
set_option maxHeartbeats 4000000 in
theorem back6 {w : World} {x : Th} {lo hi g : Nat} {r : Rd} (h : ThOk w x) (hp : ProgRd w lo hi g r) (hk : pickN x.k 9 = 6) :
    Calls Try.prog 20 #[.pointer (some ⟨g, 0, none⟩), thV x] w fun e w' => e = .returned (.bool (backM x r).1) ∧ ProgRd w' lo hi g (backM x r).2 ∧ Hit g w w' := by
  have hP := fun W => pick_any x.k 9 W (by omega) (by omega)
  rw [hk] at hP
  have HP := hid hP
  have hb1 := below_new w (.cells #[.int .i64 x.k, .int .u64 (x.u : Int), .int .i64 x.s, .slice x.ab x.b.length x.cb, .slice x.at3 x.T.length x.ct] tThing)
  have hgl := Nat.lt_of_lt_of_le hp.ghi hp.top
  have hp1 := (hp.later hb1).drewN 1
  have HC := hid (pVarint hp1)
  have HB := hid hb1
  have HR : Hid ((w.alloc (.cells #[.int .i64 x.k, .int .u64 (x.u : Int), .int .i64 x.s, .slice x.ab x.b.length x.cb, .slice x.at3 x.T.length x.ct] tThing)).heap[w.heap.size]? = some (.cells #[.int .i64 x.k, .int .u64 (x.u : Int), .int .i64 x.s, .slice x.ab x.b.length x.cb, .slice x.at3 x.T.length x.ct] tThing (0, 0))) := heap_alloc_new w _
  have HZ : Hid ((w.alloc (.cells #[.int .i64 x.k, .int .u64 (x.u : Int), .int .i64 x.s, .slice x.ab x.b.length x.cb, .slice x.at3 x.T.length x.ct] tThing)).heap.size = w.heap.size + 1) := by show _ = _; simp
  have hu := h.u
  have HE : Hid (backM x r = (decide (unfold' r.uv.1 = x.s), (r.uv).2)) := by show backM x r = _; unfold backM; rw [hk]; try rfl
  clear h hP hb1 hp hp1
  rw [HE.out]
  generalize r.uv = R at *
  clear HE
  unfold thV
  go_enter Try.func20, Try.ntmps20
  go_wp2_with (go_at_call 12; refine (HP.out _).mono ?_; rintro e w2 ⟨rfl, hw2⟩; subst w2)
  refine wp_region_held_drew (S := fun W => W.heap[w.heap.size]? = some (.cells #[.int .i64 x.k, .int .u64 (x.u : Int), .int .i64 x.s, .slice x.ab x.b.length x.cb, .slice x.at3 x.T.length x.ct] tThing (0, 0))) (by kernel_rfl) HR.out (fun hSd => ?_)
  refine wpAnyH_take (i := 0) (v := ?_) rfl (by kernel_rfl) (by kernel_rfl) (by kernel_rfl) (fun _ _ _ h => h) (Or.inl ⟨by rfl, ?_⟩) (by assumption) ?_
  rotate_left
  · intro W hSw
    obtain ⟨t0, t1, t2, t3, t4⟩ := thing_cells hSw
    go_simp
    try with_reducible rfl
  refine wpAnyH_take (i := 2) (v := ?_) rfl (by kernel_rfl) (by kernel_rfl) (by kernel_rfl) (fun _ _ _ h => h) (Or.inl ⟨by rfl, ?_⟩) (by assumption) ?_
  rotate_left
  · intro W hSw
    obtain ⟨t0, t1, t2, t3, t4⟩ := thing_cells hSw
    go_simp
    try with_reducible rfl
  refine wpAnyH_take (i := 3) (v := ?_) rfl (by kernel_rfl) (by kernel_rfl) (by kernel_rfl) (fun _ _ _ h => h) (Or.inl ⟨by rfl, ?_⟩) (by assumption) ?_
  rotate_left
  · intro W hSw
    obtain ⟨t0, t1, t2, t3, t4⟩ := thing_cells hSw
    go_simp
    try with_reducible rfl
  refine wpAnyH_ready (rs := [1]) (by kernel_rfl) (by simp) ?_
  refine AllReadyH.cons rfl (fun K hK => ?_) AllReadyH.nil
  rw [if_pos (by rfl)]
  go_simp
  refine HC.out.mono ?_
  rintro e w3 ⟨rfl, h3, h4⟩
  have hs3 := (h4.block w.heap.size (by show w.heap.size < (w.alloc (.cells #[.int .i64 x.k, .int .u64 (x.u : Int), .int .i64 x.s, .slice x.ab x.b.length x.cb, .slice x.at3 x.T.length x.ct] tThing)).heap.size; rw [HZ.out]; omega) (by omega)).trans HR.out
  refine hK.out _ _ hs3 (fun hSd => ?_)
  clear hK K
  refine wpAnyH_take (i := 4) (v := ?_) rfl (by kernel_rfl) (by kernel_rfl) (by kernel_rfl) (fun _ _ _ h => h) (Or.inl ⟨by rfl, ?_⟩) (by assumption) ?_
  rotate_left
  · intro W hSw
    go_simp
    try with_reducible rfl
  refine wpAnyH_take (i := 5) (v := ?_) rfl (by kernel_rfl) (by kernel_rfl) (by kernel_rfl) (fun _ _ _ h => h) (Or.inl ⟨by rfl, ?_⟩) (by assumption) ?_
  rotate_left
  · intro W hSw
    go_simp
    try with_reducible rfl
  refine wpAnyH_done (by kernel_rfl) ?_ _
  go_wp2_with fail
  go_ret
  exact ⟨ret_bool (int_beq _ _), h3, aw_back HB.out h4⟩
set_option maxRecDepth 4000 in
set_option maxHeartbeats 4000000 in
theorem back7 {w : World} {x : Th} {lo hi g : Nat} {r : Rd} (h : ThOk w x) (hp : ProgRd w lo hi g r) (hk : pickN x.k 9 = 7) (hne : ∀ y, x.ab = some y → 0 < x.b.length → y.block ≠ g) :
    Calls Try.prog 20 #[.pointer (some ⟨g, 0, none⟩), thV x] w fun e w' => e = .returned (.bool (backM x r).1) ∧ ProgRd w' lo hi g (backM x r).2 ∧ Hit g w w' := by
  have hP := fun W => pick_any x.k 9 W (by omega) (by omega)
  rw [hk] at hP
  have HP := hid hP
  have hb1 := below_new w (.cells #[.int .i64 x.k, .int .u64 (x.u : Int), .int .i64 x.s, .slice x.ab x.b.length x.cb, .slice x.at3 x.T.length x.ct] tThing)
  have hgl := Nat.lt_of_lt_of_le hp.ghi hp.top
  have hp1 := (hp.later hb1).drewN 1
  have HC := hid (pBlock hp1 (x.b.length : Int) (by omega) (by have := h.small; omega))
  have HB := hid hb1
  have HR : Hid ((w.alloc (.cells #[.int .i64 x.k, .int .u64 (x.u : Int), .int .i64 x.s, .slice x.ab x.b.length x.cb, .slice x.at3 x.T.length x.ct] tThing)).heap[w.heap.size]? = some (.cells #[.int .i64 x.k, .int .u64 (x.u : Int), .int .i64 x.s, .slice x.ab x.b.length x.cb, .slice x.at3 x.T.length x.ct] tThing (0, 0))) := heap_alloc_new w _
  have HZ : Hid ((w.alloc (.cells #[.int .i64 x.k, .int .u64 (x.u : Int), .int .i64 x.s, .slice x.ab x.b.length x.cb, .slice x.at3 x.T.length x.ct] tThing)).heap.size = w.heap.size + 1) := by show _ = _; simp
  have hu := h.u
  have HE : Hid (backM x r = (decide ((r.block (x.b.length : Int)).1 = x.b), (r.block (x.b.length : Int)).2)) := by show backM x r = _; unfold backM; rw [hk]; try rfl
  have hbl := h.b.bytes
  have hblt := h.b.lt
  have hrok := hp.ok
  have hBW := hid (hbl.later hb1)
  have hrlt := hid (block_mem hp.ok (x.b.length : Int))
  clear h hP hb1 hp hp1
  rw [HE.out]
  obtain ⟨R, hR⟩ : ∃ R, r.block (x.b.length : Int) = R := ⟨_, rfl⟩
  rw [hR] at HC ⊢
  rw [hR] at hrlt
  clear HE
  unfold thV
  go_enter Try.func20, Try.ntmps20
  go_wp2_with (go_at_call 12; refine (HP.out _).mono ?_; rintro e w2 ⟨rfl, hw2⟩; subst w2)
  refine wp_region_held_drew (S := fun W => W.heap[w.heap.size]? = some (.cells #[.int .i64 x.k, .int .u64 (x.u : Int), .int .i64 x.s, .slice x.ab x.b.length x.cb, .slice x.at3 x.T.length x.ct] tThing (0, 0)) ∧ Bytes W x.ab x.b) (by kernel_rfl) ⟨HR.out, hBW.out⟩ (fun hSd => ?_)
  refine wpAnyH_take (i := 0) (v := ?_) rfl (by kernel_rfl) (by kernel_rfl) (by kernel_rfl) (fun _ _ _ h => h) (Or.inl ⟨by rfl, ?_⟩) (by assumption) ?_
  rotate_left
  · intro W hSw
    obtain ⟨t0, t1, t2, t3, t4⟩ := thing_cells hSw.1
    go_simp
    try with_reducible rfl
  refine wpAnyH_take (i := 1) (v := ?_) rfl (by kernel_rfl) (by kernel_rfl) (by kernel_rfl) (fun _ _ _ h => h) (Or.inl ⟨by rfl, ?_⟩) (by assumption) ?_
  rotate_left
  · intro W hSw
    obtain ⟨t0, t1, t2, t3, t4⟩ := thing_cells hSw.1
    go_simp
    try with_reducible rfl
  refine wpAnyH_take (i := 2) (v := ?_) rfl (by kernel_rfl) (by kernel_rfl) (by kernel_rfl) (fun _ _ _ h => h) (Or.inl ⟨by rfl, ?_⟩) (by assumption) ?_
  rotate_left
  · intro W hSw
    obtain ⟨t0, t1, t2, t3, t4⟩ := thing_cells hSw.1
    go_simp
    try with_reducible rfl
  refine wpAnyH_take (i := 3) (v := ?_) rfl (by kernel_rfl) (by kernel_rfl) (by kernel_rfl) (fun _ _ _ h => h) (Or.inl ⟨by rfl, ?_⟩) (by assumption) ?_
  rotate_left
  · intro W hSw
    obtain ⟨t0, t1, t2, t3, t4⟩ := thing_cells hSw.1
    go_simp
    try with_reducible rfl
  refine wpAnyH_take (i := 6) (v := ?_) rfl (by kernel_rfl) (by kernel_rfl) (by kernel_rfl) (fun _ _ _ h => h) (Or.inl ⟨by rfl, ?_⟩) (by assumption) ?_
  rotate_left
  · intro W hSw
    obtain ⟨t0, t1, t2, t3, t4⟩ := thing_cells hSw.1
    go_simp
    try with_reducible rfl
  refine wpAnyH_take (i := 7) (v := ?_) rfl (by kernel_rfl) (by kernel_rfl) (by kernel_rfl) (fun _ _ _ h => h) (Or.inl ⟨by rfl, ?_⟩) (by assumption) ?_
  rotate_left
  · intro W hSw
    obtain ⟨t0, t1, t2, t3, t4⟩ := thing_cells hSw.1
    go_simp
    try with_reducible rfl
  refine wpAnyH_take (i := 8) (v := ?_) rfl (by kernel_rfl) (by kernel_rfl) (by kernel_rfl) (fun _ _ _ h => h) (Or.inl ⟨by rfl, ?_⟩) (by assumption) ?_
  rotate_left
  · intro W hSw
    have hcv := run_strL x.cb hSw.2
    go_simp
    try with_reducible rfl
  refine wpAnyH_ready (rs := [4]) (by kernel_rfl) (by simp) ?_
  refine AllReadyH.cons rfl (fun K hK => ?_) AllReadyH.nil
  rw [if_pos (by rfl)]
  go_simp
  refine HC.out.mono ?_
  rintro e w3 ⟨v3, rfl, h5, h3, h4⟩
  have hs3 := (h4.block w.heap.size (by show w.heap.size < (w.alloc (.cells #[.int .i64 x.k, .int .u64 (x.u : Int), .int .i64 x.s, .slice x.ab x.b.length x.cb, .slice x.at3 x.T.length x.ct] tThing)).heap.size; rw [HZ.out]; omega) (by omega)).trans HR.out
  have hs4 : Bytes w3 x.ab x.b := bytes_hit (hBW.out.later (below_drewN (Below.refl _ _) 1)) h4 hne
  refine hK.out _ _ ⟨hs3, hs4⟩ (fun hSd => ?_)
  clear hK K
  obtain ⟨a5, c5, rfl, _⟩ := h5.form
  have hcv := run_strL c5 (show Bytes w3 a5 R.1 from h5.nums)
  refine wpAnyH_ready (rs := [5]) (by kernel_rfl) (by simp) ?_
  refine AllReadyH.cons rfl (fun K hK => ?_) AllReadyH.nil
  rw [if_pos (by rfl)]
  go_simp
  refine hK.out _ _ ⟨hs3, hs4⟩ (fun hSd => ?_)
  clear hK K hcv
  refine wpAnyH_take (i := 9) (v := ?_) rfl (by kernel_rfl) (by kernel_rfl) (by kernel_rfl) (fun _ _ _ h => h) (Or.inl ⟨by rfl, ?_⟩) (by assumption) ?_
  rotate_left
  · intro W hSw
    go_simp
    try with_reducible rfl
  refine wpAnyH_take (i := 10) (v := ?_) rfl (by kernel_rfl) (by kernel_rfl) (by kernel_rfl) (fun _ _ _ h => h) (Or.inl ⟨by rfl, ?_⟩) (by assumption) ?_
  rotate_left
  · intro W hSw
    go_simp
    try with_reducible rfl
  refine wpAnyH_done (by kernel_rfl) ?_ _
  go_wp2_with fail
  go_ret
  refine ⟨ret_bool ?_, h3, aw_back HB.out h4⟩
  rw [str_beq]
  exact decide_eq_decide.2 ⟨fun e => strL_inj hrlt.out hblt e, fun e => by rw [e]⟩
set_option maxRecDepth 4000 in
set_option maxHeartbeats 4000000 in
theorem back8 {w : World} {x : Th} {lo hi g : Nat} {r : Rd} (h : ThOk w x) (hp : ProgRd w lo hi g r) (hk : pickN x.k 9 = 8) (hsm : r.l.length ≤ 1099511627776) (hlg : lgT x.T x.T.length ≤ 140737488355328) (hss : ∀ s ∈ x.T, s.size ≤ 140737488355328) (hne : ∀ y, x.at3 = some y → 0 < x.T.length → y.block ≠ g) :
    Calls Try.prog 20 #[.pointer (some ⟨g, 0, none⟩), thV x] w fun e w' => e = .returned (.bool (backM x r).1) ∧ ProgRd w' lo hi g (backM x r).2 ∧ Hit g w w' := by
  have hP := fun W => pick_any x.k 9 W (by omega) (by omega)
  rw [hk] at hP
  have HP := hid hP
  have hb1 := below_new w (.cells #[.int .i64 x.k, .int .u64 (x.u : Int), .int .i64 x.s, .slice x.ab x.b.length x.cb, .slice x.at3 x.T.length x.ct] tThing)
  have hgl := Nat.lt_of_lt_of_le hp.ghi hp.top
  have hp1 := (hp.later hb1).drewN 1
  have HC := hid (pTexts hp1 (x.T.length : Int) (lgT x.T x.T.length : Nat) (by omega) (by have := h.small; omega) (by omega) (by omega) hsm)
  have HB := hid hb1
  have HR : Hid ((w.alloc (.cells #[.int .i64 x.k, .int .u64 (x.u : Int), .int .i64 x.s, .slice x.ab x.b.length x.cb, .slice x.at3 x.T.length x.ct] tThing)).heap[w.heap.size]? = some (.cells #[.int .i64 x.k, .int .u64 (x.u : Int), .int .i64 x.s, .slice x.ab x.b.length x.cb, .slice x.at3 x.T.length x.ct] tThing (0, 0))) := heap_alloc_new w _
  have HZ : Hid ((w.alloc (.cells #[.int .i64 x.k, .int .u64 (x.u : Int), .int .i64 x.s, .slice x.ab x.b.length x.cb, .slice x.at3 x.T.length x.ct] tThing)).heap.size = w.heap.size + 1) := by show _ = _; simp
  have hu := h.u
  have HE : Hid (backM x r = (decide ((r.texts (x.T.length : Int) (lgT x.T x.T.length : Nat)).1.map strL = x.T), (r.texts (x.T.length : Int) (lgT x.T x.T.length : Nat)).2)) := by show backM x r = _; unfold backM; rw [hk]; try rfl
  have hTW := hid (h.t.strs.later hb1)
  have hsl : x.T.length ≤ 140737488355328 := by have := h.small; omega
  have HCn := hid (texts_count hp.ok (x.T.length : Int) (lgT x.T x.T.length : Nat))
  clear h hP hb1 hp hp1
  rw [HE.out]
  obtain ⟨R, hR⟩ : ∃ R, r.texts (x.T.length : Int) (lgT x.T x.T.length : Nat) = R := ⟨_, rfl⟩
  rw [hR] at HC ⊢
  rw [hR] at HCn
  clear HE
  unfold thV
  go_enter Try.func20, Try.ntmps20
  go_wp2_with (go_at_call 12; refine (HP.out _).mono ?_; rintro e w2 ⟨rfl, hw2⟩; subst w2)
  refine wp_region_held_drew (S := fun W => W.heap[w.heap.size]? = some (.cells #[.int .i64 x.k, .int .u64 (x.u : Int), .int .i64 x.s, .slice x.ab x.b.length x.cb, .slice x.at3 x.T.length x.ct] tThing (0, 0))) (by kernel_rfl) HR.out (fun hSd => ?_)
  refine wpAnyH_take (i := 0) (v := ?_) rfl (by kernel_rfl) (by kernel_rfl) (by kernel_rfl) (fun _ _ _ h => h) (Or.inl ⟨by rfl, ?_⟩) (by assumption) ?_
  rotate_left
  · intro W hSw
    obtain ⟨t0, t1, t2, t3, t4⟩ := thing_cells hSw
    go_simp
    try with_reducible rfl
  refine wpAnyH_take (i := 1) (v := ?_) rfl (by kernel_rfl) (by kernel_rfl) (by kernel_rfl) (fun _ _ _ h => h) (Or.inl ⟨by rfl, ?_⟩) (by assumption) ?_
  rotate_left
  · intro W hSw
    obtain ⟨t0, t1, t2, t3, t4⟩ := thing_cells hSw
    go_simp
    try with_reducible rfl
  refine wpAnyH_take (i := 2) (v := ?_) rfl (by kernel_rfl) (by kernel_rfl) (by kernel_rfl) (fun _ _ _ h => h) (Or.inl ⟨by rfl, ?_⟩) (by assumption) ?_
  rotate_left
  · intro W hSw
    obtain ⟨t0, t1, t2, t3, t4⟩ := thing_cells hSw
    go_simp
    try with_reducible rfl
  refine wpAnyH_take (i := 3) (v := ?_) rfl (by kernel_rfl) (by kernel_rfl) (by kernel_rfl) (fun _ _ _ h => h) (Or.inl ⟨by rfl, ?_⟩) (by assumption) ?_
  rotate_left
  · intro W hSw
    obtain ⟨t0, t1, t2, t3, t4⟩ := thing_cells hSw
    go_simp
    try with_reducible rfl
  refine wpAnyH_take (i := 4) (v := ?_) rfl (by kernel_rfl) (by kernel_rfl) (by kernel_rfl) (fun _ _ _ h => h) (Or.inl ⟨by rfl, ?_⟩) (by assumption) ?_
  rotate_left
  · intro W hSw
    obtain ⟨t0, t1, t2, t3, t4⟩ := thing_cells hSw
    go_simp
    try with_reducible rfl
  refine wpAnyH_take (i := 5) (v := ?_) rfl (by kernel_rfl) (by kernel_rfl) (by kernel_rfl) (fun _ _ _ h => h) (Or.inl ⟨by rfl, ?_⟩) (by assumption) ?_
  rotate_left
  · intro W hSw
    obtain ⟨t0, t1, t2, t3, t4⟩ := thing_cells hSw
    go_simp
    try with_reducible rfl
  refine wpAnyH_take (i := 8) (v := ?_) rfl (by kernel_rfl) (by kernel_rfl) (by kernel_rfl) (fun _ _ _ h => h) (Or.inl ⟨by rfl, ?_⟩) (by assumption) ?_
  rotate_left
  · intro W hSw
    obtain ⟨t0, t1, t2, t3, t4⟩ := thing_cells hSw
    go_simp
    try with_reducible rfl
  refine wpAnyH_take (i := 9) (v := ?_) rfl (by kernel_rfl) (by kernel_rfl) (by kernel_rfl) (fun _ _ _ h => h) (Or.inl ⟨by rfl, ?_⟩) (by assumption) ?_
  rotate_left
  · intro W hSw
    obtain ⟨t0, t1, t2, t3, t4⟩ := thing_cells hSw
    go_simp
    try with_reducible rfl
  refine wpAnyH_ready (rs := [6]) (by kernel_rfl) (by simp) ?_
  refine AllReadyH.cons rfl (fun K hK => ?_) AllReadyH.nil
  rw [if_pos (by rfl)]
  go_simp
  refine (longest_any x.at3 x.T x.ct _ (hTW.out.later (below_drewN (Below.refl _ _) 1)) hsl hss).mono ?_
  rintro e w3 ⟨rfl, hw3⟩
  subst w3
  refine hK.out _ _ HR.out (fun hSd => ?_)
  clear hK K
  refine wpAnyH_ready (rs := [7]) (by kernel_rfl) (by simp) ?_
  refine AllReadyH.cons rfl (fun K hK => ?_) AllReadyH.nil
  rw [if_pos (by rfl)]
  go_simp
  refine HC.out.mono ?_
  rintro e w3 ⟨v3, rfl, h5, h3, h4⟩
  have hs3 := (h4.block w.heap.size (by show w.heap.size < (w.alloc (.cells #[.int .i64 x.k, .int .u64 (x.u : Int), .int .i64 x.s, .slice x.ab x.b.length x.cb, .slice x.at3 x.T.length x.ct] tThing)).heap.size; rw [HZ.out]; omega) (by omega)).trans HR.out
  have hs4 : Strs w3 x.at3 x.T := strs_hit (hTW.out.later (below_drewN (Below.refl _ _) 1)) h4 hne
  refine hK.out _ _ hs3 (fun hSd => ?_)
  clear hK K
  obtain ⟨a5, c5, rfl, _, hm5, _, hs5⟩ := h5.form
  have hst := sameTexts_any a5 x.at3 (R.1.map strL) x.T c5 x.ct w3 hs5 hs4 (by rw [List.length_map]; have := HCn.out; omega) hsl
  rw [List.length_map] at hst
  refine wpAnyH_ready (rs := [10]) (by kernel_rfl) (by simp) ?_
  refine AllReadyH.cons rfl (fun K hK => ?_) AllReadyH.nil
  rw [if_pos (by rfl)]
  go_simp
  refine hst.mono ?_
  rintro e w4 ⟨rfl, j4, rfl⟩
  refine hK.out _ _ hs3 (fun hSd => ?_)
  clear hK K
  refine wpAnyH_take (i := 11) (v := ?_) rfl (by kernel_rfl) (by kernel_rfl) (by kernel_rfl) (fun _ _ _ h => h) (Or.inl ⟨by rfl, ?_⟩) (by assumption) ?_
  rotate_left
  · intro W hSw
    go_simp
    try with_reducible rfl
  refine wpAnyH_done (by kernel_rfl) ?_ _
  go_wp2_with fail
  go_ret
  exact ⟨rfl, h3.drewN j4, (aw_back HB.out h4).trans (hit_drewN _ j4)⟩
end Go.Proofs.Ytefjhiodeaohcaa
