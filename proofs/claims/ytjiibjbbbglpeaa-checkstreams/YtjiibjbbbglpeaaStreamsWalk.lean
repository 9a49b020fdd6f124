/-
  THE WALK OF CheckStreams.
-/
import Derived.Test.YtjiibjbbbglpeaaCFour
import Derived.Deep.RegionHeld3
namespace Go.Proofs.Ytjiibjbbbglpeaa
open Go.RowKit Crc

theorem st_cells {w W : World} {gs i n : Nat} {a0 : Option Addr} {K At To : Nat → Int} {A : Nat → Option Addr} {L C : Nat → Nat} {M : Nat → Nat → Nat} (h : StArg w a0 n K At To A L C M) (hi : i < n) (hgs : w.heap.size = gs) (hb : Below gs w W) :
    ∃ g o, a0 = some ⟨g, o, none⟩ ∧ W.cell? ⟨g, o + i * 4, none⟩ = some (.int .i64 (K i)) ∧ W.cell? ⟨g, o + i * 4 + 1, none⟩ = some (.int .i64 (At i)) ∧ W.cell? ⟨g, o + i * 4 + 2, none⟩ = some (.int .i64 (To i)) ∧ W.cell? ⟨g, o + i * 4 + 3, none⟩ = some (.slice (A i) (L i) (C i)) := by
  obtain ⟨g, o, h1, h2, c0, c1, c2, c3⟩ := h.cell i hi
  subst hgs
  exact ⟨g, o, h1, (hb.cell (p := ⟨g, o + i * 4, none⟩) h2).trans c0, (hb.cell (p := ⟨g, o + i * 4 + 1, none⟩) h2).trans c1, (hb.cell (p := ⟨g, o + i * 4 + 2, none⟩) h2).trans c2, (hb.cell (p := ⟨g, o + i * 4 + 3, none⟩) h2).trans c3⟩
/-- The step that is looked at. -/
structure XAt (W : World) (gx : Nat) (K At To : Int) (A : Option Addr) (L C : Nat) : Prop where
  c0 : W.cell? ⟨gx, 0, none⟩ = some (.int .i64 K)
  c1 : W.cell? ⟨gx, 1, none⟩ = some (.int .i64 At)
  c2 : W.cell? ⟨gx, 2, none⟩ = some (.int .i64 To)
  c3 : W.cell? ⟨gx, 3, none⟩ = some (.slice A L C)
theorem XAt.kept {W W' : World} {gx : Nat} {K At To : Int} {A : Option Addr} {L C : Nat} (h : XAt W gx K At To A L C) (hk : W'.heap[gx]? = W.heap[gx]?) : XAt W' gx K At To A L C :=
  ⟨(World.cell?_of_block (w := W) hk).trans h.c0, (World.cell?_of_block (w := W) hk).trans h.c1, (World.cell?_of_block (w := W) hk).trans h.c2, (World.cell?_of_block (w := W) hk).trans h.c3⟩
theorem XAt.new (w : World) (K At To : Int) (A : Option Addr) (L C : Nat) (t : TypeId) : XAt (w.alloc (.cells #[.int .i64 K, .int .i64 At, .int .i64 To, .slice A L C] t)) w.heap.size K At To A L C := by
  have hg := heap_alloc_new w (.cells #[.int .i64 K, .int .i64 At, .int .i64 To, .slice A L C] t)
  exact ⟨by rw [cell_of_row _ _ _ _ _ _ hg]; rfl, by rw [cell_of_row _ _ _ _ _ _ hg]; rfl, by rw [cell_of_row _ _ _ _ _ _ hg]; rfl, by rw [cell_of_row _ _ _ _ _ _ hg]; rfl⟩
theorem nums_below {B : Nat} {w w' : World} {a : Option Addr} {n : Nat} {L : Nat → Nat} (h : Nums w .u8 a n L) (hB : w.heap.size = B) (hb : Below B w w') : Nums w' .u8 a n L := by subst hB; exact h.later hb
theorem fz_block {w w' : World} {g k : Nat} (hk : w'.heap[g]? = w.heap[g]?) (h : w.frozen? ⟨g, k, none⟩ = false) : w'.frozen? ⟨g, k, none⟩ = false := by rw [← h]; unfold World.frozen?; rw [hk]
theorem cell_block {w w' : World} {g k : Nat} {v : Value} (hk : w'.heap[g]? = w.heap[g]?) (h : w.cell? ⟨g, k, none⟩ = some v) : w'.cell? ⟨g, k, none⟩ = some v := (World.cell?_of_block (w := w) hk).trans h
theorem Row.kept {w w' : World} {B : Nat} {a : Option Addr} {g c n : Nat} {F : Nat → Nat} (h : Row w B a g c n F) (hk : w'.heap[g]? = w.heap[g]?) : Row w' B a g c n F :=
  ⟨fun h0 => ⟨(h.1 h0).1, (h.1 h0).2.kept hk⟩, h.2⟩
theorem Own.down {w : World} {B B' : Nat} {e : TypeId} {k : IntKind} {v : Value} {n : Nat} {L : Nat → Nat} (h : Own w B e k v n L) (hB : B' ≤ B) : Own w B' e k v n L :=
  ⟨h.1, h.2.imp id (fun ⟨g, cap, cur, q1, q2, q3⟩ => ⟨g, cap, cur, q1, Nat.le_trans hB q2, q3⟩)⟩
theorem wrote_swap (w : World) (g o c t : Nat) : (w.setCell ⟨g, o, none⟩ (.int .u64 (c : Int))).setCell ⟨g, o + 1, none⟩ (.int .u32 (t : Int)) = wrote w g o c t := by
  unfold wrote World.setCell
  congr 1
  apply Array.ext_getElem?
  intro i
  simp only [Array.getElem?_modify]
  by_cases hi : g = i
  · subst hi
    simp only [if_true]
    cases w.heap[g]? with
    | none => rfl
    | some ob =>
      cases ob <;> simp [Array.setIfInBounds_comm]
  · simp [hi]
theorem below_drew {wl w9 : World} (b : Below wl.drew.heap.size wl.drew w9) : Below wl.heap.size wl w9 := ((Below.refl wl.heap.size wl).drew).trans b
theorem said_write {wl w9 : World} {gs gx k c5 t5 m T nk : Nat} {nw cw : Nat → Nat} {aw : Nat → Option Addr} {Fw : Nat → Nat → Nat} {Mx : Nat → Nat} {a' : Option Addr} {c' : Nat}
    (h : Four wl gs (gs + 1) gx (upd nw k c5) (upd (fun k => moreN 0 (Fw k) (nw k)) k t5) aw nw cw Fw) (hk : k < 4) (hb : Below wl.drew.heap.size wl.drew w9) (ho : Own w9 wl.drew.heap.size 5 .u8 (.slice a' nk c') nk (cat (nw k) (Fw k) Mx)) (h8 : ∀ j, Mx j < 256)
    (hc5 : (nw k + m) % 18446744073709551616 = c5) (ht5 : moreN (moreN 0 (Fw k) (nw k)) Mx m = t5) (hle : ∀ j, j < 4 → nw j ≤ T) (hT : T + m ≤ 1048576) (hnk : nw k + m = nk) : Said (w9.setCell ⟨gs + 1, k, none⟩ (.slice a' nk c')) gs (gs + 1) (T + m) := by
  have hb' := below_drew hb
  have hs : gs + 1 + 1 ≤ wl.drew.heap.size := Nat.le_trans h.wB h.BW
  have f := (h.later hb').put hk (ho.down hs) (fun j => by
    unfold cat
    split
    · exact h.lt8 k hk j
    · exact h8 _)
  have hkl := hle k hk
  refine Said.mk' f (fun j hj => ?_) (fun j hj => ?_) (fun j hj => ?_)
  · unfold upd
    by_cases e : j = k
    · rw [if_pos e, if_pos e, ← hc5, Nat.mod_eq_of_lt (by omega), hnk]
    · rw [if_neg e, if_neg e]
  · unfold upd updF
    by_cases e : j = k
    · simp only [if_pos e]
      rw [← ht5, more_cat (fun j _ => h.lt8 k hk j), hnk]
    · simp only [if_neg e]
  · unfold upd
    have := hle j hj
    split <;> omega
set_option maxHeartbeats 8000000 in
set_option maxRecDepth 20000 in
theorem walk_checkStreams (w : World) (a0 : Option Addr) (n c : Nat) (K At To : Nat → Int) (A : Nat → Option Addr) (L C : Nat → Nat) (M : Nat → Nat → Nat) (hA : StArg w a0 n K At To A L C M) :
    Calls Try.prog 3 #[.slice a0 n c] w fun e w' => e = .returned (.bool true) ∧ Below w.heap.size w w' := by
  have hn := hA.len
  have PA := hid hA
  clear hA
  go_enter Try.func3, Try.ntmps3
  go_wp2_with fail
  have S0 := hid (said_new w)
  have B0 : Hid (Below w.heap.size w ((w.alloc (.cells #[.int .u64 0, .int .u32 0, .int .u64 0, .int .u32 0, .int .u64 0, .int .u32 0, .int .u64 0, .int .u32 0] 29)).alloc (.cells #[.slice none 0 0, .slice none 0 0, .slice none 0 0, .slice none 0 0] 33))) := ((Below.refl _ w).alloc (Nat.le_refl _) _).alloc (by simp) _
  generalize World.alloc _ _ = w1 at *
  obtain ⟨gs, hgs⟩ : ∃ gs, w.heap.size = gs := ⟨_, rfl⟩
  have HGS := hid hgs
  rw [hgs] at S0 B0
  rw [hgs]
  clear hgs
  go_loopw [5] (fun y wr => ∃ i : Nat, i ≤ n ∧ y = .int .i64 i ∧ Hid (Said wr gs (gs + 1) (tot L i)) ∧ Hid (Below gs w wr)) (fun y _ => n - (intOf y).toNat)
  case atStart => exact ⟨0, Nat.zero_le _, rfl, S0, B0⟩
  case round =>
    clear S0 B0
    obtain ⟨i, hi, rfl, HS, HB⟩ := hrel
    by_cases hlt : i < n
    · have hii : (i : Int) < (n : Int) := by omega
      obtain ⟨g0, o0, rfl, d0, d1, d2, d3⟩ := st_cells PA.out hlt HGS.out HB.out
      have htot : tot L i + L i ≤ 1048576 := Nat.le_trans (tot_le (L := L) (show i + 1 ≤ n by omega)) PA.out.all
      have HT1 : Hid (tot L (i + 1) = tot L i + L i) := rfl
      obtain ⟨T, hTT⟩ : ∃ T, tot L i = T := ⟨_, rfl⟩
      rw [hTT] at HS HT1 htot
      have NB := hid (PA.out.nums i hlt)
      have N8 := hid (PA.out.lt i hlt)
      have NN := hid (PA.out.nil i hlt)
      have NL := PA.out.le i hlt
      clear hTT
      obtain ⟨aw, nw, cw, Fw, h4, hle⟩ := HS.out
      obtain ⟨w2, hw2⟩ : ∃ w2, wr.alloc (.cells #[.int .i64 (K i), .int .i64 (At i), .int .i64 (To i), .slice (A i) (L i) (C i)] 35) = w2 := ⟨_, rfl⟩
      obtain ⟨gx, hgx⟩ : ∃ gx, wr.heap.size = gx := ⟨_, rfl⟩
      have X2 : Hid (XAt w2 gx (K i) (At i) (To i) (A i) (L i) (C i)) := by rw [← hw2, ← hgx]; exact XAt.new _ _ _ _ _ _ _ _
      have hb2 : Below wr.heap.size wr w2 := by rw [← hw2]; exact below_new wr _
      have H4 : Hid (Four w2 gs (gs + 1) gx nw (fun k => moreN 0 (Fw k) (nw k)) aw nw cw Fw) := by rw [← hgx]; exact h4.later hb2
      have HLe := hid hle
      have hgl := h4.sw
      have hwB : gs + 1 < gx := by rw [← hgx]; exact h4.wB
      have hgx2 : gx < w2.heap.size := by rw [← hw2, ← hgx]; simp
      have B2 : Hid (Below gs w w2) := HB.out.trans (hb2.mono (by omega))
      have HGX := hid hgx
      generalize K i = κ at *
      generalize At i = α at *
      generalize To i = β at *
      generalize A i = ax at *
      generalize C i = cx at *
      generalize M i = Mx at *
      obtain ⟨m, hmL⟩ : ∃ m, L i = m := ⟨_, rfl⟩
      rw [hmL] at htot HT1 NB NN NL X2 d3 hw2
      clear hb2 h4 hle HS HB hgx hmL
      have x0 : w2.cell? ⟨wr.heap.size, 0, none⟩ = some (.int .i64 κ) := by rw [HGX.out]; exact X2.out.c0
      have x1 : w2.cell? ⟨wr.heap.size, 1, none⟩ = some (.int .i64 α) := by rw [HGX.out]; exact X2.out.c1
      obtain ⟨k, hk⟩ : ∃ k, fourN α = k := ⟨_, rfl⟩
      have hk4 : k < 4 := by rw [← hk]; exact fourN_lt α
      have hk4i : (k : Int) < 4 := by omega
      have HK := hid (fun wx => four_any α wx)
      rw [hk] at HK
      clear hk
      go_wp2_with fail
      refine (HK.out _).mono ?_
      rintro e wz ⟨rfl, hwz⟩
      rw [hwz, HGX.out]
      rw [HGX.out] at x0 x1
      clear hw2 hwz d0 d1 d2 d3 x1
      by_cases k0 : κ = 0
      · subst k0
        have x3 := X2.out.c3
        go_wp2_with fail
        refine (twin_any ax m cx Mx w2 (nums_below NB.out HGS.out B2.out) (by omega) NN.out).mono ?_
        rintro e w3 ⟨v3, rfl, o3, b3⟩
        obtain ⟨ab, gb, cb, rfl, r3⟩ := o3.row
        have R3 := hid r3
        have H43 := hid (H4.out.later b3)
        have X3 := hid (X2.out.kept (b3.block gx hgx2))
        have B3 := hid (B2.out.trans (b3.mono (by omega)))
        have hgx3 : gx < w3.heap.size := Nat.lt_of_lt_of_le hgx2 b3.size
        have hgb : gx < gb := Nat.lt_of_lt_of_le hgx2 r3.2.1
        have hcb := r3.2.2.1
        have hmcb := r3.2.2.2
        simp only [maxLen] at hcb
        clear o3 b3 r3 H4 X2 B2 x0 x3
        go_wp2_with fail
        refine (sWrite_any gs (k * 2) (nw k) (moreN 0 (Fw k) (nw k)) ab m cb Mx w3 (H43.out.str k hk4) (moreN_lt _ _ _) R3.out.nums (fun j _ => N8.out j) (by omega)).mono ?_
        rintro e w5 ⟨rfl, w4, b4, hw5⟩
        obtain ⟨c5, hc5⟩ : ∃ c5, (nw k + m) % 18446744073709551616 = c5 := ⟨_, rfl⟩
        obtain ⟨t5, ht5⟩ : ∃ t5, moreN (moreN 0 (Fw k) (nw k)) Mx m = t5 := ⟨_, rfl⟩
        have HC5 := hid hc5
        have HT5 := hid ht5
        rw [hc5, ht5] at hw5
        have H45 : Hid (Four w5 gs (gs + 1) gx (upd nw k c5) (upd (fun k => moreN 0 (Fw k) (nw k)) k t5) aw nw cw Fw) := by rw [hw5]; exact (H43.out.later b4).wrote hk4 _ _
        have R5 : Hid (Row w5 w2.heap.size ab gb cb m Mx) := by rw [hw5]; exact (R3.out.later b4).kept (wrote_off _ _ _ _ _ _ (by omega))
        have X5 : Hid (XAt w5 gx 0 α β ax m cx) := by rw [hw5]; exact (X3.out.kept (b4.block gx hgx3)).kept (wrote_off _ _ _ _ _ _ (by omega))
        have B5 : Hid (Below gs w w5) := by rw [hw5]; exact wrote_below (B3.out.trans (b4.mono (by have := H43.out.BW; omega))) (Nat.le_refl _) _ _ _
        clear hw5 b4 hc5 ht5 H43 R3 X3 B3
        go_wp2_with fail
        go_loopw [9] (fun y wl => ∃ (q : Nat) (G : Nat → Nat), q ≤ m ∧ y = .int .i64 q ∧ Hid (Row wl w2.heap.size ab gb cb m G) ∧ Hid (∀ j, j < m → G j < 256) ∧ Hid (Four wl gs (gs + 1) gx (upd nw k c5) (upd (fun k => moreN 0 (Fw k) (nw k)) k t5) aw nw cw Fw) ∧ Hid (XAt wl gx 0 α β ax m cx) ∧ Hid (Below gs w wl)) (fun y _ => m - (intOf y).toNat)
        case atStart => exact ⟨0, Mx, Nat.zero_le _, rfl, R5, fun j _ => N8.out j, H45, X5, B5⟩
        case round =>
          clear R5 H45 X5 B5
          rename World => wl
          obtain ⟨q, G, hq, rfl, R, G8, H, X, B⟩ := hrel
          by_cases hqm : q < m
          · have hqi : (q : Int) < (m : Int) := by omega
            obtain ⟨rfl, hb⟩ := R.out.1 (by omega)
            have hc := hb.cell hqm
            have hf := hb.frozen q
            have hx8 := G8.out q hqm
            have hxo : bits BinOp.xor IntKind.u8 ((G q : Nat) : Int) 85 = ((G q ^^^ 85 : Nat) : Int) := u8_xor_nat (G q) 85 hx8 (by omega)
            have hz8 : G q ^^^ 85 < 256 := Nat.xor_lt_two_pow (n := 8) hx8 (by omega)
            have R' : Hid (Row (wl.setCell ⟨gb, q, none⟩ (.int .u8 ((G q ^^^ 85 : Nat) : Int))) w2.heap.size (some ⟨gb, 0, none⟩) gb cb m (upd G q (G q ^^^ 85))) := ⟨fun _ => ⟨rfl, hb.store q _⟩, R.out.2⟩
            have G8' : Hid (∀ j, j < m → upd G q (G q ^^^ 85) j < 256) := fun j hj => by
              unfold upd
              split
              · exact hz8
              · exact G8.out j hj
            have hbs : Below gx wl (wl.setCell ⟨gb, q, none⟩ (.int .u8 ((G q ^^^ 85 : Nat) : Int))) := (Below.refl gx wl).setCell (p := ⟨gb, q, none⟩) (show gx ≤ gb by omega) _
            have H' := hid (H.out.below hbs)
            have X' : Hid (XAt (wl.setCell ⟨gb, q, none⟩ (.int .u8 ((G q ^^^ 85 : Nat) : Int))) gx 0 α β ax m cx) := X.out.kept (Below.heap_setCell _ _ _ _ (show gx ≠ gb by omega))
            have B' : Hid (Below gs w (wl.setCell ⟨gb, q, none⟩ (.int .u8 ((G q ^^^ 85 : Nat) : Int)))) := B.out.setCell (p := ⟨gb, q, none⟩) (show gs ≤ gb by omega) _
            clear hb R G8 H X B hbs
            generalize G q ^^^ 85 = Z at *
            generalize G q = Y at *
            go_wp2_with fail
            exact ⟨⟨q + 1, _, by omega, by go_num, R', G8', H', X', B'⟩, by simp [intOf]; omega⟩
          · have hge : ¬ ((q : Int) < (m : Int)) := by omega
            have x3 := X.out.c3
            have ck := H.out.cell k hk4
            have fk := H.out.fz k
            have hm1 : nw k + m ≤ 1048576 := by have := HLe.out k hk4; omega
            have HCl : Hid (∀ W : World, W.heap = wl.heap → Calls Try.prog 12 #[.agg #[.slice (aw k) (nw k) (cw k)], .slice ax m cx] W fun e w' => ∃ a' c', e = .returned (.agg #[.slice a' (nw k + m) c']) ∧ Own w' W.heap.size 5 .u8 (.slice a' (nw k + m) c') (nw k + m) (cat (nw k) (Fw k) Mx) ∧ Below W.heap.size W w') := fun W hW =>
              refWrite_any (aw k) (nw k) (cw k) (Fw k) ax m cx Mx W (((H.out.own k hk4).nums).same hW) ((nums_below NB.out HGS.out B.out).same hW) (fun e => by
                obtain ⟨a1, c1, h1, _, _, h4⟩ := (H.out.own k hk4).form
                have e1 : aw k = a1 := by injection h1
                have e2 : cw k = c1 := by injection h1
                have := h4 (by rw [← e1]; exact e)
                omega) NN.out hm1
            have hsz : gs + 1 < wl.heap.size := by have := H.out.wB; have := H.out.BW; omega
            generalize hak : aw k = ak at *
            generalize hck : cw k = ckk at *
            generalize hnk : nw k + m = nk at *
            go_wp2_with fail
            go_region_with (go_at_call 12; refine (HCl.out _ (by rfl)).mono ?_; rintro e w9 ⟨a', c', rfl, o9, b9⟩; have y1 := cell_block (w := wl) (w' := w9) (b9.block (gs + 1) hsz) ck; have y2 := fz_block (w := wl) (w' := w9) (b9.block (gs + 1) hsz) fk)
            all_goals
              have S' : Hid (Said (w9.setCell ⟨gs + 1, k, none⟩ (.slice a' nk c')) gs (gs + 1) (tot L (i + 1))) := by rw [HT1.out]; exact said_write H.out hk4 b9 o9 N8.out (by rw [hnk]; exact HC5.out) HT5.out HLe.out htot hnk
              have B' : Hid (Below gs w (w9.setCell ⟨gs + 1, k, none⟩ (.slice a' nk c'))) := (B.out.trans ((below_drew b9).mono (by omega))).setCell (p := ⟨gs + 1, k, none⟩) (show gs ≤ gs + 1 by omega) _
              clear y1 y2 b9 o9 H X B R G8 HCl ck fk x3
              go_wp2_with fail
              exact ⟨⟨i + 1, by omega, by go_num, S', B'⟩, by simp [intOf]; omega⟩
      · have e0 : (κ == 0) = false := beq_eq_false_iff_ne.2 k0
        clear k0
        by_cases k1 : κ = 1
        · subst k1
          have ck := H4.out.cell k hk4
          have HSm := hid (fun W (hW : Below w2.heap.size w2 W) => sSum_any gs (k * 2) (nw k) (moreN 0 (Fw k) (nw k)) W ((H4.out.later hW).str k hk4))
          have hnk : nw k ≤ 1048576 := by have := HLe.out k hk4; omega
          have HRs := hid (fun W (hW : Below w2.heap.size w2 W) => refSum_any (aw k) (nw k) (cw k) (Fw k) W ((H4.out.later hW).own k hk4).nums (fun j _ => H4.out.lt8 k hk4 j) hnk)
          have f1 : ∀ W, Below w2.heap.size w2 W → W.cell? ⟨gs + 1, k, none⟩ = some (.slice (aw k) (nw k) (cw k)) := fun W hW => (H4.out.later hW).cell k hk4
          generalize moreN 0 (Fw k) (nw k) = Y at *
          have hyy : ((Y : Int) != (Y : Int)) = false := by simp
          generalize aw k = ak at *
          generalize cw k = ckk at *
          generalize nw k = nk at *
          clear ck
          go_wp2_with fail
          go_region_held3 (fun W => Below w2.heap.size w2 W) (first | assumption | exact (Below.refl _ _).drew) (first
            | (go_at_call 13; refine (HSm.out _ (by assumption)).mono ?_; rintro e w8 ⟨rfl, rfl⟩)
            | (go_at_call 14; refine (HRs.out _ (by assumption)).mono ?_; rintro e w9 ⟨rfl, b9⟩; have hS9 := below_up (by assumption) b9))
          all_goals go_wp2_with fail
          all_goals (have S' : Hid (Said w9 gs (gs + 1) (tot L (i + 1))) := by rw [HT1.out]; exact Said.later ⟨_, _, _, _, H4.out.top, HLe.out⟩ (by assumption) (by omega))
          all_goals (have B' : Hid (Below gs w w9) := B2.out.trans (Below.mono (by assumption) (by omega)))
          all_goals exact ⟨⟨i + 1, by omega, by go_num, S', B'⟩, by simp [intOf]; omega⟩
        · have e1 : (κ == 1) = false := beq_eq_false_iff_ne.2 k1
          clear k1
          by_cases k2 : κ = 2
          · subst k2
            have HLn := hid (fun j => sLen_any gs (k * 2) (nw k) (moreN 0 (Fw k) (nw k)) (w2.drewN j) ((H4.out.str k hk4).drewN j))
            have ck := H4.out.cell k hk4
            have hnk : nw k ≤ 1048576 := by have := HLe.out k hk4; omega
            generalize aw k = ak at *
            generalize cw k = ckk at *
            generalize hnn : nw k = nk at *
            have hyy : ((nk : Int) != (nk : Int)) = false := by simp
            clear hnn
            go_wp2_with fail
            go_quiet ((go_at_call 15; exact Calls.quiet_of_same (HLn.out _)))
            go_wp2_with fail
            have S' : Hid (Said (w2.drewN nq) gs (gs + 1) (tot L (i + 1))) := by rw [HT1.out]; exact Said.later ⟨_, _, _, _, H4.out.top, HLe.out⟩ (below_drewN (Below.refl _ _) _) (by omega)
            have B' : Hid (Below gs w (w2.drewN nq)) := below_drewN B2.out _
            exact ⟨⟨i + 1, by omega, by go_num, S', B'⟩, by simp [intOf]; omega⟩
          · have e2 : (κ == 2) = false := beq_eq_false_iff_ne.2 k2
            clear k2
            by_cases k3 : κ = 3
            · subst k3
              have HRt := hid (sReset_any gs (k * 2) (nw k) (moreN 0 (Fw k) (nw k)) w2 (H4.out.str k hk4))
              go_wp2_with fail
              refine HRt.out.mono ?_
              rintro e w5 ⟨rfl, hw5⟩
              rw [reset_eq] at hw5
              have H5 : Hid (Four w5 gs (gs + 1) gx (upd nw k 0) (upd (fun k => moreN 0 (Fw k) (nw k)) k 0) aw nw cw Fw) := by rw [hw5]; exact H4.out.wrote hk4 0 0
              have B5 : Hid (Below gs w w5) := by rw [hw5]; exact wrote_below B2.out (Nat.le_refl _) _ _ _
              have ck := H5.out.cell k hk4
              have fk := H5.out.fz k
              clear hw5 HRt
              have S6 : Hid (Said (w5.setCell ⟨gs + 1, k, none⟩ (.slice none 0 0)) gs (gs + 1) (tot L (i + 1))) := by
                rw [HT1.out]
                refine Said.mk' (H5.out.put hk4 (Own.nil w5 _ _ _ (fun _ => 0)) (fun _ => by omega)) (fun j hj => ?_) (fun j hj => ?_) (fun j hj => ?_)
                · unfold upd; by_cases e : j = k <;> simp [e]
                · unfold upd updF
                  by_cases e : j = k
                  · simp only [if_pos e]; unfold moreN; rw [reg_zero]
                  · simp only [if_neg e]
                · unfold upd
                  have := HLe.out j hj
                  split <;> omega
              have B6 : Hid (Below gs w (w5.setCell ⟨gs + 1, k, none⟩ (.slice none 0 0))) := B5.out.setCell (p := ⟨gs + 1, k, none⟩) (show gs ≤ gs + 1 by omega) _
              generalize aw k = ak at *
              generalize cw k = ckk at *
              generalize nw k = nk at *
              go_wp2_with fail
              exact ⟨⟨i + 1, by omega, by go_num, S6, B6⟩, by simp [intOf]; omega⟩
            · have e3 : (κ == 3) = false := beq_eq_false_iff_ne.2 k3
              clear k3
              by_cases k4 : κ = 4
              · subst k4
                have x2 := X2.out.c2
                obtain ⟨p, hp⟩ : ∃ p, fourN β = p := ⟨_, rfl⟩
                have hp4 : p < 4 := by rw [← hp]; exact fourN_lt β
                have hp4i : (p : Int) < 4 := by omega
                have HK2 := hid (fun wx => four_any β wx)
                rw [hp] at HK2
                clear hp
                have s1 := (H4.out.str k hk4).c
                have s2 := (H4.out.str k hk4).t
                have s3 := (H4.out.str p hp4).c
                have s4 := (H4.out.str p hp4).t
                have s5 := (H4.out.str p hp4).fc
                have s6 := (H4.out.str p hp4).ft
                obtain ⟨Y, hY⟩ : ∃ Y, moreN 0 (Fw k) (nw k) = Y := ⟨_, rfl⟩
                obtain ⟨Y2, hY2⟩ : ∃ Y2, moreN 0 (Fw p) (nw p) = Y2 := ⟨_, rfl⟩
                rw [hY] at s2
                rw [hY2] at s4
                obtain ⟨nk, hnk⟩ : ∃ nk, nw k = nk := ⟨_, rfl⟩
                obtain ⟨np, hnp⟩ : ∃ np, nw p = np := ⟨_, rfl⟩
                rw [hnk] at s1
                rw [hnp] at s3
                have HY := hid hY
                have HNK := hid hnk
                clear hY hY2 hnk hnp
                go_wp2_with fail
                go_region_with (go_at_call 9; refine (HK2.out _).mono ?_; rintro e w8 ⟨rfl, hw8⟩; subst w8)
                all_goals
                  obtain ⟨w5, hw5⟩ : ∃ w5, ((w2.setCell ⟨gs, p * 2, none⟩ (.int .u64 (nk : Int))).setCell ⟨gs, p * 2 + 1, none⟩ (.int .u32 (Y : Int))).drew = w5 := ⟨_, rfl⟩
                  rw [hw5]
                  rw [wrote_swap] at hw5
                  have hbd : Below gx (wrote w2 gs (p * 2) nk Y) w5 := by rw [← hw5]; exact (Below.refl gx _).drew
                  have H5 : Hid (Four w5 gs (gs + 1) gx (upd nw p nk) (upd (fun k => moreN 0 (Fw k) (nw k)) p Y) aw nw cw Fw) := (H4.out.wrote hp4 nk Y).below hbd
                  have X5 : Hid (XAt w5 gx 4 α β ax m cx) := by rw [← hw5]; exact (X2.out.kept (wrote_off _ _ _ _ _ _ (show gx ≠ gs by omega))).kept rfl
                  have B5 : Hid (Below gs w w5) := by rw [← hw5]; exact (wrote_below B2.out (Nat.le_refl _) _ _ _).drew
                  clear hw5 hbd s1 s2 s3 s4 s5 s6 x2 x0
                  have y2 := X5.out.c2
                  have c1 := H5.out.cell k hk4
                  have c2 := H5.out.cell p hp4
                  have f2 := H5.out.fz p
                  have S' : Hid (Said (w5.setCell ⟨gs + 1, p, none⟩ (.slice (aw k) (nw k) (cw k))).drew gs (gs + 1) (tot L (i + 1))) := by
                    rw [HT1.out]
                    refine Said.later (T := T) ?_ ((Below.refl _ _).drew) (by omega)
                    refine Said.mk' (H5.out.put hp4 (H5.out.own k hk4) (H5.out.lt8 k hk4)) (fun j hj => ?_) (fun j hj => ?_) (fun j hj => ?_)
                    · unfold upd; by_cases e : j = p <;> simp [e, HNK.out]
                    · unfold upd updF
                      by_cases e : j = p
                      · simp only [if_pos e]; exact HY.out.symm
                      · simp only [if_neg e]
                    · unfold upd
                      have h1 := HLe.out j hj
                      have h2 := HLe.out k hk4
                      split <;> omega
                  have B' : Hid (Below gs w (w5.setCell ⟨gs + 1, p, none⟩ (.slice (aw k) (nw k) (cw k))).drew) := (B5.out.setCell (p := ⟨gs + 1, p, none⟩) (show gs ≤ gs + 1 by omega) _).drew
                  clear H5 X5 B5
                  generalize aw k = ak at *
                  generalize cw k = ckk at *
                  generalize aw p = ap at *
                  generalize cw p = cp at *
                  generalize nw p = np2 at *
                  generalize hnn : nw k = nk2 at *
                  clear hnn
                  go_wp2_with fail
                  go_region_with (go_at_call 9; refine (HK2.out _).mono ?_; rintro e w8 ⟨rfl, hw8⟩; subst w8)
                  all_goals go_wp2_with fail
                  all_goals exact ⟨⟨i + 1, by omega, by go_num, S', B'⟩, by simp [intOf]; omega⟩
              · have e4 : (κ == 4) = false := beq_eq_false_iff_ne.2 k4
                clear k4
                by_cases k5 : κ = 5
                · subst k5
                  have x3 := X2.out.c3
                  go_wp2_with fail
                  refine (twin_any ax m cx Mx w2 (nums_below NB.out HGS.out B2.out) (by omega) NN.out).mono ?_
                  rintro e w3 ⟨v3, rfl, o3, b3⟩
                  obtain ⟨a3, c3, rfl, _, _, _⟩ := o3.form
                  have S' : Hid (Said w3 gs (gs + 1) (tot L (i + 1))) := by rw [HT1.out]; exact Said.later ⟨_, _, _, _, H4.out.top, HLe.out⟩ b3 (by omega)
                  have B' : Hid (Below gs w w3) := B2.out.trans (b3.mono (by omega))
                  clear o3 b3
                  go_wp2_with (go_at_call 17; refine (nothing_any _ _ _ _).mono ?_; rintro e w4 ⟨rfl, rfl⟩)
                  exact ⟨⟨i + 1, by omega, by go_num, S', B'⟩, by simp [intOf]; omega⟩
                · have e5 : (κ == 5) = false := beq_eq_false_iff_ne.2 k5
                  clear k5
                  have S' : Hid (Said w2 gs (gs + 1) (tot L (i + 1))) := by rw [HT1.out]; exact Said.later ⟨_, _, _, _, H4.out.top, HLe.out⟩ (Below.refl _ _) (by omega)
                  go_wp2_with fail
                  exact ⟨⟨i + 1, by omega, by go_num, S', B2⟩, by simp [intOf]; omega⟩
    · have hd : decide ((i : Int) < (n : Int)) = false := by simp; omega
      have htn : tot L i ≤ 1048576 := Nat.le_trans (tot_le (L := L) hi) PA.out.all
      obtain ⟨aw, nw, cw, Fw, h4, hle⟩ := HS.out
      have H4 := hid h4
      have HLe : Hid (∀ k, k < 4 → nw k ≤ 1048576) := fun k hk => Nat.le_trans (hle k hk) htn
      have hgw := h4.wB
      have hsw := h4.sw
      clear h4 hle HS htn
      go_wp2_with fail
      go_loopw [10] (fun y wx => ∃ k : Nat, k ≤ 4 ∧ y = .int .i64 k ∧ Hid (Below wr.heap.size wr wx)) (fun y _ => 4 - (intOf y).toNat)
      case atStart => exact ⟨0, by omega, rfl, Below.refl _ _⟩
      case round =>
        rename World => wx
        obtain ⟨k, hk, rfl, HX⟩ := hrel
        by_cases hk4 : k < 4
        · have hk4i : (k : Int) < 4 := by omega
          have hbx : Below wr.heap.size wr wx.drew := HX.out.drew
          have HSm := hid (fun W (hW : Below wr.heap.size wr W) => sSum_any gs (k * 2) (nw k) (moreN 0 (Fw k) (nw k)) W ((H4.out.later hW).str k hk4))
          have HLn := hid (fun W (hW : Below wr.heap.size wr W) => sLen_any gs (k * 2) (nw k) (moreN 0 (Fw k) (nw k)) W ((H4.out.later hW).str k hk4))
          have HRs := hid (fun W (hW : Below wr.heap.size wr W) => refSum_any (aw k) (nw k) (cw k) (Fw k) W ((H4.out.later hW).own k hk4).nums (fun j _ => H4.out.lt8 k hk4 j) (HLe.out k hk4))
          have f1 : ∀ W, Below wr.heap.size wr W → W.cell? ⟨gs + 1, k, none⟩ = some (.slice (aw k) (nw k) (cw k)) := fun W hW => (H4.out.later hW).cell k hk4
          have hnk := HLe.out k hk4
          generalize moreN 0 (Fw k) (nw k) = Y at *
          have hyy : ((Y : Int) != (Y : Int)) = false := by simp
          generalize aw k = ak at *
          generalize cw k = ckk at *
          generalize nw k = nk at *
          have hnn : ((nk : Int) != (nk : Int)) = false := by simp
          have hwrap : IntKind.u64.wrap (nk : Int) = (nk : Int) := by rw [IntKind.wrap_u64]; omega
          go_wp2_with fail
          go_region_held3 (fun W => Below wr.heap.size wr W) (first | assumption | exact hbx) (first
            | (go_at_call 13; refine (HSm.out _ (by assumption)).mono ?_; rintro e w8 ⟨rfl, rfl⟩)
            | (go_at_call 15; refine (HLn.out _ (by assumption)).mono ?_; rintro e w8 ⟨rfl, rfl⟩)
            | (go_at_call 14; refine (HRs.out _ (by assumption)).mono ?_; rintro e w9 ⟨rfl, b9⟩; have hS9 := below_up (by assumption) b9))
          all_goals go_wp2_with fail
          all_goals exact ⟨⟨k + 1, by omega, by go_num, by first | exact hS9 | assumption⟩, by simp [intOf]; omega⟩
        · have hge4 : ¬ ((k : Int) < 4) := by omega
          go_wp2_with (go_at_call 18; refine (known_any _).mono ?_; rintro e w9 ⟨rfl, b9⟩)
          go_ret
          refine ⟨rfl, ?_⟩
          rw [HGS.out]
          exact (HB.out.trans (HX.out.mono (by have := H4.out.BW; omega))).trans (b9.mono (by have := HX.out.size; omega))
end Go.Proofs.Ytjiibjbbbglpeaa
