/-
  For LanesOwn: twin, said, turned; rows that were appended to; strings.
-/
import Derived.Test.YtoephmcmmbhnaacLSeven
namespace Go.Proofs.Ytoephmcmmbhnaac.Ln
open Go.RowKit Go.Sort
open Bt (packF Tail putF)

set_option maxHeartbeats 400000 in
theorem twin_own (a0 : Option Addr) (n c : Nat) (B : Nat → Nat) (w : World) (hn : n ≤ 140737488351232) (hN : Nums w .u8 a0 n B) (ha : a0 = none → n = 0 ∧ c = 0) :
    Calls Try.prog 7 #[.slice a0 n c] w fun e w' => ∃ a1 c1, e = .returned (.slice a1 n c1) ∧ n ≤ c1 ∧ c1 ≤ maxLen ∧ Own w' w.heap.size 5 .u8 (.slice a1 n c1) n B ∧ Below w.heap.size w w' := by
  obtain ⟨v', w', hr, hO, hg, hv⟩ := run_many (t := 29) (ty := 29) (B := w.heap.size) Try.underlying29 infoU8 (Own.nil w w.heap.size 5 .u8 B) hN ha (by omega) (by omega) (Nat.le_refl _)
  have HO : Hid (Own w' w.heap.size 5 .u8 v' n B) := by
    have h2 : Own w' w.heap.size 5 .u8 v' n (cat 0 B B) := by simpa using hO
    exact h2.ext fun j _ => by unfold cat; simp
  have HB : Hid (Below w.heap.size w w') := (Below.refl _ w).grown hg (Nat.le_refl _) (fun k hk => by simp [Value.ownBlock] at hk)
  have HR : Hid ((Builtin.append_ #[29, 29] 29 #[.slice none 0 0, .slice a0 n c]).run Try.prog w = .ok v' w') := hr
  clear hO hg hv hr
  go_enter Try.func7, Try.ntmps7
  go_wp2_with (at_builtin; refine wpList_app (by rfl) (by rfl) HR.out ?_)
  go_ret
  have hO := HO.out
  obtain ⟨a1, c1, rfl, h1, h2, _⟩ := hO.form
  exact ⟨a1, c1, rfl, h1, h2, hO, HB.out⟩

/-- A row of bools that lies from block B on. -/
def BAt (w : World) (B : Nat) (a0 : Option Addr) (n : Nat) (f : Nat → Bool) : Prop := ∀ j, j < n → ∃ g o, a0 = some ⟨g, o, none⟩ ∧ B ≤ g ∧ g < w.heap.size ∧ w.cell? ⟨g, o + j, none⟩ = some (.bool (f j))
theorem BAt.later {w w' : World} {B : Nat} {a0 : Option Addr} {n : Nat} {f : Nat → Bool} (h : BAt w B a0 n f) (hb : Below w.heap.size w w') : BAt w' B a0 n f := fun j hj => by
  obtain ⟨g, o, e, hB, hg, hc⟩ := h j hj
  exact ⟨g, o, e, hB, Nat.lt_of_lt_of_le hg hb.size, (hb.cell (p := ⟨g, o + j, none⟩) hg).trans hc⟩
theorem BAt.turned {w w' : World} {B x : Nat} {a0 : Option Addr} {n : Nat} {f : Nat → Bool} (h : BAt w B a0 n f) (ht : Turned x w w') (hx : x < B) : BAt w' B a0 n f := fun j hj => by
  obtain ⟨g, o, e, hB, hg, hc⟩ := h j hj
  exact ⟨g, o, e, hB, Nat.lt_of_lt_of_le hg ht.size, (ht.cell (p := ⟨g, o + j, none⟩) hg (show g ≠ x by omega)).trans hc⟩
theorem BAt.bnums {w : World} {B : Nat} {a0 : Option Addr} {n : Nat} {f : Nat → Bool} (h : BAt w B a0 n f) : BNums w a0 n f := fun j hj => by
  obtain ⟨g, o, e, _, hg, hc⟩ := h j hj
  exact ⟨g, o, e, hg, hc⟩
theorem OwnB.at {w : World} {B : Nat} {v : Value} {n : Nat} {f : Nat → Bool} (h : OwnB w B v n f) : ∃ a0 c, v = .slice a0 n c ∧ BAt w B a0 n f := by
  have hl := World.ownsRow.lt h
  obtain ⟨a0, c, rfl, hb⟩ := h.form
  refine ⟨a0, c, rfl, fun j hj => ?_⟩
  obtain ⟨g, o, e, hg, hc⟩ := hb j hj
  subst e
  exact ⟨g, o, rfl, (hl g rfl).1, hg, hc⟩
theorem newSet_turned {w w' : World} {d g n x : Nat} {ws : List Nat} (h : Bt.NewSet w d g n ws) (ht : Turned x w w') (h1 : d ≠ x) (h2 : g ≠ x) : Bt.NewSet w' d g n ws :=
  newSet_kept h (ht.block d (newSet_lt h).1 (fun e => h1 (by cases e; rfl))) (ht.block g (newSet_lt h).2 (fun e => h2 (by cases e; rfl)))
theorem below_turned {B x : Nat} {a w w' : World} (h : Below B a w) (ht : Turned x w w') (hx : B ≤ x) (hs : B ≤ w.heap.size) : Below B a w' := h.trans (ht.below hx hs)
theorem below_grown {B : Nat} {a w w' : World} {row : Option Nat} (h : Below B a w) (hg : w.grownBy w' row) (hr : ∀ k, row = some k → B ≤ k) (hs : B ≤ w.heap.size) : Below B a w' := h.grown hg hs hr
theorem blk_grown {w w' : World} {g : Nat} {e : TypeId} {k : IntKind} {c m : Nat} {L : Nat → Nat} {row : Option Nat} (h : Blk w g e k c m L) (hg : w.grownBy w' row) (hne : row ≠ some g) : Blk w' g e k c m L := h.kept (hg.block g h.lt fun e => hne e.symm)
theorem grown_refl (w : World) (row : Option Nat) : w.grownBy w row := ⟨rfl, rfl, rfl, Nat.le_refl _, fun _ _ _ => rfl⟩

/-- An append of numbers that are written out. -/
theorem lit_run {w : World} {B : Nat} {t e : TypeId} {k : IntKind} {by0 : Nat} {v : Value} {n m : Nat} {L M : Nat → Nat} (lit : Array Value) (hsz : lit.size = m) (hl : ∀ j, j < m → lit[j]? = some (.int k (M j : Int))) (hm : 0 < m)
    (ht : Try.prog.underlying t = some (.slice e)) (hi : (Try.prog.info? e).map (fun i => (i.zero, i.size, i.bytes)) = some (some (.int k 0), 1, by0))
    (ho : Own w B e k v n L) (hb : (n + m) * by0 ≤ 140737488355328) (hp : 0 < by0) (hB : B ≤ w.heap.size) :
    ∃ g c w', (Builtin.append_ #[t, t] t #[v, .slice (some ⟨w.heap.size, 0, none⟩) m m]).run Try.prog (w.alloc (.cells lit e)) = .ok (.slice (some ⟨g, 0, none⟩) (n + m) c) w' ∧ Blk w' g e k c (n + m) (cat n L M) ∧ B ≤ g ∧ c ≤ maxLen ∧ Below B w w' := by
  have hN : Nums (w.alloc (.cells lit e)) k (some ⟨w.heap.size, 0, none⟩) m M := fun j hj => ⟨w.heap.size, 0, rfl, by simp, by
    rw [Nat.zero_add]
    exact VRow.cell (V := fun j => .int k (M j : Int)) ⟨lit, heap_alloc_new w _, hsz, hl⟩ hj⟩
  have ho2 : Own (w.alloc (.cells lit e)) B e k v n L := ho.later ((Below.refl _ w).alloc (Nat.le_refl _) _)
  obtain ⟨v', w', hr, hO, hg, _⟩ := run_many (w := w.alloc (.cells lit e)) (t := t) (ty := t) (c := m) ht hi ho2 hN (fun h => by simp at h) hb hp (by simp; omega)
  rcases hO.blk with ⟨_, h0⟩ | ⟨g, c, rfl, h1, h2, h3, h4⟩
  · omega
  · exact ⟨g, c, w', hr, h4, h1, h3, ((Below.refl _ w).alloc hB _).grown hg (by simp; omega) (fun j hj => (ho.lt j hj).1)⟩

set_option maxHeartbeats 1000000 in
set_option maxRecDepth 20000 in
theorem said_yes (d n : Nat) (f : Nat → Bool) (w : World) (hs : Bt.SetF w d n f) (hn : n ≤ 16777216) :
    Calls Try.prog 14 #[.pointer (some ⟨d, 0, none⟩)] w fun e w' => ∃ a c, e = .returned (.slice a n c) ∧ BAt w' w.heap.size a n f ∧ Below w.heap.size w w' := by
  have HL : Hid (∀ W, Below w.heap.size w W → Calls Try.prog 40 #[.pointer (some ⟨d, 0, none⟩)] W fun e w' => e = .returned (.int .i64 (n : Int)) ∧ w' = W) := fun W h => Bt.len_set d n _ W (hs.later h)
  have HG : Hid (∀ (i : Nat) W, i < n → Below w.heap.size w W → Calls Try.prog 46 #[.pointer (some ⟨d, 0, none⟩), .int .i64 (i : Int)] W fun e w' => e = .returned (.bool (f i)) ∧ ∃ j, w' = W.drewN j) := fun i W hi h => Bt.get_in d n i f W (hs.later h) hn hi
  clear hs
  go_enter Try.func14, Try.ntmps14
  go_wp2_with fail
  go_loopw [3, 4] (fun v ix wr => ∃ i : Nat, i ≤ n ∧ ix = .int .i64 i ∧ Hid (OwnB wr w.heap.size v i f ∧ Below w.heap.size w wr)) (fun _ ix _ => n - (intOf ix).toNat)
  case atStart => exact ⟨0, Nat.zero_le _, rfl, OwnB.nil _ _ _, Below.refl _ _⟩
  case round =>
    obtain ⟨i, hi, rfl, HI⟩ := hrel
    go_wp2_with fail
    refine (HL.out _ HI.out.2).mono ?_
    rintro e wz ⟨rfl, hwz⟩
    subst wz
    by_cases hlt : i < n
    · have hbi : (i : Int) < (n : Int) := by omega
      go_wp2_with fail
      refine (HG.out i _ hlt HI.out.2).mono ?_
      rintro e w1 ⟨rfl, j1, hw1⟩
      have hO : OwnB w1 w.heap.size u3 i f := by rw [hw1]; exact HI.out.1
      have hB : Below w.heap.size w w1 := by rw [hw1]; exact below_on HI.out.2 (Grew.drewN _ _).below
      obtain ⟨g, c', w2, hr2, hO2, hB2⟩ := run_oneB hO (by omega) hB.size (f i) rfl
      have HR2 : Hid ((Builtin.append_ #[42, 42] 42 #[u3, .slice (some ⟨w1.heap.size, 0, none⟩) 1 1]).run Try.prog (w1.alloc (.cells #[.bool (f i)] 4)) = .ok (.slice (some ⟨g, 0, none⟩) (i + 1) c') w2) := hr2
      have HO2 : Hid (OwnB w2 w.heap.size (.slice (some ⟨g, 0, none⟩) (i + 1) c') (i + 1) f ∧ Below w.heap.size w w2) := ⟨hO2, hB.trans hB2⟩
      clear hO hB hO2 hB2 hr2 HI hw1
      generalize f i = z at *
      go_wp2_with (at_builtin; refine wpList_app (by rfl) (by rfl) HR2.out ?_)
      exact ⟨⟨i + 1, by omega, by go_num, HO2.out⟩, by simp [intOf]; omega⟩
    · obtain rfl : i = n := by omega
      obtain ⟨hO, hB⟩ := HI.out
      obtain ⟨a2, c2, rfl, hbn⟩ := hO.at
      have HE : Hid (BAt wr w.heap.size a2 i f ∧ Below w.heap.size w wr) := ⟨hbn, hB⟩
      clear hO hB HI hbn
      go_wp2
      go_ret
      exact ⟨a2, c2, rfl, HE.out⟩

theorem Turned.drew {g : Nat} {a b : World} (h : Turned g a b) : Turned g a b.drew := ⟨h.os, h.tape, h.output, h.size, h.block⟩
set_option maxHeartbeats 1000000 in
set_option maxRecDepth 20000 in
theorem turned_yes (d g n : Nat) (f : Nat → Bool) (w : World) (hs : Bt.NewSet w d g n (packF n f)) (hn : n ≤ 16777216) :
    Calls Try.prog 15 #[.pointer (some ⟨d, 0, none⟩)] w fun e w' => e = .returned (.tuple #[]) ∧ Turned g w w' := by
  have HS : Hid (Bt.NewSet w d g n (packF n f)) := hs
  clear hs
  go_enter Try.func15, Try.ntmps15
  go_wp2_with fail
  go_loopw [2] (fun ix wr => ∃ i : Nat, i ≤ n ∧ ix = .int .i64 i ∧ Hid ((∃ f', Bt.NewSet wr d g n (packF n f')) ∧ Turned g w wr)) (fun ix _ => n - (intOf ix).toNat)
  case atStart => exact ⟨0, Nat.zero_le _, rfl, ⟨f, HS.out⟩, Turned.refl _ _⟩
  case round =>
    clear HS
    obtain ⟨i, hi, rfl, HI⟩ := hrel
    obtain ⟨⟨f', hS⟩, hT⟩ := HI.out
    have HS : Hid (Bt.NewSet wr d g n (packF n f')) := hS
    have HT : Hid (Turned g w wr) := hT
    clear hS hT HI
    go_wp2_with fail
    refine (Bt.len_set d n _ wr HS.out.is).mono ?_
    rintro e wz ⟨rfl, hwz⟩
    subst wz
    by_cases hlt : i < n
    · have hbi : (i : Int) < (n : Int) := by omega
      go_wp2_with fail
      refine (Bt.get_in d n i f' wr HS.out.is hn hlt).mono ?_
      rintro e w1 ⟨rfl, j1, hw1⟩
      have HS1 : Hid (Bt.NewSet w1 d g n (packF n f')) := by rw [hw1]; exact HS.out
      have HT1 : Hid (Turned g w w1) := by rw [hw1]; exact HT.out.drewN j1
      clear hw1 HS HT
      generalize f' i = z at *
      go_wp2_with fail
      refine (Bt.put_at d g n i f' _ w1 HS1.out hn hlt).mono ?_
      rintro e w2 ⟨rfl, x, hw2, hS2⟩
      have HE : Hid ((∃ f', Bt.NewSet w2 d g n (packF n f')) ∧ Turned g w w2) := ⟨⟨_, hS2⟩, by rw [hw2]; exact (HT1.out.setCell _ _).drew⟩
      clear hw2 hS2
      go_wp2
      exact ⟨⟨i + 1, by omega, by go_num, HE.out⟩, by simp [intOf]; omega⟩
    · obtain rfl : i = n := by omega
      go_wp2
      go_end0
      exact ⟨rfl, HT.out⟩

def tailO (j : Nat) : Nat := 91 + j
/-- The first i numbers as they lie from behind. -/
def mirT (n i : Nat) (F : Nat → Nat) (j : Nat) : Nat := if j < i then F (n - 1 - j) else F j
theorem mirT_step (n i : Nat) (F : Nat → Nat) : ∀ j, upd (mirT n i F) i (F (n - 1 - i)) j = mirT n (i + 1) F j := fun j => by
  unfold upd mirT
  by_cases h : j = i
  · subst h; simp
  · by_cases h2 : j < i
    · simp [h, h2, show j < i + 1 by omega]
    · simp [h, h2, show ¬ j < i + 1 by omega]
theorem mirT_lt {n i k : Nat} {F : Nat → Nat} (h : ∀ j, F j < 2 ^ k) (j : Nat) : mirT n i F j < 2 ^ k := by
  unfold mirT; split <;> exact h _
/-- The first i bytes of the second, then the first. -/
def mixB (A B : Nat → Nat) (i j : Nat) : Nat := if j < i then B j else A j
theorem mixB_step (A B : Nat → Nat) (i : Nat) : ∀ j, upd (mixB A B i) i (B i) j = mixB A B (i + 1) j := fun j => by
  unfold upd mixB
  by_cases h : j = i
  · subst h; simp
  · by_cases h2 : j < i
    · simp [h, h2, show j < i + 1 by omega]
    · simp [h, h2, show ¬ j < i + 1 by omega]
theorem strOfNums_append (x y : List Int) : strOfNums (x ++ y) = strOfNums x ++ strOfNums y := by
  apply ByteArray.ext
  simp [strOfNums]
theorem strN_app (n m : Nat) (L M : Nat → Nat) : strN (n + m) (cat n L M) = strN n L ++ strN m M := by
  unfold strN
  rw [List.range_add, List.map_append]
  have h1 : (List.range n).map (fun j => (cat n L M j : Int)) = (List.range n).map (fun j => (L j : Int)) := List.map_congr_left fun j hj => by rw [cat_in (by simpa using hj)]
  have h2 : ((List.range m).map (fun x => n + x)).map (fun j => (cat n L M j : Int)) = (List.range m).map (fun j => (M j : Int)) := by
    rw [List.map_map]
    exact List.map_congr_left fun j _ => by simp [Function.comp, cat_at]
  rw [h1, h2, strOfNums_append]
def tailB (j : Nat) : Nat := 201 + j
theorem strN_tail : strN 8 tailB = ⟨#[201, 202, 203, 204, 205, 206, 207, 208]⟩ := rfl
end Go.Proofs.Ytoephmcmmbhnaac.Ln
