/-
  The law's sound. (Written by mksnd.py.)
-/
import Derived.Test.YtobmehajknmniaaGreatZSame
namespace Go.Proofs.YtobmehajknmniaaGreat
open Go.RowKit Crc Cu Vl
attribute [local go_sem] run_store_float

def colS (c : Col) : Col := ⟨c.nm, if c.T = 1 then 1 else 2, c.nb⟩
def cutT (s : ByteArray) : ByteArray := s.extract 0 (min s.size 65535)
def fixV (c : Col) (v : V) : V := if fitB c v = true then v else if c.T = 1 then vI v.I else vT (cutT v.s)
def sndL (c : Col) (l : List V) : List V := (l.take 1048576).map (fixV (colS c))
theorem colS_good (c : Col) : goodB (colS c) = true := by unfold goodB colS; dsimp only; split <;> simp
theorem cut_size (s : ByteArray) : (cutT s).size ≤ 65535 := by unfold cutT; simp only [ByteArray.size_extract]; omega
theorem fixV_ok {c : Col} {v : V} (hg : goodB c = true) (hv : VOk v) : fitB c (fixV c v) = true ∧ VOk (fixV c v) := by
  unfold fixV
  split
  · rename_i h; exact ⟨h, hv⟩
  · split
    · rename_i h
      exact ⟨by simp [fitB, fitsB, mayV, mayB, vI, h, Go.ByteArray.toList_eq], vI_ok hv.i⟩
    · rename_i h
      have h2 : c.T = 2 := by simp [goodB] at hg; omega
      have hs := cut_size v.s
      refine ⟨?_, vT_ok (by omega)⟩
      have hm : mayV (vT (cutT v.s)) = true := by
        have h3 : ((cutT v.s).size : Int) ≤ 65535 := by omega
        simp [mayV, mayB, vT, h3]
      unfold fitB fitsB
      rw [hm, show (vT (cutT v.s)).K = 2 from rfl, h2]
      simp
theorem sndL_fit (c : Col) {l : List V} (hv : ∀ v ∈ l, VOk v) : Fit (colS c) (sndL c l) := by
  have key : ∀ u ∈ sndL c l, fitB (colS c) u = true ∧ VOk u := fun u hu => by
    obtain ⟨v, h1, rfl⟩ := List.mem_map.1 hu
    exact fixV_ok (colS_good c) (hv v (List.mem_of_mem_take h1))
  exact ⟨colS_good c, fun u hu => (key u hu).1, fun u hu => (key u hu).2⟩
theorem sndL_len (c : Col) (l : List V) : (sndL c l).length ≤ 1048576 := by unfold sndL; rw [List.length_map, List.length_take]; omega
/-- A column is stored in a block. -/
def putC (w : World) (g : Nat) (c : Col) : World := ((w.setCell ⟨g, 0, none⟩ (.string c.nm)).setCell ⟨g, 1, none⟩ (.int .i64 c.T)).setCell ⟨g, 2, none⟩ (.bool c.nb)
theorem Bx.putC {w : World} {g : Nat} {x : Col} {t : TypeId} (h : Bx w g (ca x) t) (c : Col) : Bx (putC w g c) g (ca c) t := bx_set (bx_set (bx_set h _) _) _
theorem below_putC {B : Nat} {a w : World} (h : Below B a w) {g : Nat} (hg : B ≤ g) (c : Col) : Below B a (putC w g c) := ((h.setCell (p := ⟨g, 0, none⟩) hg _).setCell (p := ⟨g, 1, none⟩) hg _).setCell (p := ⟨g, 2, none⟩) hg _
theorem own_ne {w : World} {B : Nat} {e : TypeId} {v : Value} {l : List V} (h : OwnL vc 4 w B e v l) {g : Nat} (hg : ∀ b, v.ownBlock = some b → b ≠ g) (i : Nat) (u : Value) : OwnL vc 4 (w.setCell ⟨g, i, none⟩ u) B e v l := OwnL.kept h fun b hb => Below.heap_setCell _ _ _ _ (hg b hb)
theorem own_putC {w : World} {B : Nat} {e : TypeId} {v : Value} {l : List V} (h : OwnL vc 4 w B e v l) {g : Nat} (hg : ∀ b, v.ownBlock = some b → b ≠ g) (c : Col) : OwnL vc 4 (Go.Proofs.YtobmehajknmniaaGreat.putC w g c) B e v l := own_ne (own_ne (own_ne h hg _ _) hg _ _) hg _ _
theorem own_putV {w : World} {B : Nat} {e : TypeId} {v : Value} {l : List V} (h : OwnL vc 4 w B e v l) {g : Nat} (hg : ∀ b, v.ownBlock = some b → b ≠ g) (c : V) : OwnL vc 4 (Go.Proofs.YtobmehajknmniaaGreat.putV w g c) B e v l := own_ne (own_ne (own_ne (own_ne h hg _ _) hg _ _) hg _ _) hg _ _
theorem putV_size (w : World) (g : Nat) (v : V) : (putV w g v).heap.size = w.heap.size := by unfold putV; simp
theorem map_snoc (f : V → V) {l : List V} {i : Nat} {v : V} (h : l[i]? = some v) : (l.take (i + 1)).map f = (l.take i).map f ++ [f v] := by rw [List.take_add_one, h, List.map_append]; rfl

set_option maxRecDepth 20000 in
set_option maxHeartbeats 8000000 in
theorem sound_one (c : Col) (a2 : Option Addr) (l : List V) (c2 : Nat) (w : World) (h1 : c.T = 1) (hv : ∀ v ∈ l, VOk v) (hL : Lst vc 4 w a2 l) :
    Calls Tryz.prog 6 #[cv c, .slice a2 l.length c2] w fun e w' => ∃ v', e = .returned (.tuple #[cv (colS c), v']) ∧ OwnL vc 4 w' w.heap.size 27 v' (sndL c l) ∧ Below w.heap.size w w' := by
  have hcs : colS c = ⟨c.nm, 1, c.nb⟩ := by unfold colS; rw [if_pos h1]
  have HS : Hid (∀ i, i = l.length ∨ i = 1048576 → i ≤ 1048576 → i ≤ l.length → sndL c l = (l.take i).map (fixV (colS c))) := fun i h2 h3 h4 => by
    unfold sndL
    rcases h2 with rfl | rfl
    · rw [List.take_of_length_le h3, List.take_length]
    · rfl
  rw [hcs] at HS ⊢
  have HFx : Hid (∀ v, fixV ⟨c.nm, 1, c.nb⟩ v = if fitB ⟨c.nm, 1, c.nb⟩ v = true then v else vI v.I) := fun v => by unfold fixV; rw [if_pos (show (⟨c.nm, 1, c.nb⟩ : Col).T = 1 from rfl)]
  have HF : Hid (∀ v w, VOk v → Calls Tryz.prog 20 #[cv ⟨c.nm, 1, c.nb⟩, vv v] w fun e w' => e = .returned (.bool (fitB ⟨c.nm, 1, c.nb⟩ v)) ∧ Below w.heap.size w w') := fun v w h => refFits_any c.nm 1 c.nb v.K v.I v.b v.s w h.b
  have HM : Hid (∀ i v, l[i]? = some v → (l.take (i + 1)).map (fixV ⟨c.nm, 1, c.nb⟩) = (l.take i).map (fixV ⟨c.nm, 1, c.nb⟩) ++ [fixV ⟨c.nm, 1, c.nb⟩ v]) := fun i v h => map_snoc _ h
  have HV := hid hv
  have HLL := hid hL
  obtain ⟨W, hW⟩ : ∃ W, (w.alloc (.cells (ca ⟨c.nm, 1, c.nb⟩) 23)).alloc (.cells (ca ⟨⟨#[]⟩, 0, false⟩) 23) = W := ⟨_, rfl⟩
  obtain ⟨xc, xr, hB⟩ := two_bx hW
  have hWs : W.heap.size = w.heap.size + 2 := by rw [← hW]; simp
  have hres : Tryz.f6.results = #[.cell 4 23, .tmp 5] := by kernel_rfl
  have HRES := hid hres
  have Xc := hid xc
  have Xr := hid xr
  have B := hid hB
  have HW := hid hW
  clear hres hv hL hcs xc xr hB hW
  generalize hfv : fixV ⟨c.nm, 1, c.nb⟩ = fx1 at *
  generalize hsl : sndL c l = SL at *
  clear hfv hsl
  obtain ⟨nm, T, nb⟩ := c
  unfold ca at HW
  unfold cv at HF ⊢
  dsimp only at *
  subst h1
  
  go_enter Tryz.func6, Tryz.ntmps6
  go_wp2_with fail
  rw [HW.out]
  clear HW
  go_loopw [6, 7] (fun x y wr => ∃ i : Nat, i ≤ l.length ∧ i ≤ 1048576 ∧ y = .int .i64 i ∧ Hid (OwnL vc 4 wr W.heap.size 27 x ((l.take i).map fx1) ∧ Below W.heap.size W wr)) (fun _ y _ => l.length - (intOf y).toNat)
  case atStart => exact ⟨0, Nat.zero_le _, Nat.zero_le _, rfl, OwnL.nil _ _ _ _ _, Below.refl _ _⟩
  case round =>
    obtain ⟨i, hi, hi2, rfl, HS1⟩ := hrel
    rename World => wr
    by_cases hlt : i < l.length ∧ i < 1048576
    · have hii : (i : Int) < (l.length : Int) := by omega
      have hi3 : (i : Int) < 1048576 := by omega
      have hlen : ((l.take i).map fx1).length = i := by rw [List.length_map, List.length_take]; omega
      have Bw := hid (below_up B.out HS1.out.2)
      obtain ⟨gv, ov, rfl, hgv, k0, k1, k2, k3⟩ := (HLL.out.later Bw.out).cell4 hlt.1
      have hli := List.getElem?_eq_getElem hlt.1
      have HVi := hid (HV.out l[i] (List.getElem_mem hlt.1))
      have HMi := hid (HM.out i _ hli)
      have HFi := hid (HFx.out l[i])
      clear hli
      generalize l[i] = v at *
      have HFv := hid fun w => HF.out v w HVi.out
      generalize hML : (l.take i).map fx1 = ML at *
      clear hML
      generalize fitB _ v = q at *
      obtain ⟨K, I, b, s⟩ := v
      unfold vv at HFv
      dsimp only at *
      have b1 := below_new wr (.cells #[.int .i64 K, .int .i64 I, .float .f64 b, .string s] 27)
      have hxv : Bx (wr.alloc (.cells #[.int .i64 K, .int .i64 I, .float .f64 b, .string s] 27)) wr.heap.size (va ⟨K, I, b, s⟩) 27 := Bx.new wr _ _
      have Xv := hid hxv
      have Yc := hid ((Xc.out.later HS1.out.2).later b1)
      have O1 := hid (HS1.out.1.later b1)
      have HOB := hid fun g hg => (OwnL.lt HS1.out.1 g hg).2
      have hWr := HS1.out.2.size
      have B1 := hid (below_up HS1.out.2 b1)
      clear b1 hxv HS1
      obtain ⟨c0, c1, c2⟩ := Yc.out.col
      dsimp only at c0 c1 c2
      go_wp2_with fail
      refine (HFv.out _).mono ?_
      rintro e w2 ⟨rfl, hb⟩
      replace Xv := hid (Xv.out.later hb)
      replace Yc := hid (Yc.out.later hb)
      replace O1 := hid (O1.out.later hb)
      replace B1 := hid (below_up B1.out hb)
      clear hb k0 k1 k2 k3 c0 c1 c2 HFv
      obtain ⟨c0, c1, c2⟩ := Yc.out.col
      obtain ⟨v0, v1, v2, v3⟩ := Xv.out.val
      dsimp only at c0 c1 c2 v0 v1 v2 v3
      have hBs := B1.out.size
      cases q
      · rw [if_neg (by simp)] at HFi
        have hBs2 : W.heap.size ≤ (putV w2 wr.heap.size (vI I)).heap.size := by rw [putV_size]; exact hBs
        obtain ⟨g2, d2, w3, hr2, o2, b2, _⟩ := lst_one vc_len (by decide) vc_one (t := 24) (ty := 24) (by0 := 40) Tryz.underlying24 infoV rfl (own_putV O1.out (fun b hb => Nat.ne_of_lt (HOB.out b hb)) (vI I)) (by omega) (by decide) hBs2 (vI I) #[.int .i64 1, .int .i64 I, .float .f64 0, .string ⟨#[]⟩] rfl
        rw [hlen] at hr2 o2
        rw [putV_size] at hr2
        have B2 := hid ((below_put B1.out hWr (vI I)).trans b2)
        have O2 := hid o2
        have Z := (Xv.out.put (vI I)).val
        have fv := Xv.out.frz
        unfold putV vI at hr2 Z
        dsimp only at hr2 Z
        obtain ⟨z0, z1, z2, z3⟩ := Z
        have R2 := hid hr2
        clear hr2 o2 b2
        go_wp2_with (at_builtin; refine wpList_app (by rfl) (by rfl) R2.out ?_; clear R2)
        refine ⟨⟨i + 1, by omega, by omega, by go_num, ?_, B2.out⟩, by simp [intOf]; omega⟩
        rw [HMi.out, HFi.out]
        exact O2.out
      · rw [if_pos rfl] at HFi
        obtain ⟨g2, d2, w3, hr2, o2, b2, _⟩ := lst_one vc_len (by decide) vc_one (t := 24) (ty := 24) (by0 := 40) Tryz.underlying24 infoV rfl O1.out (by omega) (by decide) hBs ⟨K, I, b, s⟩ #[.int .i64 K, .int .i64 I, .float .f64 b, .string s] rfl
        rw [hlen] at hr2 o2
        have R2 := hid hr2
        have O2 := hid o2
        have B2 := hid (B1.out.trans b2)
        clear hr2 o2 b2
        go_wp2_with (at_builtin; refine wpList_app (by rfl) (by rfl) R2.out ?_; clear R2)
        refine ⟨⟨i + 1, by omega, by omega, by go_num, ?_, B2.out⟩, by simp [intOf]; omega⟩
        rw [HMi.out, HFi.out]
        exact O2.out
    · have hend : i = l.length ∨ i = 1048576 := by omega
      have HE := hid (HS.out i hend hi2 hi)
      rw [← HE.out] at HS1
      have Yc := hid (Xc.out.later HS1.out.2)
      have Yr := hid (Xr.out.later HS1.out.2)
      have O1 := hid HS1.out.1
      have B1 := hid (below_up B.out HS1.out.2)
      have HOB : Hid (∀ b, _ = some b → b ≠ w.heap.size + 1) := fun g hg => by have := (OwnL.lt HS1.out.1 g hg).1; omega
      clear HS1 HS HM HE
      obtain ⟨c0, c1, c2⟩ := Yc.out.col
      obtain ⟨r0, r1, r2⟩ := Yr.out.col
      have fr := Yr.out.frz
      dsimp only at c0 c1 c2 r0 r1 r2
      have Y := (Yr.out.putC ⟨nm, 1, nb⟩).col
      have YB := hid (below_putC B1.out (Nat.le_succ w.heap.size) ⟨nm, 1, nb⟩)
      have YO := hid (own_putC O1.out HOB.out ⟨nm, 1, nb⟩)
      unfold putC at Y YB YO
      dsimp only at Y YB YO
      rcases hend with rfl | rfl
      all_goals
        first
          | (have hd : decide ((l.length : Int) < (l.length : Int)) = false := by simp
             go_wp2_with fail)
          | (by_cases hlt2 : 1048576 < l.length
             · have hd : ((1048576 : Nat) : Int) < (l.length : Int) := by omega
               go_wp2_with fail
             · obtain hq : l.length = 1048576 := by omega
               have hd : ((l.length : Nat) : Int) = 1048576 := by omega
               go_wp2_with fail)
      all_goals clear c0 c1 c2 r0 r1 r2 fr
      all_goals generalize World.setCell _ _ _ = w9 at *
      all_goals obtain ⟨r0, r1, r2⟩ := Y
      all_goals refine bodyPost_ret (v := .tuple #[.agg #[.string nm, .int .i64 1, .bool nb], _]) ?_ rfl ⟨_, rfl, YO.out.low (by omega), YB.out⟩
      all_goals simp only [results, HRES.out]
      all_goals go_simp

set_option maxRecDepth 20000 in
set_option maxHeartbeats 8000000 in
theorem sound_two (c : Col) (a2 : Option Addr) (l : List V) (c2 : Nat) (w : World) (h1 : ¬ c.T = 1) (hv : ∀ v ∈ l, VOk v) (hL : Lst vc 4 w a2 l) :
    Calls Tryz.prog 6 #[cv c, .slice a2 l.length c2] w fun e w' => ∃ v', e = .returned (.tuple #[cv (colS c), v']) ∧ OwnL vc 4 w' w.heap.size 27 v' (sndL c l) ∧ Below w.heap.size w w' := by
  have hcs : colS c = ⟨c.nm, 2, c.nb⟩ := by unfold colS; rw [if_neg h1]
  have HS : Hid (∀ i, i = l.length ∨ i = 1048576 → i ≤ 1048576 → i ≤ l.length → sndL c l = (l.take i).map (fixV (colS c))) := fun i h2 h3 h4 => by
    unfold sndL
    rcases h2 with rfl | rfl
    · rw [List.take_of_length_le h3, List.take_length]
    · rfl
  rw [hcs] at HS ⊢
  have HFx : Hid (∀ v, fixV ⟨c.nm, 2, c.nb⟩ v = if fitB ⟨c.nm, 2, c.nb⟩ v = true then v else vT (cutT v.s)) := fun v => by unfold fixV; rw [if_neg (show ¬ (⟨c.nm, 2, c.nb⟩ : Col).T = 1 from by show ¬ (2 : Int) = 1; omega)]
  have HF : Hid (∀ v w, VOk v → Calls Tryz.prog 20 #[cv ⟨c.nm, 2, c.nb⟩, vv v] w fun e w' => e = .returned (.bool (fitB ⟨c.nm, 2, c.nb⟩ v)) ∧ Below w.heap.size w w') := fun v w h => refFits_any c.nm 2 c.nb v.K v.I v.b v.s w h.b
  have HM : Hid (∀ i v, l[i]? = some v → (l.take (i + 1)).map (fixV ⟨c.nm, 2, c.nb⟩) = (l.take i).map (fixV ⟨c.nm, 2, c.nb⟩) ++ [fixV ⟨c.nm, 2, c.nb⟩ v]) := fun i v h => map_snoc _ h
  have HV := hid hv
  have HLL := hid hL
  obtain ⟨W, hW⟩ : ∃ W, (w.alloc (.cells (ca ⟨c.nm, 2, c.nb⟩) 23)).alloc (.cells (ca ⟨⟨#[]⟩, 0, false⟩) 23) = W := ⟨_, rfl⟩
  obtain ⟨xc, xr, hB⟩ := two_bx hW
  have hWs : W.heap.size = w.heap.size + 2 := by rw [← hW]; simp
  have hres : Tryz.f6.results = #[.cell 4 23, .tmp 5] := by kernel_rfl
  have HRES := hid hres
  have Xc := hid xc
  have Xr := hid xr
  have B := hid hB
  have HW := hid hW
  clear hres hv hL hcs xc xr hB hW
  generalize hfv : fixV ⟨c.nm, 2, c.nb⟩ = fx1 at *
  generalize hsl : sndL c l = SL at *
  clear hfv hsl
  obtain ⟨nm, T, nb⟩ := c
  unfold ca at HW
  unfold cv at HF ⊢
  dsimp only at *
  have hT : (T == 1) = false := by simpa using h1
  have hT2 : (T != 1) = true := by simpa using h1
  go_enter Tryz.func6, Tryz.ntmps6
  go_wp2_with fail
  rw [HW.out]
  clear HW
  go_loopw [6, 7] (fun x y wr => ∃ i : Nat, i ≤ l.length ∧ i ≤ 1048576 ∧ y = .int .i64 i ∧ Hid (OwnL vc 4 wr W.heap.size 27 x ((l.take i).map fx1) ∧ Below W.heap.size W wr)) (fun _ y _ => l.length - (intOf y).toNat)
  case atStart => exact ⟨0, Nat.zero_le _, Nat.zero_le _, rfl, OwnL.nil _ _ _ _ _, Below.refl _ _⟩
  case round =>
    obtain ⟨i, hi, hi2, rfl, HS1⟩ := hrel
    rename World => wr
    by_cases hlt : i < l.length ∧ i < 1048576
    · have hii : (i : Int) < (l.length : Int) := by omega
      have hi3 : (i : Int) < 1048576 := by omega
      have hlen : ((l.take i).map fx1).length = i := by rw [List.length_map, List.length_take]; omega
      have Bw := hid (below_up B.out HS1.out.2)
      obtain ⟨gv, ov, rfl, hgv, k0, k1, k2, k3⟩ := (HLL.out.later Bw.out).cell4 hlt.1
      have hli := List.getElem?_eq_getElem hlt.1
      have HVi := hid (HV.out l[i] (List.getElem_mem hlt.1))
      have HMi := hid (HM.out i _ hli)
      have HFi := hid (HFx.out l[i])
      clear hli
      generalize l[i] = v at *
      have HFv := hid fun w => HF.out v w HVi.out
      generalize hML : (l.take i).map fx1 = ML at *
      clear hML
      generalize fitB _ v = q at *
      obtain ⟨K, I, b, s⟩ := v
      unfold vv at HFv
      dsimp only at *
      have b1 := below_new wr (.cells #[.int .i64 K, .int .i64 I, .float .f64 b, .string s] 27)
      have hxv : Bx (wr.alloc (.cells #[.int .i64 K, .int .i64 I, .float .f64 b, .string s] 27)) wr.heap.size (va ⟨K, I, b, s⟩) 27 := Bx.new wr _ _
      have Xv := hid hxv
      have Yc := hid ((Xc.out.later HS1.out.2).later b1)
      have O1 := hid (HS1.out.1.later b1)
      have HOB := hid fun g hg => (OwnL.lt HS1.out.1 g hg).2
      have hWr := HS1.out.2.size
      have B1 := hid (below_up HS1.out.2 b1)
      clear b1 hxv HS1
      obtain ⟨c0, c1, c2⟩ := Yc.out.col
      dsimp only at c0 c1 c2
      go_wp2_with fail
      refine (HFv.out _).mono ?_
      rintro e w2 ⟨rfl, hb⟩
      replace Xv := hid (Xv.out.later hb)
      replace Yc := hid (Yc.out.later hb)
      replace O1 := hid (O1.out.later hb)
      replace B1 := hid (below_up B1.out hb)
      clear hb k0 k1 k2 k3 c0 c1 c2 HFv
      obtain ⟨c0, c1, c2⟩ := Yc.out.col
      obtain ⟨v0, v1, v2, v3⟩ := Xv.out.val
      dsimp only at c0 c1 c2 v0 v1 v2 v3
      have hBs := B1.out.size
      cases q
      · rw [if_neg (by simp)] at HFi
        have fv := Xv.out.frz
        have hcu : cutT s = (s.extract 0 (min (s.size : Int) 65535).toNat) := by unfold cutT; congr 1; omega
        rw [hcu] at HFi
        have hBs2 : W.heap.size ≤ (putV w2 wr.heap.size (vT (s.extract 0 (min (s.size : Int) 65535).toNat))).heap.size := by rw [putV_size]; exact hBs
        obtain ⟨g2, d2, w3, hr2, o2, b2, _⟩ := lst_one vc_len (by decide) vc_one (t := 24) (ty := 24) (by0 := 40) Tryz.underlying24 infoV rfl (own_putV O1.out (fun b hb => Nat.ne_of_lt (HOB.out b hb)) (vT (s.extract 0 (min (s.size : Int) 65535).toNat))) (by omega) (by decide) hBs2 (vT (s.extract 0 (min (s.size : Int) 65535).toNat)) #[.int .i64 2, .int .i64 0, .float .f64 0, .string (s.extract 0 (min (s.size : Int) 65535).toNat)] rfl
        rw [hlen] at hr2 o2
        rw [putV_size] at hr2
        have B2 := hid ((below_put B1.out hWr (vT (s.extract 0 (min (s.size : Int) 65535).toNat))).trans b2)
        have O2 := hid o2
        have Z := (Xv.out.put (vT (s.extract 0 (min (s.size : Int) 65535).toNat))).val
        unfold putV vT at hr2 Z
        dsimp only at hr2 Z
        obtain ⟨z0, z1, z2, z3⟩ := Z
        have R2 := hid hr2
        clear hr2 o2 b2 hcu
        go_wp2_with (at_builtin; refine wpList_app (by rfl) (by rfl) R2.out ?_; clear R2)
        refine ⟨⟨i + 1, by omega, by omega, by go_num, ?_, B2.out⟩, by simp [intOf]; omega⟩
        rw [HMi.out, HFi.out]
        exact O2.out
      · rw [if_pos rfl] at HFi
        obtain ⟨g2, d2, w3, hr2, o2, b2, _⟩ := lst_one vc_len (by decide) vc_one (t := 24) (ty := 24) (by0 := 40) Tryz.underlying24 infoV rfl O1.out (by omega) (by decide) hBs ⟨K, I, b, s⟩ #[.int .i64 K, .int .i64 I, .float .f64 b, .string s] rfl
        rw [hlen] at hr2 o2
        have R2 := hid hr2
        have O2 := hid o2
        have B2 := hid (B1.out.trans b2)
        clear hr2 o2 b2
        go_wp2_with (at_builtin; refine wpList_app (by rfl) (by rfl) R2.out ?_; clear R2)
        refine ⟨⟨i + 1, by omega, by omega, by go_num, ?_, B2.out⟩, by simp [intOf]; omega⟩
        rw [HMi.out, HFi.out]
        exact O2.out
    · have hend : i = l.length ∨ i = 1048576 := by omega
      have HE := hid (HS.out i hend hi2 hi)
      rw [← HE.out] at HS1
      have Yc := hid (Xc.out.later HS1.out.2)
      have Yr := hid (Xr.out.later HS1.out.2)
      have O1 := hid HS1.out.1
      have B1 := hid (below_up B.out HS1.out.2)
      have HOB : Hid (∀ b, _ = some b → b ≠ w.heap.size + 1) := fun g hg => by have := (OwnL.lt HS1.out.1 g hg).1; omega
      clear HS1 HS HM HE
      obtain ⟨c0, c1, c2⟩ := Yc.out.col
      obtain ⟨r0, r1, r2⟩ := Yr.out.col
      have fr := Yr.out.frz
      dsimp only at c0 c1 c2 r0 r1 r2
      have Y := (Yr.out.putC ⟨nm, 2, nb⟩).col
      have YB := hid (below_putC B1.out (Nat.le_succ w.heap.size) ⟨nm, 2, nb⟩)
      have YO := hid (own_putC O1.out HOB.out ⟨nm, 2, nb⟩)
      unfold putC at Y YB YO
      dsimp only at Y YB YO
      rcases hend with rfl | rfl
      all_goals
        first
          | (have hd : decide ((l.length : Int) < (l.length : Int)) = false := by simp
             go_wp2_with fail)
          | (by_cases hlt2 : 1048576 < l.length
             · have hd : ((1048576 : Nat) : Int) < (l.length : Int) := by omega
               go_wp2_with fail
             · obtain hq : l.length = 1048576 := by omega
               have hd : ((l.length : Nat) : Int) = 1048576 := by omega
               go_wp2_with fail)
      all_goals clear c0 c1 c2 r0 r1 r2 fr
      all_goals generalize World.setCell _ _ _ = w9 at *
      all_goals obtain ⟨r0, r1, r2⟩ := Y
      all_goals refine bodyPost_ret (v := .tuple #[.agg #[.string nm, .int .i64 2, .bool nb], _]) ?_ rfl ⟨_, rfl, YO.out.low (by omega), YB.out⟩
      all_goals simp only [results, HRES.out]
      all_goals go_simp

theorem soundL_any (c : Col) (a2 : Option Addr) (l : List V) (c2 : Nat) (w : World) (hv : ∀ v ∈ l, VOk v) (hL : Lst vc 4 w a2 l) :
    Calls Tryz.prog 6 #[cv c, .slice a2 l.length c2] w fun e w' => ∃ v', e = .returned (.tuple #[cv (colS c), v']) ∧ OwnL vc 4 w' w.heap.size 27 v' (sndL c l) ∧ Below w.heap.size w w' := by
  by_cases h : c.T = 1
  · exact sound_one c a2 l c2 w h hv hL
  · exact sound_two c a2 l c2 w h hv hL
end Go.Proofs.YtobmehajknmniaaGreat
