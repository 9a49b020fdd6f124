/-
  The document's Build.
-/
import Derived.Test.YthgbneadmnhhlaaRProg
namespace Go.Proofs.Ythgbneadmnhhlaa
open Go.RowKit Crc Cu Vl
attribute [local go_sem] run_store_float

/-- A block of bools. -/
def BoB (w : World) (g n : Nat) (f : Nat → Bool) : Prop := ∃ cur : Array Value, w.heap[g]? = some (.cells cur 4 (0, 0)) ∧ cur.size = n ∧ ∀ j, j < n → cur[j]? = some (.bool (f j))
theorem BoB.lt {w : World} {g n : Nat} {f : Nat → Bool} (h : BoB w g n f) : g < w.heap.size := by
  obtain ⟨cur, h1, _⟩ := h
  exact (Array.getElem?_eq_some_iff.1 h1).1
theorem BoB.cell {w : World} {g n : Nat} {f : Nat → Bool} (h : BoB w g n f) {j : Nat} (hj : j < n) : w.cell? ⟨g, j, none⟩ = some (.bool (f j)) := by
  obtain ⟨cur, h1, _, h3⟩ := h
  simp [World.cell?, h1, h3 j hj]
theorem BoB.frozen {w : World} {g n : Nat} {f : Nat → Bool} (h : BoB w g n f) (j : Nat) : w.frozen? ⟨g, j, none⟩ = false := by
  obtain ⟨cur, h1, _⟩ := h
  simp [World.frozen?, h1]
theorem BoB.kept {w w' : World} {g n : Nat} {f : Nat → Bool} (h : BoB w g n f) (hk : w'.heap[g]? = w.heap[g]?) : BoB w' g n f := by
  obtain ⟨cur, h1, h2⟩ := h
  exact ⟨cur, hk.trans h1, h2⟩
theorem BoB.later {w w' : World} {g n : Nat} {f : Nat → Bool} (h : BoB w g n f) (hb : Below w.heap.size w w') : BoB w' g n f := h.kept (hb.block g h.lt)
theorem BoB.ext {w : World} {g n : Nat} {f f' : Nat → Bool} (h : BoB w g n f) (he : ∀ j, j < n → f j = f' j) : BoB w g n f' := by
  obtain ⟨cur, h1, h2, h3⟩ := h
  exact ⟨cur, h1, h2, fun j hj => by rw [h3 j hj, he j hj]⟩
theorem BoB.set {w : World} {g n : Nat} {f : Nat → Bool} (h : BoB w g n f) (i : Nat) : BoB (w.setCell ⟨g, i, none⟩ (.bool true)) g n (fun j => f j || decide (i = j)) := by
  obtain ⟨cur, h1, h2, h3⟩ := h
  refine ⟨cur.setIfInBounds i (.bool true), ?_, by simpa using h2, fun j hj => ?_⟩
  · simp only [World.setCell, Array.getElem?_modify]
    simp [h1]
  · rw [Array.getElem?_setIfInBounds]
    by_cases hji : i = j
    · subst hji
      simp; omega
    · simp [hji, h3 j hj]
theorem BoB.made (w : World) (n : Nat) : BoB (w.alloc (.cells (madeCells #[.bool false] n) 4)) w.heap.size n (fun _ => false) :=
  ⟨madeCells #[.bool false] n, heap_alloc_new w _, by simp [madeCells], fun j hj => by simp [madeCells, Nat.mod_one, hj]⟩
theorem BoB.not_int {w : World} {g n x : Nat} {f : Nat → Bool} {k : IntKind} {y : Int} (h : BoB w g n f) (hc : w.cell? ⟨g, x, none⟩ = some (.int k y)) : False := by
  obtain ⟨cur, h1, h2, h3⟩ := h
  simp only [World.cell?, h1] at hc
  by_cases hx : x < n
  · simp [h3 x hx] at hc
  · simp [Array.getElem?_eq_none (xs := cur) (i := x) (by omega)] at hc
theorem nums_off {w : World} {g n : Nat} {f : Nat → Bool} {a : Option Addr} {L : Nat → Nat} (h : BoB w g n f) (hN : Nums w .i64 a 4 L) : ∀ x, a = some x → x.block ≠ g := fun x hx e => by
  obtain ⟨gp, op, ea, _, hc⟩ := hN 0 (by omega)
  subst hx
  cases ea
  simp only at e
  subst e
  exact h.not_int hc
theorem nums_kept {w w' : World} {k : IntKind} {a : Option Addr} {n : Nat} {L : Nat → Nat} (h : Nums w k a n L) (hs : w.heap.size ≤ w'.heap.size) (hk : ∀ x, a = some x → w'.heap[x.block]? = w.heap[x.block]?) : Nums w' k a n L := fun j hj => by
  obtain ⟨g, o, e, hg, hc⟩ := h j hj
  exact ⟨g, o, e, by omega, (World.cell?_of_block (w := w) (a := ⟨g, o + j, none⟩) (hk ⟨g, o, none⟩ e)).trans hc⟩
theorem infoBool : (Try.prog.info? 4).map (fun i => (i.zero, i.size, i.bytes)) = some (some (.bool false), 1, 1) := by kernel_rfl
theorem u8_add_bit (x m : Nat) (hx : x + 2 ^ m < 256) : ((x : Int) + 2 ^ m % 256) % 256 = ((x + 2 ^ m : Nat) : Int) := by
  have h2 : (2 : Int) ^ m = ((2 ^ m : Nat) : Int) := by simp
  rw [h2]
  generalize 2 ^ m = P at *
  omega
set_option maxHeartbeats 8000000 in
theorem refBuild_any (z : Int) (a2 : Option Addr) (l : List V) (c2 : Nat) (w : World) (hz : In64 z) (hv : ∀ v ∈ l, VOk v) (hL : Lst vc 4 w a2 l) (hl2 : l.length ≤ 140737488355328) :
    Calls Try.prog 10 #[.int .i64 z, .slice a2 l.length c2] w fun e w' => ∃ v', e = .returned (.tuple #[v', .int .i64 (buildE z l)]) ∧ NewL w w' v' (buildR z l) := by
  have HS := fun w => refSize_any z w
  by_cases hsz : isSz z = true
  · have hle : 8 ≤ z ∧ z ≤ 65536 := by simp [isSz] at hsz; omega
    obtain ⟨n, rfl⟩ : ∃ n : Nat, z = (n : Int) := ⟨z.toNat, by omega⟩
    have HE0 : Hid (l.all forB = true → buildE (n : Int) l = 0 ∧ buildR (n : Int) l = filt n l) := fun h => by
      unfold buildE buildR
      rw [if_pos hsz, if_pos h, if_pos ⟨hsz, h⟩]
      exact ⟨rfl, by simp⟩
    have HE1 : Hid (∀ (i : Nat) v, l[i]? = some v → forB v = false → buildE (n : Int) l = 50 ∧ buildR (n : Int) l = []) := fun i v hi hf => by
      have h : ¬ l.all forB = true := by
        rw [List.all_eq_true]
        intro h
        have := h v (List.mem_of_getElem? hi)
        rw [hf] at this; simp at this
      unfold buildE buildR
      rw [if_pos hsz, if_neg h, if_neg (fun x => h x.2)]
      exact ⟨rfl, rfl⟩
    have HV := hid hv
    have HL := hid hL
    have HSZ := hid hsz
    rw [hsz] at HS
    generalize buildE (n : Int) l = E at *
    generalize buildR (n : Int) l = R at *
    clear hv hL hsz hz
    go_enter Try.func10, Try.ntmps10
    go_wp2_with fail
    refine (HS _).mono ?_
    rintro e w1 ⟨rfl, rfl⟩
    go_wp2_with fail
    clear HS
    go_loopw [6] (fun ix wr => ∃ i : Nat, i ≤ l.length ∧ ix = .int .i64 i ∧ Hid ((l.take i).all forB = true) ∧ Hid (Below w1.heap.size w1 wr)) (fun ix _ => l.length - (intOf ix).toNat)
    case atStart => exact ⟨0, Nat.zero_le _, rfl, by show (List.take 0 l).all forB = true; simp, Below.refl _ _⟩
    case round =>
      obtain ⟨i, hi, rfl, HE, HBl⟩ := hrel
      rename World => wr
      by_cases hlt : i < l.length
      · have hii : (i : Int) < (l.length : Int) := by omega
        obtain ⟨gv, o, rfl, hgv, k0, k1, k2, k3⟩ := (HL.out.later HBl.out).cell4 hlt
        have hli : l[i]? = some l[i] := List.getElem?_eq_getElem hlt
        have HVi := hid (HV.out l[i] (List.getElem_mem hlt))
        have HLI := hid hli
        have HTK : Hid (l.take (i + 1) = l.take i ++ [l[i]]) := by show _ = _; rw [List.take_add_one, hli]; rfl
        clear hli
        generalize l[i] = v at *
        have HF := hid fun w => refFor_any v w HVi.out
        have HE1i := hid (HE1.out i v HLI.out)
        cases hf : forB v
        · rw [hf] at HF HE1i
          obtain ⟨K, I, b, s⟩ := v
          unfold vv at *
          dsimp only at *
          go_wp2_with fail
          refine (HF.out _).mono ?_
          rintro e w2 ⟨rfl, hw2⟩
          have b2 := hid (below_up HBl.out hw2)
          clear hw2 HF
          go_wp2_with fail
          go_ret2
          obtain ⟨e1, e2⟩ := HE1i.out trivial
          rw [e1, e2]
          exact ⟨_, rfl, Own.nil _ _ _ _ _, b2.out⟩
        · rw [hf] at HF
          have HE2 : Hid ((l.take (i + 1)).all forB = true) := by
            show (l.take (i + 1)).all forB = true
            rw [HTK.out, List.all_append, HE.out]
            simp [hf]
          clear HTK HE HE1i hf HLI HVi
          obtain ⟨K, I, b, s⟩ := v
          unfold vv at *
          dsimp only at *
          go_wp2_with fail
          refine (HF.out _).mono ?_
          rintro e w2 ⟨rfl, hw2⟩
          have b2 := hid (below_up HBl.out hw2)
          clear hw2 HF HBl k0 k1 k2 k3
          go_wp2_with fail
          exact ⟨⟨i + 1, by omega, by go_num, HE2, b2⟩, by simp [intOf]; omega⟩
      · obtain rfl : i = l.length := by omega
        rw [List.take_length] at HE
        obtain ⟨e1, e2⟩ := HE0.out HE.out
        have HEE := hid e1
        have HRR := hid e2
        obtain ⟨i0, hi0, hz0, hz1, hz2⟩ := info_parts infoBool
        have hmk := fun wx => run_make (P := Try.prog) wx 51 4 i0 (.bool false) Try.underlying51 hi0 hz0 .i64 .i64 (8 * (n : Int)) (8 * (n : Int)) (by omega) (by omega) (by rw [hz2]; omega) (by omega)
        rw [show (8 * (n : Int)).toNat = 8 * n by omega] at hmk
        simp only [hz1, Nat.mul_one] at hmk
        obtain ⟨i2, hi2, hy0, hy1, hy2⟩ := info_parts infoU8
        have hmk2 := fun wx => run_make (P := Try.prog) wx 24 5 i2 (.int .u8 0) Try.underlying24 hi2 hy0 .i64 .i64 (n : Int) (n : Int) (by omega) (by omega) (by rw [hy2]; omega) (by omega)
        simp only [hy1, Int.toNat_natCast, Nat.mul_one] at hmk2
        have HB0 := hid (BoB.made wr (8 * n))
        have HL0 := hid (below_up HBl.out (below_new wr (.cells (madeCells #[.bool false] (8 * n)) 4)))
        have HW0 := hid HBl.out.size
        have HAll := HE
        clear e1 e2 hi0 hz0 hz1 hz2 hi2 hy0 hy1 hy2 HE HBl HE0 HE1
        go_wp2_with fail
        generalize World.alloc _ _ = w2 at *
        generalize hG : wr.heap.size = g at *
        clear hG hmk
        go_loopw [8] (fun ix wx => ∃ i : Nat, i ≤ l.length ∧ ix = .int .i64 i ∧ Hid (BoB wx g (8 * n) (setF n (l.take i))) ∧ Hid (Below w1.heap.size w1 wx)) (fun ix _ => l.length - (intOf ix).toNat)
        case atStart => exact ⟨0, Nat.zero_le _, rfl, HB0.out.ext fun j _ => by simp [setF], HL0⟩
        case round =>
          clear HB0 HL0
          obtain ⟨i, hi, rfl, HK, HBl⟩ := hrel
          rename World => wx
          by_cases hlt : i < l.length
          · have hii : (i : Int) < (l.length : Int) := by omega
            obtain ⟨gv, o, rfl, hgv, k0, k1, k2, k3⟩ := (HL.out.later HBl.out).cell4 hlt
            have hli : l[i]? = some l[i] := List.getElem?_eq_getElem hlt
            have HTK : Hid (∀ j, setF n (l.take (i + 1)) j = (setF n (l.take i) j || hasK n l[i] 4 j)) := fun j => by
              rw [List.take_add_one, hli]; exact setF_snoc _ _ _ _
            have hf := List.all_eq_true.1 HAll.out l[i] (List.getElem_mem hlt)
            have HPl := hid fun w => refPlaces13_any n l[i] w hf HSZ.out
            have HPL := hid fun q => pl_lt l[i] q (show 0 < n by omega)
            have HKs : Hid (∀ q j, hasK n l[i] (q + 1) j = (hasK n l[i] q j || decide (pl n l[i] q = j))) := fun _ _ => rfl
            have HK1 := hid (HK.out.ext (f' := fun j => setF n (l.take i) j || hasK n l[i] 0 j) fun j _ => by simp [hasK])
            clear hli hf HK
            generalize l[i] = v at *
            generalize pl n v = pv at *
            generalize hasK n v = hk at *
            generalize setF n (l.take i) = sf at *
            obtain ⟨K, I, b, s⟩ := v
            unfold vv at *
            dsimp only at *
            go_wp2_with fail
            refine (HPl.out _).mono ?_
            rintro e w3 ⟨ap, cp, rfl, hg, hb3⟩
            have b3 := hid (below_up HBl.out hb3)
            have K3 := hid (HK1.out.later hb3)
            have P3 := hid hg
            have hne := hid (nums_off K3.out P3.out)
            have HGl : Hid (w1.heap.size ≤ g) := HW0
            clear hg hb3 HPl HK1 HBl k0 k1 k2 k3
            go_wp2_with fail
            go_loopw [10] (fun jx wy => ∃ q : Nat, q ≤ 4 ∧ jx = .int .i64 q ∧ Hid (BoB wy g (8 * n) (fun j => sf j || hk q j)) ∧ Hid (Nums wy .i64 ap 4 pv) ∧ Hid (Below w1.heap.size w1 wy)) (fun jx _ => 4 - (intOf jx).toNat)
            case atStart => exact ⟨0, by omega, rfl, K3, P3, b3⟩
            case round =>
              clear K3 P3 b3
              obtain ⟨q, hq, rfl, K3, P3, b3⟩ := hrel
              rename World => wy
              by_cases hlt4 : q < 4
              · have hqq : (q : Int) < 4 := by omega
                obtain ⟨gp, op, rfl, _, hcp⟩ := P3.out q hlt4
                have hpl := HPL.out q
                have HMk := hid (HKs.out q)
                generalize pv q = p at *
                have hpi : (p : Int) < 8 * (n : Int) := by omega
                have hcb := K3.out.cell hpl
                have hfb := K3.out.frozen p
                have hgp := hne.out _ rfl
                go_wp2_with fail
                refine ⟨⟨q + 1, by omega, by go_num, (K3.out.set p).ext fun j _ => by rw [HMk.out, Bool.or_assoc], ?_, b3.out.setCell (p := ⟨g, p, none⟩) HGl.out _⟩, by simp [intOf]; omega⟩
                exact nums_kept P3.out (by simp) (fun x hx => Below.heap_setCell _ _ _ _ (hne.out x hx))
              · obtain rfl : q = 4 := by omega
                go_wp2_with fail
                exact ⟨⟨i + 1, by omega, by go_num, K3.out.ext fun j _ => (HTK.out j).symm, b3⟩, by simp [intOf]; omega⟩
          · obtain rfl : i = l.length := by omega
            rw [List.take_length] at HK
            have HB9 := hid (Blk.made wx 5 .u8 n)
            have HK9 := hid (HK.out.later (below_new wx (.cells (madeCells #[.int .u8 0] n) 5)))
            have HL9 := hid (below_up HBl.out (below_new wx (.cells (madeCells #[.int .u8 0] n) 5)))
            have HW9 := hid HBl.out.size
            have hgg := HK.out.lt
            have HFl : Hid (∀ j, j < n → byF (setF n l) j = ofL (filt n l) j) := fun j hj => (filt_at l hj).symm
            have HAd := hid (byF_add (setF n l))
            have HLt := hid fun j q => byF_lt (upto (setF n l) j) q
            have HLt2 := hid fun j => byF_lt (setF n l) j
            have HUp : Hid (∀ q, q < n → byF (upto (setF n l) (8 * n)) q = byF (setF n l) q) := fun q hq => byF_ext fun r hr => by
              unfold upto
              have : 8 * q + r < 8 * n := by omega
              simp [this]
            have HU0 : Hid (∀ q, byF (upto (setF n l) 0) q = 0) := fun q => (byF_ext (g := fun _ => false) fun r _ => by simp [upto]).trans (byF_zero q)
            have HLen := hid (filt_len n l)
            clear HK HBl
            generalize setF n l = sf at *
            generalize filt n l = FR at *
            go_wp2_with fail
            generalize World.alloc _ _ = w5 at *
            generalize hG2 : wx.heap.size = g2 at *
            clear hG2 hmk2
            go_loopw [12] (fun jx wy => ∃ j : Nat, j ≤ 8 * n ∧ jx = .int .i64 j ∧ Hid (Blk wy g2 5 .u8 n n (byF (upto sf j))) ∧ Hid (BoB wy g (8 * n) sf) ∧ Hid (Below w1.heap.size w1 wy)) (fun jx _ => 8 * n - (intOf jx).toNat)
            case atStart => exact ⟨0, Nat.zero_le _, rfl, HB9.out.ext fun j _ => (HU0.out j).symm, HK9, HL9⟩
            case round =>
              clear HB9 HK9 HL9
              obtain ⟨j, hj, rfl, HB9, HK9, HL9⟩ := hrel
              rename World => wy
              by_cases hjl : j < 8 * n
              · have hji : (j : Int) < 8 * (n : Int) := by omega
                have hcb := HK9.out.cell hjl
                have HAj := hid (HAd.out j)
                cases hs : sf j
                · rw [hs] at hcb
                  have HE9 := hid (HB9.out.ext (M := byF (upto sf (j + 1))) fun q _ => by rw [HAj.out, if_neg (by rw [hs]; simp)])
                  clear hs HB9
                  go_wp2_with fail
                  exact ⟨⟨j + 1, by omega, by go_num, HE9, HK9, HL9⟩, by simp [intOf]; omega⟩
                · rw [hs] at hcb
                  obtain ⟨q, hqe⟩ : ∃ q, j / 8 = q := ⟨_, rfl⟩
                  obtain ⟨m, hme⟩ : ∃ m, j % 8 = m := ⟨_, rfl⟩
                  have hq : (j : Int) / 8 = (q : Int) := by omega
                  have hm : (j : Int) % 8 = (m : Int) := by omega
                  have hml : m < 8 := by omega
                  have hd : q < n := by omega
                  have hdi : (q : Int) < (n : Int) := by omega
                  have hc2 := HB9.out.cell hd
                  have hf2 := HB9.out.frozen q
                  have HAq : Hid (∀ r, byF (upto sf (j + 1)) r = if r = q then byF (upto sf j) r + 2 ^ m else byF (upto sf j) r) := fun r => by
                    rw [HAj.out r, hs, hqe, hme]
                    simp
                  have hx := HLt.out (j + 1) q
                  rw [HAq.out q, if_pos rfl] at hx
                  generalize hxx : byF (upto sf j) q = x at *
                  have had := u8_add_bit x m hx
                  clear hqe hme hs HAj
                  have HXX := hid hxx
                  clear hxx
                  go_wp2_with fail
                  have hst := (HB9.out.store q (x + 2 ^ m)).ext (M := byF (upto sf (j + 1))) fun r _ => by
                    unfold upd
                    rw [HAq.out r]
                    by_cases e : r = q
                    · subst e; rw [if_pos rfl, if_pos rfl, HXX.out]
                    · rw [if_neg e, if_neg e]
                  rw [show ((x + 2 ^ m : Nat) : Int) = (x : Int) + 2 ^ m by simp] at hst
                  exact ⟨⟨j + 1, by omega, by go_num, hst, HK9.out.kept (Below.heap_setCell _ _ _ _ (by simp; omega)), HL9.out.setCell (p := ⟨g2, q, none⟩) HW9.out _⟩, by simp [intOf]; omega⟩
              · obtain rfl : j = 8 * n := by omega
                have HR : Hid (NewL w1 wy (.slice (some ⟨g2, 0, none⟩) n n) R) := by
                  rw [HRR.out]
                  refine ⟨?_, HL9.out⟩
                  rw [HLen.out]
                  exact (HB9.out.ext fun j hj => (HUp.out j hj).trans (HFl.out j hj)).own HW9.out (Nat.le_refl _) (by simp [maxLen]; omega)
                rw [show ((8 * n : Nat) : Int) = 8 * (n : Int) by simp]
                go_wp2_with fail
                go_ret2
                rw [HEE.out]
                exact ⟨_, rfl, HR.out⟩
  · have hsf : isSz z = false := by simpa using hsz
    have he : buildE z l = 130 ∧ buildR z l = [] := by
      unfold buildE buildR
      rw [if_neg hsz, if_neg (fun x => hsz x.1)]
      exact ⟨rfl, rfl⟩
    rw [he.1, he.2]
    rw [hsf] at HS
    clear he hsf hsz hv hL
    go_enter Try.func10, Try.ntmps10
    go_wp2_with fail
    refine (HS _).mono ?_
    rintro e w1 ⟨rfl, rfl⟩
    go_wp2_with fail
    go_ret2
    exact ⟨_, rfl, Own.nil _ _ _ _ _, Below.refl _ _⟩
end Go.Proofs.Ythgbneadmnhhlaa
