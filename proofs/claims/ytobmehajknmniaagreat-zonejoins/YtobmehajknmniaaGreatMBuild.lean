/-
  The program's Build.
-/
import Derived.Test.YtobmehajknmniaaGreatMHas
namespace Go.Proofs.YtobmehajknmniaaGreat
open Go.RowKit Crc Cu Vl
attribute [local go_sem] run_store_float

theorem u8_or_bit (x m : Nat) (hx : x < 256) (hm : m < 8) : bits .or .u8 (x : Int) (2 ^ m % 256) = (((x ||| 2 ^ m : Nat)) : Int) := by
  have h1 : 2 ^ m ≤ 2 ^ 7 := Nat.pow_le_pow_right (by omega) (by omega)
  have h2 : (2 : Int) ^ m = ((2 ^ m : Nat) : Int) := by simp
  rw [h2]
  generalize 2 ^ m = P at *
  rw [show (P : Int) % 256 = (P : Int) by omega]
  exact u8_or_nat x P hx (by omega)
/-- The bits while a value's places are set. -/
def midF (n : Nat) (l : List V) (v : V) (k : Nat) : Nat → Bool := fun m => setF n l m || hasK n v k m
theorem midF_step (n : Nat) (l : List V) (v : V) (k j : Nat) : byF (midF n l v (k + 1)) j = if j = pl n v k / 8 then byF (midF n l v k) j ||| 2 ^ (pl n v k % 8) else byF (midF n l v k) j := by
  rw [← byF_or]
  apply byF_ext
  intro i _
  simp [midF, hasK, Bool.or_assoc]
set_option maxHeartbeats 4000000 in
theorem build_any (z : Int) (a2 : Option Addr) (l : List V) (c2 : Nat) (w : World) (hz : In64 z) (hv : ∀ v ∈ l, VOk v) (hL : Lst vc 4 w a2 l) (hl2 : l.length ≤ 140737488355328) :
    Calls Tryz.prog 45 #[.int .i64 z, .slice a2 l.length c2] w fun e w' => ∃ v', e = .returned (.tuple #[v', .int .i64 (buildE z l)]) ∧ NewL w w' v' (buildR z l) := by
  have HS := fun w => isSize_any z w hz
  by_cases hsz : isSz z = true
  · have hle : 8 ≤ z ∧ z ≤ 65536 := by simp [isSz] at hsz; omega
    obtain ⟨n, rfl⟩ : ∃ n : Nat, z = (n : Int) := ⟨z.toNat, by omega⟩
    have HNil : Hid (∀ w w', Below w.heap.size w w' → NewL w w' (.slice none 0 0) []) := fun w w' h => ⟨Own.nil _ _ _ _ _, h⟩
    have HE0 : Hid (l.all forB = true → buildE (n : Int) l = 0 ∧ buildR (n : Int) l = filt n l) := fun h => by
      unfold buildE buildR
      rw [if_pos hsz, if_pos h, if_pos ⟨hsz, h⟩]
      exact ⟨rfl, by simp⟩
    have HE1 : Hid (∀ (i : Nat) v, l[i]? = some v → forB v = false → buildE (n : Int) l = 50 ∧ buildR (n : Int) l = []) := fun i v hi hf => by
      have h : ¬ l.all forB = true := by
        rw [List.all_eq_true]
        intro h
        have := h v (List.mem_of_getElem? hi)
        rw [hf] at this; simp at this
      unfold buildE buildR
      rw [if_pos hsz, if_neg h, if_neg (fun x => h x.2)]
      exact ⟨rfl, rfl⟩
    have HV := hid hv
    have HL := hid hL
    have HSZ := hid hsz
    rw [hsz] at HS
    generalize buildE (n : Int) l = E at *
    generalize buildR (n : Int) l = R at *
    obtain ⟨i0, hi, hz0, hz1, hz2⟩ := info_parts infoU8
    have hmk := fun wx => run_make (P := Tryz.prog) wx 28 5 i0 (.int .u8 0) Tryz.underlying28 hi hz0 .i64 .i64 (n : Int) (n : Int) (by omega) (by omega) (by rw [hz2]; omega) (by omega)
    simp only [hz1, Int.toNat_natCast, Nat.mul_one] at hmk
    have HB0 := hid (Blk.made w 5 .u8 n)
    have HL0 := hid (below_new w (.cells (madeCells #[.int .u8 0] n) 5))
    clear hv hL hsz hz hi hz0 hz1 hz2
    go_enter Tryz.func45, Tryz.ntmps45
    go_wp2_with fail
    refine (HS _).mono ?_
    rintro e w1 ⟨rfl, rfl⟩
    go_wp2_with fail
    generalize World.alloc _ _ = w2 at *
    generalize hG : w1.heap.size = g at *
    have HG := hid hG
    clear hG hmk HS
    go_loopw [18] (fun ix wr => ∃ i : Nat, i ≤ l.length ∧ ix = .int .i64 i ∧ Hid ((l.take i).all forB = true) ∧ Hid (Blk wr g 5 .u8 n n (byF (setF n (l.take i)))) ∧ Hid (Below g w1 wr)) (fun ix _ => l.length - (intOf ix).toNat)
    case atStart => exact ⟨0, Nat.zero_le _, rfl, by show (List.take 0 l).all forB = true; simp, HB0.out.ext fun j _ => by simp [setF, byF], HL0⟩
    case round =>
      clear HB0 HL0
      obtain ⟨i, hi, rfl, HE, HK, HBl⟩ := hrel
      rename World => wr
      by_cases hlt : i < l.length
      · have hii : (i : Int) < (l.length : Int) := by omega
        obtain ⟨gv, o, rfl, hgv, k0, k1, k2, k3⟩ := (HL.out.later (by rw [HG.out]; exact HBl.out)).cell4 hlt
        have hli : l[i]? = some l[i] := List.getElem?_eq_getElem hlt
        have HVi := hid (HV.out l[i] (List.getElem_mem hlt))
        have HLI := hid hli
        have HTK : Hid (l.take (i + 1) = l.take i ++ [l[i]]) := by show _ = _; rw [List.take_add_one, hli]; rfl
        clear hli
        generalize l[i] = v at *
        have HF := hid fun w => isFor_any v w HVi.out
        have HPl := hid fun w h => places_any n v w h HSZ.out
        have HE1i := hid (HE1.out i v HLI.out)
        have HGlt := HK.out.lt
        cases hf : forB v
        · rw [hf] at HF HE1i
          obtain ⟨K, I, b, s⟩ := v
          unfold vv at *
          dsimp only at *
          go_wp2_with fail
          refine (HF.out _).mono ?_
          rintro e w2 ⟨rfl, hw2⟩
          have b2 := hid (below_up (below_up (show Below w1.heap.size w1 wr by rw [HG.out]; exact HBl.out) (below_new wr _)) hw2)
          clear hw2 HF
          go_wp2_with fail
          go_ret2
          obtain ⟨e1, e2⟩ := HE1i.out trivial
          rw [e1, e2]
          exact ⟨_, rfl, HNil.out _ _ b2.out⟩
        · rw [hf] at HF HPl
          have HPL := hid fun i => pl_lt v i (show 0 < n by omega)
          have HMid := hid (midF_step n (l.take i) v)
          have HM0 : Hid (∀ j, byF (setF n (l.take i)) j = byF (midF n (l.take i) v 0) j) := fun j => byF_ext fun q _ => by simp [midF, hasK]
          have HM4 : Hid (∀ j, byF (midF n (l.take i) v 4) j = byF (setF n (l.take (i + 1))) j) := fun j => byF_ext fun q _ => by rw [HTK.out, setF_snoc]; rfl
          have HE2 : Hid ((l.take (i + 1)).all forB = true) := by
            show (l.take (i + 1)).all forB = true
            rw [HTK.out, List.all_append, HE.out]
            simp [hf]
          have HBy := hid fun k j => byF_lt (midF n (l.take i) v k) j
          have HK0 := hid (HK.out.ext fun j _ => HM0.out j)
          generalize hpv : pl n v = pv at *
          generalize hmf : (fun k => byF (midF n (l.take i) v k)) = mf at *
          have HK1 : Hid (Blk wr g 5 .u8 n n (mf 0)) := by rw [← hmf]; exact HK0.out
          have HM41 : Hid (∀ j, mf 4 j = byF (setF n (l.take (i + 1))) j) := by rw [← hmf]; exact HM4.out
          have HBy1 : Hid (∀ k j, mf k j < 256) := by rw [← hmf]; exact HBy.out
          have HMid1 : Hid (∀ k j, mf (k + 1) j = if j = pv k / 8 then mf k j ||| 2 ^ (pv k % 8) else mf k j) := by rw [← hmf]; exact HMid.out
          clear hpv hmf hf HK HK0 HM0 HM4 HBy HMid HE HTK HVi HLI HE1i HE0 HE1
          obtain ⟨K, I, b, s⟩ := v
          unfold vv at *
          dsimp only at *
          go_wp2_with fail
          refine (HF.out _).mono ?_
          rintro e w2 ⟨rfl, hw2⟩
          have b2 := hid (below_up (below_up (show Below w1.heap.size w1 wr by rw [HG.out]; exact HBl.out) (below_new wr _)) hw2)
          have hbox : w2.heap[wr.heap.size]? = some (.cells #[.int .i64 K, .int .i64 I, .float .f64 b, .string s] 27 (0, 0)) := (hw2.block _ (by simp)).trans (heap_alloc_new wr _)
          have c0 := cell_of hbox (j := 0) rfl
          have c1 := cell_of hbox (j := 1) rfl
          have c2 := cell_of hbox (j := 2) rfl
          have c3 := cell_of hbox (j := 3) rfl
          have K2 := hid (HK1.out.later (below_up (below_new wr _) hw2) HGlt)
          clear hbox hw2 HF HBl HK1
          go_wp2_with fail
          refine (HPl.out _ trivial).mono ?_
          rintro e w3 ⟨gp, rfl, hg, hlt3, hb3⟩
          have b3 := hid (below_up b2.out hb3)
          have K3 := hid (K2.out.later hb3 K2.out.lt)
          have P3 := hid hg
          have hne : Hid (gp ≠ g) := by show gp ≠ g; have := K2.out.lt; omega
          clear hg hlt3 hb3 HPl b2 K2 c0 c1 c2 c3
          go_wp2_with fail
          go_loopw [29] (fun jx wx => ∃ k : Nat, k ≤ 4 ∧ jx = .int .i64 k ∧ Hid (Blk wx g 5 .u8 n n (mf k)) ∧ Hid (Blk wx gp 3 .i64 4 4 pv) ∧ Hid (Below w1.heap.size w1 wx)) (fun jx _ => 4 - (intOf jx).toNat)
          case atStart => exact ⟨0, by omega, rfl, K3, P3, b3⟩
          case round =>
            clear K3 P3 b3
            obtain ⟨k, hk, rfl, K3, P3, b3⟩ := hrel
            rename World => wx
            by_cases hlt4 : k < 4
            · have hkk : (k : Int) < 4 := by omega
              have hcp := P3.out.cell hlt4
              have hpl := HPL.out k
              have HMk := hid (HMid1.out k)
              generalize pv k = p at *
              obtain ⟨q, hqe⟩ : ∃ q, p / 8 = q := ⟨_, rfl⟩
              obtain ⟨m, hme⟩ : ∃ m, p % 8 = m := ⟨_, rfl⟩
              have hq : (p : Int) / 8 = (q : Int) := by omega
              have hm : (p : Int) % 8 = (m : Int) := by omega
              have hml : m < 8 := by omega
              have hd : q < n := by omega
              have hdi : (q : Int) < (n : Int) := by omega
              rw [hqe, hme] at HMk
              clear hqe hme
              have hcb := K3.out.cell hd
              have hfb := K3.out.frozen q
              have hx := HBy1.out k q
              have HMq := hid (HMk.out q)
              generalize mf k q = x at *
              have hor := u8_or_bit x m hx hml
              go_wp2_with fail
              go_region
              go_wp2_with fail
              refine ⟨⟨k + 1, by omega, by go_num, ?_, (P3.out.far (p := ⟨g, q, none⟩) hne.out _).same rfl, (b3.out.setCell (p := ⟨g, q, none⟩) (by rw [HG.out]; exact Nat.le_refl _) _).drew⟩, by simp [intOf]; omega⟩
              refine ((K3.out.store q (x ||| 2 ^ m)).ext fun j _ => ?_).same rfl
              unfold upd
              by_cases hj : j = q
              · subst hj; rw [if_pos rfl, HMq.out, if_pos trivial]
              · rw [if_neg hj, HMk.out, if_neg hj]
            · obtain rfl : k = 4 := by omega
              go_wp2_with fail
              exact ⟨⟨i + 1, by omega, by go_num, HE2, K3.out.ext fun j _ => HM41.out j, by rw [← HG.out]; exact b3⟩, by simp [intOf]; omega⟩
      · obtain rfl : i = l.length := by omega
        rw [List.take_length] at HE HK
        obtain ⟨e1, e2⟩ := HE0.out HE.out
        have HR : Hid (NewL w1 wr (.slice (some ⟨g, 0, none⟩) n n) R) := by
          rw [e2]
          refine ⟨?_, by rw [HG.out]; exact HBl.out⟩
          rw [filt_len, HG.out]
          exact (HK.out.ext fun j hj => (filt_at l hj).symm).own (Nat.le_refl _) (Nat.le_refl _) (by simp [maxLen]; omega)
        have HEE := hid e1
        clear e1 e2
        go_wp2_with fail
        go_ret2
        rw [HEE.out]
        exact ⟨_, rfl, HR.out⟩
  · have hsf : isSz z = false := by simpa using hsz
    have he : buildE z l = 130 ∧ buildR z l = [] := by
      unfold buildE buildR
      rw [if_neg hsz, if_neg (fun x => hsz x.1)]
      exact ⟨rfl, rfl⟩
    rw [he.1, he.2]
    rw [hsf] at HS
    clear he hsf hsz hv hL
    go_enter Tryz.func45, Tryz.ntmps45
    go_wp2_with fail
    refine (HS _).mono ?_
    rintro e w1 ⟨rfl, rfl⟩
    go_wp2_with fail
    go_ret2
    exact ⟨_, rfl, Own.nil _ _ _ _ _, Below.refl _ _⟩
end Go.Proofs.YtobmehajknmniaaGreat
