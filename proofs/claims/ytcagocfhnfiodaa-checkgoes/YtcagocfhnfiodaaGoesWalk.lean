/-
  THE WALK OF CheckGoes.
-/
import Derived.Test.YtcagocfhnfiodaaCPlaces
namespace Go.Proofs.Ytcagocfhnfiodaa
open Go.RowKit Crc

/-- The factor has an inverse. -/
theorem fac_inv (x : Nat) (h : x < 18446744073709551616) : x * 1099511628211 % 18446744073709551616 * 14886173955864302971 % 18446744073709551616 = x := by
  rw [Nat.mod_mul_mod, Nat.mul_assoc, show 1099511628211 * 14886173955864302971 = 18446744073709551616 * 887285111055 + 1 by decide, Nat.mul_add, Nat.mul_one, show x * (18446744073709551616 * 887285111055) = 18446744073709551616 * (x * 887285111055) by ac_rfl]
  omega
theorem fac_inj {x y : Nat} (hx : x < 18446744073709551616) (hy : y < 18446744073709551616) (h : x * 1099511628211 % 18446744073709551616 = y * 1099511628211 % 18446744073709551616) : x = y := by
  rw [← fac_inv x hx, ← fac_inv y hy, h]
theorem last_inj {h a b : Nat} (hh : h < 18446744073709551616) (ha : a < 256) (hb : b < 256) : ((((h ^^^ a) * 1099511628211 % 18446744073709551616 : Nat) : Int) == (((h ^^^ b) * 1099511628211 % 18446744073709551616 : Nat) : Int)) = ((a : Int) == (b : Int)) := by
  rw [Bool.eq_iff_iff]
  simp only [beq_iff_eq]
  constructor
  · intro e
    have e1 := fac_inj (Nat.xor_lt_two_pow (n := 64) hh (by omega)) (Nat.xor_lt_two_pow (n := 64) hh (by omega)) (Int.ofNat_inj.1 e)
    have e2 : a = b := by
      have e3 : h ^^^ (h ^^^ a) = h ^^^ (h ^^^ b) := by rw [e1]
      rwa [← Nat.xor_assoc, ← Nat.xor_assoc, Nat.xor_self, Nat.zero_xor, Nat.zero_xor] at e3
    rw [e2]
  · intro e
    rw [Int.ofNat_inj.1 e]
def mulF (z : Nat) : Nat := z * 1099511628211 % 18446744073709551616
theorem hash_snoc {L : Nat → Nat} {n x : Nat} : hashN (upd L n x) (n + 1) = mulF (hashN L n ^^^ x) := by
  rw [mulF, hashN, show upd L n x n = x by simp [upd], hashN_ext (L := upd L n x) (M := L) fun j hj => by unfold upd; rw [if_neg (by omega)]]
/-- The hash of a copy that has grown by a byte. -/
theorem grown_hash {W : World} {B : Nat} {v : Value} {n : Nat} {L : Nat → Nat} (x : Nat) (ho : Own W B 5 .u8 v n L) (hB : B ≤ W.heap.size) (hn : n ≤ 140737488351232) (hL : ∀ j, L j < 256) (hx : x < 256) :
    ∃ g c w', (Builtin.append_ #[29, 29] 29 #[v, .slice (some ⟨W.heap.size, 0, none⟩) 1 1]).run Try.prog (W.alloc (.cells #[.int .u8 (x : Int)] 5)) = .ok (.slice (some ⟨g, 0, none⟩) (n + 1) c) w' ∧ Below B W w' ∧
      Calls Try.prog 15 #[.slice (some ⟨g, 0, none⟩) (n + 1) c] w' fun e w2 => e = .returned (.int .u64 ((mulF (hashN L n ^^^ x) : Nat) : Int)) ∧ w2 = w' := by
  obtain ⟨g, c, w', hr, hO, hb, _⟩ := run_one (t := 29) (ty := 29) Try.underlying29 infoU8 (ho.ext (M := upd L n x) fun j hj => by unfold upd; rw [if_neg (by omega)]) (by omega) (by omega) hB (x : Int) (by simp [upd])
  refine ⟨g, c, w', hr, hb, ?_⟩
  rw [← hash_snoc]
  exact hash_any _ _ _ _ _ hO.nums (fun j _ => by unfold upd; split; exact hx; exact hL j) (by omega)
set_option maxHeartbeats 2000000 in
set_option maxRecDepth 20000 in
theorem walk_checkGoes (w : World) (a0 : Option Addr) (n c : Nat) (L : Nat → Nat) (last other : Int) (hA : NumArg w .u8 a0 n c L 256 140737488351232) (hl : 0 ≤ last ∧ last < ((256 : Nat) : Int)) (ho : 0 ≤ other ∧ other < ((256 : Nat) : Int)) : Calls Try.prog 8 #[.slice a0 n c, .int .u8 last, .int .u8 other] w fun e w' => e = .returned (.bool true) ∧ Below w.heap.size w w' := by
  obtain ⟨hL, hb, _, hnc, hc, ha⟩ := hA
  obtain ⟨x, rfl⟩ : ∃ x : Nat, last = (x : Int) := ⟨last.toNat, by omega⟩
  obtain ⟨y, rfl⟩ : ∃ y : Nat, other = (y : Int) := ⟨other.toNat, by omega⟩
  have HL := hid hL
  have HB := hid hb
  have HA := hid ha
  clear hL hb ha
  go_enter Try.func8, Try.ntmps8
  go_wp2_with fail
  refine (twin_any a0 n c L w HL.out (by omega) HA.out).mono ?_
  rintro e w1 ⟨v, rfl, hO1, hb1⟩
  obtain ⟨a1, c1, rfl, hnc1, hcm, _⟩ := hO1.form
  have HH := hid (hash_any a1 n c1 L w1 hO1.nums (fun j _ => HB.out j) (by omega))
  have B1 := hid hb1
  clear hO1 hb1 hnc1 hcm
  go_wp2_with (go_at_call 15; refine HH.out.mono ?_; rintro e w2 ⟨rfl, rfl⟩)
  clear HH
  refine (twin_any a0 n c L _ (HL.out.later B1.out) (by omega) HA.out).mono ?_
  rintro e w2 ⟨v2, rfl, hO2, hb2⟩
  have B2 := hid (below_up B1.out hb2)
  obtain ⟨g3, c3, w3, hr3, hb3, hh3⟩ := grown_hash x hO2 hb2.size (by omega) HB.out (by omega)
  have R3 := hid hr3
  have H3 := hid hh3
  have B3 := hid (B2.out.trans (hb3.mono (Nat.le_trans B1.out.size (Nat.le_refl _))))
  clear hO2 hb2 hr3 hb3 hh3
  have hxh := u64_xor_nat (hashN L n) x (hashN_lt L n) (by omega)
  have hlt := hashN_lt L n
  have hxx : hashN L n ^^^ x < 18446744073709551616 := Nat.xor_lt_two_pow (n := 64) hlt (by omega)
  go_wp2_with (first | (at_builtin; refine wpList_app (by rfl) (by rfl) R3.out ?_; clear R3) | (go_at_call 15; refine H3.out.mono ?_; clear H3; rintro e w4 ⟨rfl, rfl⟩))
  refine (twin_any a0 n c L _ (HL.out.later B3.out) (by omega) HA.out).mono ?_
  rintro e w5 ⟨v5, rfl, hO5, hb5⟩
  have B5 := hid (below_up B3.out hb5)
  obtain ⟨g6, c6, w6, hr6, hb6, hh6⟩ := grown_hash y hO5 hb5.size (by omega) HB.out (by omega)
  have R6 := hid hr6
  have H6 := hid hh6
  have B6 := hid (B5.out.trans (hb6.mono B3.out.size))
  have HI := hid (last_inj (h := hashN L n) (a := x) (b := y) hlt (by omega) (by omega))
  clear hO5 hb5 hr6 hb6 hh6
  clear hxx
  go_wp2_with (at_builtin; refine wpList_app (by rfl) (by rfl) R6.out ?_; clear R6)
  refine H6.out.mono ?_
  clear H6
  rintro e w7 ⟨rfl, rfl⟩
  go_wp2_with fail
  refine (known_any _).mono ?_
  rintro e w8 ⟨rfl, hb8⟩
  have hmx : IntKind.u64.wrap (((hashN L n ^^^ x : Nat) : Int) * 1099511628211) = ((mulF (hashN L n ^^^ x) : Nat) : Int) := by rw [IntKind.wrap_u64, mulF]; simp
  have hmx2 : ((hashN L n ^^^ x : Nat) : Int) * 1099511628211 % 18446744073709551616 = ((mulF (hashN L n ^^^ x) : Nat) : Int) := by rw [mulF]; simp
  have HI2 : Hid ((((mulF (hashN L n ^^^ x) : Nat) : Int) == ((mulF (hashN L n ^^^ y) : Nat) : Int)) = ((x : Int) == (y : Int))) := HI.out
  clear hlt HI
  generalize hashN L n = q at *
  generalize mulF (q ^^^ x) = MX at *
  generalize mulF (q ^^^ y) = MY at *
  generalize q ^^^ x = X at *
  generalize q ^^^ y = Y at *
  have hx256 : (x : Int) < 256 := by omega
  have hy256 : (y : Int) < 256 := by omega
  clear hl ho hnc hc
  have h1 : ((MX : Int) == (MX : Int)) = true := by simp
  go_wp2_with fail
  go_ret
  exact ⟨ret_bool (by show (((MX : Int) == (MY : Int)) == ((x : Int) == (y : Int))) = true; rw [HI2.out]; simp), below_up B6.out hb8⟩
end Go.Proofs.Ytcagocfhnfiodaa
