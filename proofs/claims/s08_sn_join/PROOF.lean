import PyProof.Rows.All
import Wide.All
import OpenK.AllK
import Wide.FinOn
import KE.OsGo
import KE.OsArgs
import PySem.Challenge.RW_shortpair_s08_sn_join
set_option Elab.async false
namespace Wd
open PySem PySem.W PySem.Calls PyProof.Rows
theorem nat_or_add (a b k : Nat) (h : b < 2 ^ k) : (a * 2 ^ k) ||| b = a * 2 ^ k + b := by
  rw [Nat.mul_comm]
  exact (Nat.two_pow_add_eq_or_of_lt h a).symm
/-- a number that ends in k noughts, or one below 2^k: their sum -/
theorem or_add (a b : Int) (k : Nat) (c : Int) (hc : (2 : Int) ^ k = c) (ha : 0 ≤ a) (hb : 0 ≤ b) (h : b < c) :
    Builtin.bitOr (a * c) b = a * c + b := by
  subst hc
  obtain ⟨a, rfl⟩ := Int.eq_ofNat_of_zero_le ha
  obtain ⟨b, rfl⟩ := Int.eq_ofNat_of_zero_le hb
  have e : ((2 ^ k : Nat) : Int) = (2 : Int) ^ k := by simp
  have e2 : ((a : Int) * 2 ^ k) = ((a * 2 ^ k : Nat) : Int) := by simp
  have hlt : b < 2 ^ k := by
    rw [← e] at h
    exact Int.ofNat_lt.mp h
  have hz : (a * 2 ^ k) &&& b = 0 := by
    have h1 := nat_or_add_and (a * 2 ^ k) b
    rw [nat_or_add a b k hlt] at h1
    omega
  rw [bitOr_and, e2, bitAnd_pp (Int.natCast_nonneg _) (Int.natCast_nonneg _)]
  simp only [Int.toNat_natCast]
  rw [hz]
  simp
theorem or_sum {x y : Int} (k : Nat) (c : Int) (hc : (2 : Int) ^ k = c) (hx : x % c = 0) (h0 : 0 ≤ x) (h1 : 0 ≤ y) (h2 : y < c) : Builtin.bitOr x y = x + y := by
  have hcp : 0 < c := by omega
  have e : x = (x / c) * c := by
    have := Int.emod_def x c
    rw [Int.mul_comm]
    omega
  rw [e]
  exact or_add _ _ k c hc (Int.ediv_nonneg h0 (by omega)) h1 h2
theorem or_nat (a b : Nat) : Builtin.bitOr (a : Int) (b : Int) = ((a ||| b : Nat) : Int) := by
  rw [bitOr_and, bitAnd_pp (Int.natCast_nonneg _) (Int.natCast_nonneg _)]
  simp only [Int.toNat_natCast]
  have := nat_or_add_and a b
  omega
theorem bits_nat (f : Nat) : Builtin.Int.intBits (f : Int) = Ql07.bits f := by
  unfold Builtin.Int.intBits Ql07.bits
  by_cases h : f = 0
  · subst h; rfl
  · have h2 : ((f : Int) == 0) = false := by
      simp only [beq_eq_false_iff_ne, ne_eq]; omega
    rw [h2, if_neg h]
    simp
theorem bits_small : ∀ f : Nat, f < 1024 → Ql07.bits f ≤ 10 := by decide +kernel
theorem bits_le10 {x : Int} (h0 : 0 ≤ x) (h1 : x < 1024) : (Builtin.Int.intBits x : Int) ≤ 10 := by
  obtain ⟨f, rfl⟩ := Int.eq_ofNat_of_zero_le h0
  rw [show Builtin.Int.intBits ((f : Nat) : Int) = Ql07.bits f from bits_nat f]
  have := bits_small f (by omega)
  omega
theorem small_half : ∀ f : Nat, f < 1024 → f ≠ 0 →
    (Ql07.bits f + 102) * 2 ^ 23 + (f * 2 ^ (24 - Ql07.bits f)) % 8388608 = (Ql07.bits f + 102) * 2 ^ 23 + (f * 2 ^ (24 - Ql07.bits f) - 2 ^ 23) := by
  decide +kernel
theorem nan_half : ∀ f : Nat, f < 1024 → (2143289344 ||| f * 8192) = 255 * 2 ^ 23 + (f * 2 ^ 13 ||| 2 ^ 22) ∧ (2143289344 ||| f * 8192) < 2147483648 := by
  decide +kernel
/-- the document's way from a short number to a single, over whole numbers -/
def wideI (kind short : Int) : Int := ((Ql07.wide kind.toNat short.toNat : Nat) : Int)
theorem wideI0 {s : Int} (h0 : 0 ≤ s) : wideI 0 s = s * 65536 := by
  obtain ⟨n, rfl⟩ := Int.eq_ofNat_of_zero_le h0
  show ((Ql07.wide 0 n : Nat) : Int) = _
  unfold Ql07.wide
  rw [if_pos rfl]
  omega
theorem wideI1 {n : Nat} : wideI 1 (n : Int) = ((Ql07.wideH n : Nat) : Int) := by
  show ((Ql07.wide 1 n : Nat) : Int) = _
  unfold Ql07.wide
  rw [if_neg (by decide)]
theorem cast_mod (f j : Nat) : ((f : Int) * 2 ^ j % 8388608) = ((f * 2 ^ j % 8388608 : Nat) : Int) := by
  simp
theorem way_zero {s : Int} (h0 : 0 ≤ s) (h1 : s ≤ 65535) (he : s / 1024 % 32 = 0) (hf : s % 1024 = 0) : s / 32768 * 2147483648 + 0 = wideI 1 s := by
  obtain ⟨n, rfl⟩ := Int.eq_ofNat_of_zero_le h0
  rw [wideI1]
  unfold Ql07.wideH Ql07.sign16 Ql07.expoH Ql07.fracH
  rw [if_neg (by omega), if_pos (by omega), if_pos (by omega)]
  omega
theorem way_small {s : Int} (h0 : 0 ≤ s) (h1 : s ≤ 65535) (he : s / 1024 % 32 = 0) (hf : ¬ s % 1024 = 0) :
    s / 32768 * 2147483648 + (((Builtin.Int.intBits (s % 1024) : Int) + 102) * 8388608 + s % 1024 * 2 ^ (24 - (Builtin.Int.intBits (s % 1024) : Int)).toNat % 8388608) = wideI 1 s := by
  obtain ⟨n, rfl⟩ := Int.eq_ofNat_of_zero_le h0
  rw [wideI1]
  unfold Ql07.wideH Ql07.sign16 Ql07.expoH Ql07.fracH
  rw [if_neg (by omega), if_pos (by omega), if_neg (by omega)]
  have e1 : ((n : Int) % 1024) = ((n % 1024 : Nat) : Int) := by omega
  have hb := bits_small (n % 1024) (by omega)
  have sh := small_half (n % 1024) (by omega) (by omega)
  rw [e1, bits_nat]
  have e2 : (24 - ((Ql07.bits (n % 1024) : Nat) : Int)).toNat = 24 - Ql07.bits (n % 1024) := by omega
  rw [e2]
  have e3 := cast_mod (n % 1024) (24 - Ql07.bits (n % 1024))
  rw [e3]
  show _ = ((n / 2 ^ 15 % 2 * 2 ^ 31 + ((Ql07.bits (n % 2 ^ 10) + 102) * 2 ^ 23 + (n % 2 ^ 10 * 2 ^ (24 - Ql07.bits (n % 2 ^ 10)) - 2 ^ 23)) : Nat) : Int)
  rw [show (2 : Nat) ^ 10 = 1024 from rfl, ← sh]
  generalize (n % 1024 * 2 ^ (24 - Ql07.bits (n % 1024)) % 8388608) = z
  omega
theorem way_inf {s : Int} (h0 : 0 ≤ s) (h1 : s ≤ 65535) (he : s / 1024 % 32 = 31) (hf : s % 1024 = 0) : s / 32768 * 2147483648 + 2139095040 = wideI 1 s := by
  obtain ⟨n, rfl⟩ := Int.eq_ofNat_of_zero_le h0
  rw [wideI1]
  unfold Ql07.wideH Ql07.sign16 Ql07.expoH Ql07.fracH
  rw [if_pos (by omega), if_pos (by omega)]
  omega
theorem way_nan {s : Int} (h0 : 0 ≤ s) (h1 : s ≤ 65535) (he : s / 1024 % 32 = 31) (hf : ¬ s % 1024 = 0) :
    Builtin.bitOr (s / 32768 * 2147483648) (Builtin.bitOr (2139095040 + 4194304) (s % 1024 * 8192)) = wideI 1 s := by
  obtain ⟨n, rfl⟩ := Int.eq_ofNat_of_zero_le h0
  rw [wideI1]
  unfold Ql07.wideH Ql07.sign16 Ql07.expoH Ql07.fracH
  rw [if_pos (by omega), if_neg (by omega)]
  obtain ⟨a1, a2⟩ := nan_half (n % 1024) (by omega)
  have e1 : Builtin.bitOr (2139095040 + 4194304) ((n : Int) % 1024 * 8192) = ((2143289344 ||| n % 1024 * 8192 : Nat) : Int) := by
    have e2 : ((n : Int) % 1024 * 8192) = ((n % 1024 * 8192 : Nat) : Int) := by omega
    rw [e2]
    exact or_nat 2143289344 _
  rw [e1, or_sum 31 2147483648 (by decide) (by omega) (by omega) (by omega) (by omega), a1]
  show _ = ((n / 2 ^ 15 % 2 * 2 ^ 31 + (255 * 2 ^ 23 + (n % 1024 * 2 ^ 13 ||| 2 ^ 22)) : Nat) : Int)
  generalize (n % 1024 * 2 ^ 13 ||| 2 ^ 22) = z
  omega
theorem way_plain {s : Int} (h0 : 0 ≤ s) (h1 : s ≤ 65535) (he : ¬ s / 1024 % 32 = 0) (hf : ¬ s / 1024 % 32 = 31) :
    s / 32768 * 2147483648 + (s / 1024 % 32 + 112) * 8388608 + s % 1024 * 8192 = wideI 1 s := by
  obtain ⟨n, rfl⟩ := Int.eq_ofNat_of_zero_le h0
  rw [wideI1]
  unfold Ql07.wideH Ql07.sign16 Ql07.expoH Ql07.fracH
  rw [if_neg (by omega), if_neg (by omega)]
  omega
/-- the two helpers, by the document's way -/
def smallI (f : Int) : Int := wideI 1 (f % 1024)
def endlessI (f : Int) : Int := wideI 1 (31744 + f % 1024)
def halfI (s : Int) : Int := wideI 1 s
theorem wide_low : ∀ n : Nat, n < 1024 → Ql07.wideH n < 2147483648 ∧ Ql07.wideH (31744 + n) < 2147483648 := by decide +kernel
theorem smallI_in (f : Int) : 0 ≤ smallI f ∧ smallI f < 2147483648 := by
  have h := wide_low (f % 1024).toNat (by omega)
  unfold smallI
  have e : f % 1024 = (((f % 1024).toNat : Nat) : Int) := by omega
  rw [e, wideI1]
  omega
theorem endlessI_in (f : Int) : 0 ≤ endlessI f ∧ endlessI f < 2147483648 := by
  have h := wide_low (f % 1024).toNat (by omega)
  unfold endlessI
  have e : 31744 + f % 1024 = ((31744 + (f % 1024).toNat : Nat) : Int) := by omega
  rw [e, wideI1]
  omega
theorem small_z {f : Int} (h : f = 0) : 0 = smallI f := by
  subst h
  decide +kernel
theorem small_n {f : Int} (h0 : 0 ≤ f) (h1 : f < 1024) (h : ¬ f = 0) : ((Builtin.Int.intBits f : Int) + 102) * 8388608 + f * 2 ^ (24 - (Builtin.Int.intBits f : Int)).toNat % 8388608 = smallI f := by
  unfold smallI
  have e : f % 1024 = f := by omega
  rw [e]
  have q := way_small (s := f) h0 (by omega) (by omega) (by omega)
  have z : f / 32768 = 0 := by omega
  rw [e, z] at q
  rw [← q]
  omega
theorem endless_z {f : Int} (h : f = 0) : 2139095040 = endlessI f := by
  subst h
  decide +kernel
theorem endless_n {f : Int} (h0 : 0 ≤ f) (h1 : f < 1024) (h : ¬ f = 0) : Builtin.bitOr (2139095040 + 4194304) (f * 8192) = endlessI f := by
  unfold endlessI
  have e : f % 1024 = f := by omega
  rw [e]
  have q := way_nan (s := 31744 + f) (by omega) (by omega) (by omega) (by omega)
  have z : (31744 + f) / 32768 = 0 := by omega
  have z2 : (31744 + f) % 1024 = f := by omega
  rw [z, z2, Int.zero_mul] at q
  rw [← q, PyProof.Rows.bitOr_comm 0, bitOr_and _ 0, bitAnd_zero]
  omega
theorem half_s {s : Int} (h0 : 0 ≤ s) (h1 : s ≤ 65535) (he : s / 1024 % 32 = 0) : s / 32768 * 2147483648 + smallI (s % 1024) = halfI s := by
  by_cases hf : s % 1024 = 0
  · rw [← small_z hf]
    exact way_zero h0 h1 he hf
  · rw [← small_n (by omega) (by omega) hf]
    exact way_small h0 h1 he hf
theorem half_e {s : Int} (h0 : 0 ≤ s) (h1 : s ≤ 65535) (he : s / 1024 % 32 = 31) : s / 32768 * 2147483648 + endlessI (s % 1024) = halfI s := by
  by_cases hf : s % 1024 = 0
  · rw [← endless_z hf]
    exact way_inf h0 h1 he hf
  · have b := endlessI_in (s % 1024)
    have q := way_nan h0 h1 he hf
    rw [endless_n (by omega) (by omega) hf, or_sum 31 2147483648 (by decide) (by omega) (by omega) (by omega) (by omega)] at q
    exact q
theorem half_p {s : Int} (h0 : 0 ≤ s) (h1 : s ≤ 65535) (he : ¬ s / 1024 % 32 = 0) (hf : ¬ s / 1024 % 32 = 31) :
    s / 32768 * 2147483648 + (s / 1024 % 32 + 112) * 8388608 + s % 1024 * 8192 = halfI s := way_plain h0 h1 he hf
theorem wide_h {k s : Int} (h : k = 1) : halfI s = wideI k s := by subst h; rfl
theorem wide_b {k s : Int} (h : k = 0) (h0 : 0 ≤ s) : s * 65536 = wideI k s := by subst h; exact (wideI0 h0).symm
def smallM (f : Int) : Int := smallI f % 2147483648
def endlessM (f : Int) : Int := endlessI f % 2147483648
theorem smallM_eq (f : Int) : smallM f = smallI f := by have := smallI_in f; unfold smallM; omega
theorem endlessM_eq (f : Int) : endlessM f = endlessI f := by have := endlessI_in f; unfold endlessM; omega
theorem smallM_z {f : Int} (h : f = 0) : 0 = smallM f := by rw [smallM_eq]; exact small_z h
theorem smallM_n {f : Int} (h0 : 0 ≤ f) (h1 : f < 1024) (h : ¬ f = 0) : ((Builtin.Int.intBits f : Int) + 102) * 8388608 + f * 2 ^ (24 - (Builtin.Int.intBits f : Int)).toNat % 8388608 = smallM f := by
  rw [smallM_eq]; exact small_n h0 h1 h
theorem endlessM_z {f : Int} (h : f = 0) : 2139095040 = endlessM f := by rw [endlessM_eq]; exact endless_z h
theorem endlessM_n {f : Int} (h0 : 0 ≤ f) (h1 : f < 1024) (h : ¬ f = 0) : Builtin.bitOr (2139095040 + 4194304) (f * 8192) = endlessM f := by
  rw [endlessM_eq]; exact endless_n h0 h1 h
theorem nat_field (n i k : Nat) : n &&& ((2 ^ k - 1) * 2 ^ i) = n / 2 ^ i % 2 ^ k * 2 ^ i := by
  apply Nat.eq_of_testBit_eq
  intro j
  rw [Nat.testBit_and, Nat.testBit_mul_two_pow, Nat.testBit_mul_two_pow, Nat.testBit_two_pow_sub_one, Nat.testBit_mod_two_pow, Nat.testBit_div_two_pow]
  by_cases h : i ≤ j
  · have e' : j - i + i = j := by omega
    simp only [h, decide_true, Bool.true_and, e']
    rw [Bool.and_comm]
  · simp only [h, decide_false, Bool.false_and, Bool.and_false]
theorem and_field {x : Int} (i k : Nat) (m c d : Int) (hm : ((2 : Int) ^ k - 1) * 2 ^ i = m) (hc : (2 : Int) ^ k = c) (hd : (2 : Int) ^ i = d) (h0 : 0 ≤ x) : Builtin.bitAnd x m = x / d % c * d := by
  obtain ⟨n, rfl⟩ := Int.eq_ofNat_of_zero_le h0
  subst hm hc hd
  have p : ((2 ^ k - 1 : Nat) : Int) = (2 : Int) ^ k - 1 := by
    have := Nat.two_pow_pos k
    rw [Int.natCast_sub (by omega)]
    simp
  have e : ((2 : Int) ^ k - 1) * 2 ^ i = (((2 ^ k - 1) * 2 ^ i : Nat) : Int) := by
    rw [Int.natCast_mul, p]
    simp
  rw [e, bitAnd_pp (Int.natCast_nonneg _) (Int.natCast_nonneg _)]
  simp only [Int.toNat_natCast]
  rw [nat_field]
  simp
/-- the document's nearest, over whole numbers -/
def nearI (n d : Int) : Int := ((Ql07.nearest n.toNat d.toNat : Nat) : Int)
def narrowI (kind single : Int) : Int := ((Ql07.narrow kind.toNat single.toNat : Nat) : Int)
theorem near_nat (n d : Nat) : nearI (n : Int) (d : Int) = ((Ql07.nearest n d : Nat) : Int) := rfl
theorem near_nats (n d : Nat) (hd : 1 ≤ d) : (Ql07.nearest n d : Nat) = if 2 ^ (d - 1) < n - n / 2 ^ d * 2 ^ d ∨ (n - n / 2 ^ d * 2 ^ d = 2 ^ (d - 1) ∧ n / 2 ^ d % 2 = 1) then n / 2 ^ d + 1 else n / 2 ^ d := by
  obtain ⟨e, rfl⟩ : ∃ e, d = e + 1 := ⟨d - 1, by omega⟩
  have e1 : n - n / 2 ^ (e + 1) * 2 ^ (e + 1) = n % 2 ^ (e + 1) := by
    have := Nat.div_add_mod n (2 ^ (e + 1))
    rw [Nat.mul_comm] at this
    omega
  rw [e1]
  have e2 : 2 ^ (e + 1) = 2 * 2 ^ e := by rw [Nat.pow_succ]; omega
  unfold Ql07.nearest
  simp only [Nat.add_sub_cancel]
  generalize hr : n % 2 ^ (e + 1) = r
  generalize n / 2 ^ (e + 1) = q
  have c : (2 ^ (e + 1) < 2 * r ∨ 2 * r = 2 ^ (e + 1) ∧ q % 2 = 1) ↔ (2 ^ e < r ∨ r = 2 ^ e ∧ q % 2 = 1) := by
    rw [e2]
    omega
  simp only [c]
theorem near_ints {n d : Int} (h0 : 0 ≤ n) (h1 : n < 4294967296) (hd : 1 ≤ d) : nearI n d = if (1 * 2 ^ (d - 1).toNat < n - n / 2 ^ d.toNat % 4294967296 * 2 ^ d.toNat ∨ (n - n / 2 ^ d.toNat % 4294967296 * 2 ^ d.toNat = 1 * 2 ^ (d - 1).toNat ∧ n / 2 ^ d.toNat % 4294967296 % 2 = 1)) then n / 2 ^ d.toNat % 4294967296 + 1 else n / 2 ^ d.toNat % 4294967296 := by
  obtain ⟨n, rfl⟩ := Int.eq_ofNat_of_zero_le h0
  obtain ⟨d, rfl⟩ := Int.eq_ofNat_of_zero_le (by omega : 0 ≤ d)
  have ed : ((d : Int) - 1).toNat = d - 1 := by omega
  rw [ed, Int.toNat_natCast, near_nat, near_nats n d (by omega)]
  have p := Nat.two_pow_pos d
  have q1 : n / 2 ^ d ≤ n := Nat.div_le_self _ _
  have q2 : n / 2 ^ d * 2 ^ d ≤ n := Nat.div_mul_le_self _ _
  have a1 : (n : Int) / 2 ^ d % 4294967296 = ((n / 2 ^ d : Nat) : Int) := by
    have : (n : Int) / 2 ^ d = ((n / 2 ^ d : Nat) : Int) := by simp
    rw [this]
    clear q2
    generalize n / 2 ^ d = y at q1 ⊢
    omega
  have a2 : (1 : Int) * 2 ^ (d - 1) = ((2 ^ (d - 1) : Nat) : Int) := by simp
  have a3 : ((n / 2 ^ d : Nat) : Int) * 2 ^ d = ((n / 2 ^ d * 2 ^ d : Nat) : Int) := by simp
  rw [a1, a2, a3]
  generalize n / 2 ^ d * 2 ^ d = z at q2 ⊢
  generalize n / 2 ^ d = y at q1 ⊢
  generalize 2 ^ (d - 1) = u
  split <;> split <;> omega
/-- the two ways out of the def that drops the last bits -/
theorem near_up {n d : Int} (h0 : 0 ≤ n) (h1 : n < 4294967296) (hd : 1 ≤ d) (h : 1 * 2 ^ (d - 1).toNat < n - n / 2 ^ d.toNat % 4294967296 * 2 ^ d.toNat ∨ (n - n / 2 ^ d.toNat % 4294967296 * 2 ^ d.toNat = 1 * 2 ^ (d - 1).toNat ∧ n / 2 ^ d.toNat % 4294967296 % 2 = 1)) :
    n / 2 ^ d.toNat % 4294967296 + 1 = nearI n d := by
  rw [near_ints h0 h1 hd, if_pos h]
theorem near_stay {n d : Int} (h0 : 0 ≤ n) (h1 : n < 4294967296) (hd : 1 ≤ d) (h : ¬ (1 * 2 ^ (d - 1).toNat < n - n / 2 ^ d.toNat % 4294967296 * 2 ^ d.toNat ∨ (n - n / 2 ^ d.toNat % 4294967296 * 2 ^ d.toNat = 1 * 2 ^ (d - 1).toNat ∧ n / 2 ^ d.toNat % 4294967296 % 2 = 1))) :
    n / 2 ^ d.toNat % 4294967296 = nearI n d := by
  rw [near_ints h0 h1 hd, if_neg h]
theorem near_le (n d : Nat) : Ql07.nearest n d ≤ n / 2 ^ d + 1 := by
  unfold Ql07.nearest
  dsimp only
  split <;> omega
theorem narrow_b {n : Nat} : narrowI 0 (n : Int) = ((Ql07.narrowB n : Nat) : Int) := by
  show ((Ql07.narrow 0 n : Nat) : Int) = _
  unfold Ql07.narrow
  rw [if_pos rfl]
theorem narrow_h {n : Nat} : narrowI 1 (n : Int) = ((Ql07.narrowH n : Nat) : Int) := by
  show ((Ql07.narrow 1 n : Nat) : Int) = _
  unfold Ql07.narrow
  rw [if_neg (by decide)]
theorem nb_zero {k s : Int} (hk : k = 0) (h0 : 0 ≤ s) (h1 : s < 4294967296) (h : s / 8388608 % 256 = 0) : s / 2147483648 * 32768 = narrowI k s := by
  subst hk
  obtain ⟨n, rfl⟩ := Int.eq_ofNat_of_zero_le h0
  rw [narrow_b]
  unfold Ql07.narrowB Ql07.expo32 Ql07.sign32
  rw [if_pos (by omega)]
  omega
theorem nb_nan {k s : Int} (hk : k = 0) (h0 : 0 ≤ s) (h1 : s < 4294967296) (h : s / 8388608 % 256 = 255) (hf : ¬ s % 8388608 = 0) : Builtin.bitOr (s / 65536) 64 = narrowI k s := by
  subst hk
  obtain ⟨n, rfl⟩ := Int.eq_ofNat_of_zero_le h0
  rw [narrow_b]
  unfold Ql07.narrowB Ql07.expo32 Ql07.frac32
  rw [if_neg (by omega), if_pos (by omega)]
  have e : (n : Int) / 65536 = ((n / 2 ^ 16 : Nat) : Int) := by omega
  rw [e]
  exact or_nat _ 64
theorem nb_near {k s : Int} (hk : k = 0) (h0 : 0 ≤ s) (h1 : s < 4294967296) (h : ¬ s / 8388608 % 256 = 0) (hf : ¬ (s / 8388608 % 256 = 255 ∧ ¬ s % 8388608 = 0)) : nearI s 16 = narrowI k s := by
  subst hk
  obtain ⟨n, rfl⟩ := Int.eq_ofNat_of_zero_le h0
  rw [narrow_b]
  unfold Ql07.narrowB Ql07.expo32 Ql07.frac32
  rw [if_neg (by omega), if_neg (by omega)]
  rfl
theorem nan_short : ∀ f : Nat, f < 1024 → (512 ||| f) = (f ||| 2 ^ 9) ∧ (f ||| 2 ^ 9) < 1024 := by decide +kernel
theorem nat_or_3 (a b c : Nat) : (a ||| b) ||| c = a ||| (b ||| c) := Nat.or_assoc a b c
theorem nh_nan {k s : Int} (hk : k = 1) (h0 : 0 ≤ s) (h1 : s < 4294967296) (h : s / 8388608 % 256 = 255) (hf : ¬ s % 8388608 = 0) : Builtin.bitOr (s / 2147483648 * 32768 + 31744 + 512) (s % 8388608 / 8192) = narrowI k s := by
  subst hk
  obtain ⟨n, rfl⟩ := Int.eq_ofNat_of_zero_le h0
  rw [narrow_h]
  unfold Ql07.narrowH Ql07.expo32 Ql07.frac32 Ql07.sign32
  rw [if_pos (by omega), if_neg (by omega)]
  have e1 : ((n : Int) % 8388608 / 8192) = ((n % 2 ^ 23 / 2 ^ 13 : Nat) : Int) := by omega
  have e2 : ((n : Int) / 2147483648 * 32768 + 31744 + 512) = (((n / 2147483648 * 32 + 31) * 2 ^ 10 + 512 : Nat) : Int) := by omega
  rw [e1, e2, or_nat]
  obtain ⟨a1, a2⟩ := nan_short (n % 2 ^ 23 / 2 ^ 13) (by omega)
  have e3 : (n / 2147483648 * 32 + 31) * 2 ^ 10 + 512 = ((n / 2147483648 * 32 + 31) * 2 ^ 10 ||| 512) := (nat_or_add _ 512 10 (by decide)).symm
  rw [e3, nat_or_3, a1, nat_or_add _ _ 10 (by omega)]
  generalize (n % 2 ^ 23 / 2 ^ 13 ||| 2 ^ 9) = z
  omega
theorem nh_inf {k s : Int} (hk : k = 1) (h0 : 0 ≤ s) (h1 : s < 4294967296) (hf : ¬ (s / 8388608 % 256 = 255 ∧ ¬ s % 8388608 = 0)) (h : 1199570944 ≤ s % 2147483648) : s / 2147483648 * 32768 + 31744 = narrowI k s := by
  subst hk
  obtain ⟨n, rfl⟩ := Int.eq_ofNat_of_zero_le h0
  rw [narrow_h]
  unfold Ql07.narrowH
  by_cases c : n / 2 ^ 23 % 256 = 255
  · unfold Ql07.expo32 Ql07.frac32 Ql07.sign32
    rw [if_pos c, if_pos (by omega)]
    omega
  · unfold Ql07.sizeH Ql07.expo32 Ql07.frac32 Ql07.sign32
    rw [if_neg c, if_neg (by omega), if_neg (by omega)]
    have g : 31744 ≤ Ql07.nearest ((n / 2 ^ 23 % 256 - 112) * 2 ^ 23 + n % 2 ^ 23) 13 := by
      unfold Ql07.nearest
      dsimp only
      split <;> omega
    rw [Nat.min_eq_right g]
    omega
theorem nh_great {k s : Int} (hk : k = 1) (h0 : 0 ≤ s) (h1 : s < 4294967296) (h : ¬ 1199570944 ≤ s % 2147483648) (he : 112 < s % 2147483648 / 8388608) : Builtin.bitOr (s / 2147483648 * 32768) (nearI (s % 2147483648 - 112 * 8388608) 13) = narrowI k s := by
  subst hk
  obtain ⟨n, rfl⟩ := Int.eq_ofNat_of_zero_le h0
  rw [narrow_h]
  unfold Ql07.narrowH Ql07.sizeH Ql07.expo32 Ql07.frac32 Ql07.sign32
  rw [if_neg (by omega), if_neg (by omega), if_neg (by omega)]
  have e : ((n : Int) % 2147483648 - 112 * 8388608) = (((n / 2 ^ 23 % 256 - 112) * 2 ^ 23 + n % 2 ^ 23 : Nat) : Int) := by omega
  have e4 : nearI (((n / 2 ^ 23 % 256 - 112) * 2 ^ 23 + n % 2 ^ 23 : Nat) : Int) 13 = ((Ql07.nearest ((n / 2 ^ 23 % 256 - 112) * 2 ^ 23 + n % 2 ^ 23) 13 : Nat) : Int) := near_nat _ 13
  rw [e, e4]
  have key : ∀ z : Nat, z < 260046848 → Builtin.bitOr ((n : Int) / 2147483648 * 32768) ((Ql07.nearest z 13 : Nat) : Int) = ((n / 2 ^ 31 % 2 * 2 ^ 15 + min (Ql07.nearest z 13) 0x7C00 : Nat) : Int) := by
    intro z e3
    have g : Ql07.nearest z 13 ≤ 31744 := by
      have := near_le z 13
      omega
    rw [or_sum 15 32768 (by decide) (by omega) (by omega) (by omega) (by omega)]
    have g2 : min (Ql07.nearest z 13) 0x7C00 = Ql07.nearest z 13 := Nat.min_eq_left g
    rw [g2]
    omega
  exact key _ (by omega)
theorem nh_none {k s : Int} (hk : k = 1) (h0 : 0 ≤ s) (h1 : s < 4294967296) (he : s % 2147483648 / 8388608 = 0) : s / 2147483648 * 32768 + 0 = narrowI k s := by
  subst hk
  obtain ⟨n, rfl⟩ := Int.eq_ofNat_of_zero_le h0
  rw [narrow_h]
  unfold Ql07.narrowH Ql07.sizeH Ql07.expo32 Ql07.sign32
  rw [if_neg (by omega), if_pos (by omega)]
  omega
theorem near_none {n d : Nat} (h : n < 2 ^ 24) (hd : 25 ≤ d) : Ql07.nearest n d = 0 := by
  have p : 2 ^ 25 ≤ 2 ^ d := Nat.pow_le_pow_right (by decide) hd
  unfold Ql07.nearest
  rw [Nat.div_eq_of_lt (by omega), Nat.mod_eq_of_lt (by omega)]
  dsimp only
  rw [if_neg (by omega)]
theorem near_low {n d : Nat} (h : n < 2 ^ 24) (hd : 14 ≤ d) : Ql07.nearest n d ≤ 1024 := by
  have := near_le n d
  have p : 2 ^ 14 ≤ 2 ^ d := Nat.pow_le_pow_right (by decide) hd
  have q : n / 2 ^ d ≤ n / 2 ^ 14 := Nat.div_le_div_left p (by decide)
  omega
theorem nh_small {k s : Int} (hk : k = 1) (h0 : 0 ≤ s) (h1 : s < 4294967296) (h : ¬ 112 < s % 2147483648 / 8388608) (he : ¬ s % 2147483648 / 8388608 = 0) :
    Builtin.bitOr (s / 2147483648 * 32768) (nearI (s % 2147483648 % 8388608 + 8388608) (126 - s % 2147483648 / 8388608)) = narrowI k s := by
  subst hk
  obtain ⟨n, rfl⟩ := Int.eq_ofNat_of_zero_le h0
  rw [narrow_h]
  unfold Ql07.narrowH Ql07.sizeH Ql07.expo32 Ql07.frac32 Ql07.sign32
  have e : ((n : Int) % 2147483648 % 8388608 + 8388608) = ((2 ^ 23 + n % 2 ^ 23 : Nat) : Int) := by omega
  have e2 : (126 - (n : Int) % 2147483648 / 8388608) = ((126 - n / 2 ^ 23 % 256 : Nat) : Int) := by omega
  rw [e, e2, near_nat, if_neg (by omega)]
  have b : 2 ^ 23 + n % 2 ^ 23 < 2 ^ 24 := by omega
  have d : 14 ≤ 126 - n / 2 ^ 23 % 256 := by omega
  have g := near_low b d
  rw [or_sum 15 32768 (by decide) (by omega) (by omega) (by omega) (by omega)]
  by_cases c : n / 2 ^ 23 % 256 < 102
  · rw [if_pos c, near_none b (by omega)]
    omega
  · rw [if_neg c, if_pos (by omega)]
    generalize Ql07.nearest (2 ^ 23 + n % 2 ^ 23) (126 - n / 2 ^ 23 % 256) = z
    omega
theorem kind_yes {k : Int} (h : k = 0 ∨ k = 1) : Ql07.isKind k = true := by
  unfold Ql07.isKind
  simp only [Bool.or_eq_true, beq_iff_eq]
  exact h
theorem kind_no {k : Int} (h0 : ¬ k = 0) (h1 : ¬ k = 1) : Ql07.isKind k = false := by
  unfold Ql07.isKind
  simp only [Bool.or_eq_false_iff, beq_eq_false_iff_ne, ne_eq]
  exact ⟨h0, h1⟩
theorem code_yes {n : Nat} {k : Int} (l : Nat → List (List Nat)) (h : k = 0 ∨ k = 1) (hn : n ≤ 4096) : Ql07Neutral.shown (Ql07.told n k l) = 0 :: Ql07Neutral.ints (l k.toNat).flatten := by
  unfold Ql07.told
  rw [if_pos ⟨hn, kind_yes h⟩]
  rfl
theorem code_no {n : Nat} {k : Int} (l : Nat → List (List Nat)) (h : (¬ k = 0 ∧ ¬ k = 1) ∨ ¬ n ≤ 4096) : Ql07Neutral.shown (Ql07.told n k l) = [-2] := by
  unfold Ql07.told
  rw [if_neg]
  · rfl
  · intro ⟨c, d⟩
    rcases h with h | h
    · rw [kind_no h.1 h.2] at d
      exact absurd d (by decide)
    · exact h c
theorem ints_wide (k : Int) (l : List Int) : Ql07Neutral.ints ((Ql07Neutral.nats l).map (Ql07.wide k.toNat)) = l.map (wideI k) := by
  unfold Ql07Neutral.ints Ql07Neutral.nats
  rw [List.map_map, List.map_map]
  rfl
theorem ints_narrow (k : Int) (l : List Int) : Ql07Neutral.ints ((Ql07Neutral.nats l).map (Ql07.narrow k.toNat)) = l.map (narrowI k) := by
  unfold Ql07Neutral.ints Ql07Neutral.nats
  rw [List.map_map, List.map_map]
  rfl
theorem wide_due {k : Int} {ns : List Int} (h : k = 0 ∨ k = 1) (hl : ns.length ≤ 4096) : PyQl07.sn_wide k ns = 0 :: ns.map (wideI k) := by
  have e : PyQl07.sn_wide k ns = Ql07Neutral.shown (Ql07.told ((ns.length : Int).toNat) k fun j => [(Ql07Neutral.nats ns).map (Ql07.wide j)]) := rfl
  rw [e, code_yes _ h (by omega), ← ints_wide]
  simp
theorem wide_not {k : Int} {ns : List Int} (h : (¬ k = 0 ∧ ¬ k = 1) ∨ ¬ ns.length ≤ 4096) : PyQl07.sn_wide k ns = [-2] := by
  have e : PyQl07.sn_wide k ns = Ql07Neutral.shown (Ql07.told ((ns.length : Int).toNat) k fun j => [(Ql07Neutral.nats ns).map (Ql07.wide j)]) := rfl
  rw [e, code_no _ (by omega)]
theorem narrow_due {k : Int} {ns : List Int} (h : k = 0 ∨ k = 1) (hl : ns.length ≤ 4096) : PyQl07.sn_narrow k ns = 0 :: ns.map (narrowI k) := by
  have e : PyQl07.sn_narrow k ns = Ql07Neutral.shown (Ql07.told ((ns.length : Int).toNat) k fun j => [(Ql07Neutral.nats ns).map (Ql07.narrow j)]) := rfl
  rw [e, code_yes _ h (by omega), ← ints_narrow]
  simp
theorem narrow_not {k : Int} {ns : List Int} (h : (¬ k = 0 ∧ ¬ k = 1) ∨ ¬ ns.length ≤ 4096) : PyQl07.sn_narrow k ns = [-2] := by
  have e : PyQl07.sn_narrow k ns = Ql07Neutral.shown (Ql07.told ((ns.length : Int).toNat) k fun j => [(Ql07Neutral.nats ns).map (Ql07.narrow j)]) := rfl
  rw [e, code_no _ (by omega)]
theorem short_due {k : Int} {ns : List Int} (h : k = 0 ∨ k = 1) : PyQl07.sn_short k ns = ns.map (narrowI k) := by
  have e : PyQl07.sn_short k ns = Ql07Neutral.shown (Ql07.vector k 8 fun j => (Ql07Neutral.nats ns).map (Ql07.narrow j)) := rfl
  rw [e]
  unfold Ql07.vector
  rw [if_pos (kind_yes h), ← ints_narrow]
  rfl
theorem short_not {k : Int} {ns : List Int} (h0 : ¬ k = 0) (h1 : ¬ k = 1) : PyQl07.sn_short k ns = [0, 0, 0, 0, 0, 0, 0, 0] := by
  have e : PyQl07.sn_short k ns = Ql07Neutral.shown (Ql07.vector k 8 fun j => (Ql07Neutral.nats ns).map (Ql07.narrow j)) := rfl
  rw [e]
  unfold Ql07.vector
  rw [if_neg (by rw [kind_no h0 h1]; decide)]
  rfl
theorem head_at (ns : List Int) : (Ql07Neutral.nats ns).headD 0 = (ns.getD 0 0).toNat := by
  cases ns with
  | nil => rfl
  | cons a r => rfl
theorem one_due {k : Int} {ns : List Int} (h : k = 0 ∨ k = 1) : PyQl07.sn_one k ns = List.replicate 8 (wideI k (ns.getD 0 0)) := by
  have e : PyQl07.sn_one k ns = Ql07Neutral.shown (Ql07.vector k 8 fun j => List.replicate 8 (Ql07.wide j ((Ql07Neutral.nats ns).headD 0))) := rfl
  rw [e]
  unfold Ql07.vector
  rw [if_pos (kind_yes h)]
  rw [head_at]
  show Ql07Neutral.ints (List.replicate 8 _) = _
  unfold Ql07Neutral.ints
  rw [List.map_replicate]
  rfl
theorem one_not {k : Int} {ns : List Int} (h0 : ¬ k = 0) (h1 : ¬ k = 1) : PyQl07.sn_one k ns = [0, 0, 0, 0, 0, 0, 0, 0] := by
  have e : PyQl07.sn_one k ns = Ql07Neutral.shown (Ql07.vector k 8 fun j => List.replicate 8 (Ql07.wide j ((Ql07Neutral.nats ns).headD 0))) := rfl
  rw [e]
  unfold Ql07.vector
  rw [if_neg (by rw [kind_no h0 h1]; decide)]
  rfl
theorem evens_at (m : Nat) : ∀ l : List Nat, l.length = 2 * m → Ql07.evens l = (List.range m).map (fun i => l.getD (2 * i) 0) := by
  induction m with
  | zero =>
    intro l h
    match l, h with
    | [], _ => rfl
  | succ m ih =>
    intro l h
    match l, h with
    | a :: b :: r, h =>
      have hr : r.length = 2 * m := by simp only [List.length_cons] at h; omega
      rw [List.range_succ_eq_map, List.map_cons, List.map_map]
      show a :: Ql07.evens r = _
      rw [ih r hr]
      congr 1
theorem odds_at (m : Nat) : ∀ l : List Nat, l.length = 2 * m → Ql07.odds l = (List.range m).map (fun i => l.getD (2 * i + 1) 0) := by
  induction m with
  | zero =>
    intro l h
    match l, h with
    | [], _ => rfl
  | succ m ih =>
    intro l h
    match l, h with
    | a :: b :: r, h =>
      have hr : r.length = 2 * m := by simp only [List.length_cons] at h; omega
      rw [List.range_succ_eq_map, List.map_cons, List.map_map]
      show b :: Ql07.odds r = _
      rw [ih r hr]
      congr 1
theorem nats_at (l : List Int) (i : Nat) : (Ql07Neutral.nats l).getD i 0 = (l.getD i 0).toNat := by
  unfold Ql07Neutral.nats
  rw [List.getD_eq_getElem?_getD, List.getD_eq_getElem?_getD, List.getElem?_map]
  cases l[i]? <;> rfl
theorem split_due {n k : Int} {ns : List Int} (h : k = 0 ∨ k = 1) (h0 : 0 ≤ n) (hn : n ≤ 4096) (hl : (ns.length : Int) = 2 * n) (g g' : Int → Int)
    (hg : ∀ i, 0 ≤ i → i < n → g i = wideI k (ns.getD (2 * i).toNat 0)) (hg' : ∀ i, 0 ≤ i → i < n → g' i = wideI k (ns.getD (2 * i + 1).toNat 0)) :
    0 :: ((List.range n.toNat).map (fun i : Nat => g (i : Int)) ++ (List.range n.toNat).map (fun i : Nat => g' (i : Int))) = PyQl07.sn_split n k ns := by
  have e : PyQl07.sn_split n k ns = Ql07Neutral.shown (Ql07.told n.toNat k fun j => [(Ql07.evens (Ql07Neutral.nats ns)).map (Ql07.wide j), (Ql07.odds (Ql07Neutral.nats ns)).map (Ql07.wide j)]) := rfl
  have hl' : (Ql07Neutral.nats ns).length = 2 * n.toNat := by
    unfold Ql07Neutral.nats
    rw [List.length_map]
    omega
  rw [e, code_yes _ h (by omega), evens_at n.toNat _ hl', odds_at n.toNat _ hl']
  unfold Ql07Neutral.ints
  simp only [List.flatten_cons, List.flatten_nil, List.append_nil, List.map_append, List.map_map]
  congr 2
  · refine List.map_congr_left (fun i hi => ?_)
    have hi' := List.mem_range.mp hi
    rw [hg i (by omega) (by omega)]
    show wideI k _ = ((Ql07.wide k.toNat ((Ql07Neutral.nats ns).getD (2 * i) 0) : Nat) : Int)
    rw [nats_at]
    rfl
  · refine List.map_congr_left (fun i hi => ?_)
    have hi' := List.mem_range.mp hi
    rw [hg' i (by omega) (by omega)]
    show wideI k _ = ((Ql07.wide k.toNat ((Ql07Neutral.nats ns).getD (2 * i + 1) 0) : Nat) : Int)
    rw [nats_at]
    rfl
theorem split_not {n k : Int} {ns : List Int} (h : (¬ k = 0 ∧ ¬ k = 1) ∨ 4096 < n) : PyQl07.sn_split n k ns = [-2] := by
  have e : PyQl07.sn_split n k ns = Ql07Neutral.shown (Ql07.told n.toNat k fun j => [(Ql07.evens (Ql07Neutral.nats ns)).map (Ql07.wide j), (Ql07.odds (Ql07Neutral.nats ns)).map (Ql07.wide j)]) := rfl
  rw [e, code_no _ (by omega)]
/-- what is answered after i turns of the joining -/
def joinI (k : Int) (e o : List Int) : Nat → List Int
  | 0 => [0]
  | i + 1 => joinI k e o i ++ [narrowI k (e.getD i 0), narrowI k (o.getD i 0)]
theorem joinI_length (k : Int) (e o : List Int) (i : Nat) : (joinI k e o i).length = 1 + 2 * i := by
  induction i with
  | zero => rfl
  | succ i ih => simp only [joinI, List.length_append, List.length_cons, List.length_nil, ih]; omega
theorem pairs_more : ∀ (a b : List Nat) (x y : Nat), a.length = b.length → Ql07.pairs (a ++ [x]) (b ++ [y]) = Ql07.pairs a b ++ [x, y]
  | [], [], _, _, _ => rfl
  | a :: r, b :: t, x, y, h => by
    show a :: b :: Ql07.pairs (r ++ [x]) (t ++ [y]) = _
    rw [pairs_more r t x y (by simpa using h)]
    rfl
theorem take_more {l : List Int} {i : Nat} (h : i < l.length) : l.take (i + 1) = l.take i ++ [l.getD i 0] := by
  rw [List.take_add_one, List.getD_eq_getElem?_getD, List.getElem?_eq_getElem h]
  rfl
theorem joinI_eq (k : Int) (e o : List Int) (i : Nat) (he : i ≤ e.length) (ho : i ≤ o.length) :
    joinI k e o i = 0 :: Ql07Neutral.ints ((Ql07.pairs (Ql07Neutral.nats (e.take i)) (Ql07Neutral.nats (o.take i))).map (Ql07.narrow k.toNat)) := by
  induction i with
  | zero => rfl
  | succ i ih =>
    rw [take_more (by omega : i < e.length), take_more (by omega : i < o.length)]
    have m : ∀ (l : List Int) (x : Int), Ql07Neutral.nats (l ++ [x]) = Ql07Neutral.nats l ++ [x.toNat] := by
      intro l x
      unfold Ql07Neutral.nats
      rw [List.map_append]
      rfl
    rw [m, m, pairs_more _ _ _ _ (by unfold Ql07Neutral.nats; simp only [List.length_map, List.length_take]; omega)]
    unfold joinI
    rw [ih (by omega) (by omega)]
    unfold Ql07Neutral.ints
    simp only [List.map_append, List.cons_append]
    rfl
theorem join_due {n k : Int} {e o : List Int} (h : k = 0 ∨ k = 1) (h0 : 0 ≤ n) (hn : n ≤ 4096) (he : (e.length : Int) = n) (ho : (o.length : Int) = n) : joinI k e o n.toNat = PyQl07.sn_join n k e o := by
  have q : PyQl07.sn_join n k e o = Ql07Neutral.shown (Ql07.told n.toNat k fun j => [(Ql07.pairs (Ql07Neutral.nats e) (Ql07Neutral.nats o)).map (Ql07.narrow j)]) := rfl
  rw [q, code_yes _ h (by omega), joinI_eq k e o n.toNat (by omega) (by omega), List.take_of_length_le (by omega), List.take_of_length_le (by omega)]
  simp
theorem join_not {n k : Int} {e o : List Int} (h : (¬ k = 0 ∧ ¬ k = 1) ∨ 4096 < n) : PyQl07.sn_join n k e o = [-2] := by
  have q : PyQl07.sn_join n k e o = Ql07Neutral.shown (Ql07.told n.toNat k fun j => [(Ql07.pairs (Ql07Neutral.nats e) (Ql07Neutral.nats o)).map (Ql07.narrow j)]) := rfl
  rw [q, code_no _ (by omega)]
theorem one_end {k v : Int} {ns : List Int} (h : k = 0 ∨ k = 1) (hv : v = wideI k (ns.getD (Int.toNat 0) 0)) :
    [v, v, v, v, v, v, v, v] = PyQl07.sn_one k ns := by
  rw [one_due h, hv]
  rfl
/-- what the loop of the joining has after the turns of pre -/
structure Joined (k : Int) (e o pre ans : List Int) : Prop where
  eq : ans = joinI k e o pre.length
theorem join_start {k : Int} {e o : List Int} : ([0] : List Int).length = 1 + 2 * ([] : List Int).length ∧ Joined k e o [] [0] := ⟨rfl, ⟨rfl⟩⟩
theorem join_more {k i x y : Int} {e o pre ans : List Int} (h : Joined k e o pre ans) (hi : i = 0 + (pre.length : Int)) (hx : x = narrowI k (e.getD i.toNat 0)) (hy : y = narrowI k (o.getD i.toNat 0)) :
    (ans ++ [x] ++ [y]).length = 1 + 2 * (pre ++ [i]).length ∧ Joined k e o (pre ++ [i]) (ans ++ [x] ++ [y]) := by
  have ei : i.toNat = pre.length := by omega
  have q : ans ++ [x] ++ [y] = joinI k e o (pre ++ [i]).length := by
    rw [List.length_append, List.length_cons, List.length_nil, hx, hy, ei, h.eq]
    show _ = joinI k e o pre.length ++ _
    rw [List.append_assoc]
    rfl
  exact ⟨by rw [q, joinI_length], ⟨q⟩⟩
theorem end_join {n k : Int} {e o ans : List Int} (h : k = 0 ∨ k = 1) (h0 : 0 ≤ n) (hn : n ≤ 4096) (he : (e.length : Int) = n) (ho : (o.length : Int) = n) (hj : Joined k e o (rangeKs 0 (n - 0).toNat) ans) : ans = PyQl07.sn_join n k e o := by
  rw [← join_due h h0 hn he ho, hj.eq, rangeKs_length, Int.sub_zero]
theorem said : PySem.Challenge.rw_shortpair_s08_sn_join.wellSaid = true := by decide +kernel
/-- what is known of a list of the request -/
structure Bnd (ns : List Int) (hi : Int) : Prop where
  all : ∀ x ∈ ns, 0 ≤ x ∧ x ≤ hi
theorem Bnd.at {ns : List Int} {hi : Int} (b : Bnd ns hi) {k : Int} (h0 : 0 ≤ k) (h1 : k < ns.length) : 0 ≤ ns.getD k.toNat 0 ∧ ns.getD k.toNat 0 ≤ hi := by
  have hk : k.toNat < ns.length := by omega
  rw [List.getD_eq_getElem?_getD, List.getElem?_eq_getElem hk, Option.getD_some]
  exact b.all _ (List.getElem_mem hk)
abbrev Bnd.lst {ns : List Int} {hi : Int} (_ : Bnd ns hi) : List Int := ns
theorem Bnd.mod {ns : List Int} (b : Bnd ns 4294967295) {x : Int} (h : x ∈ ns) : x = x % 4294967296 := by
  have := b.all x h
  omega
theorem facts {n k : Int} {ns ms : List Int} (h : PySem.Challenge.rw_shortpair_s08_sn_join.pre [WData.int n, WData.int k, ofPy (PyData.list (List.map PyData.int ns)), ofPy (PyData.list (List.map PyData.int ms))] = true) :
    0 ≤ n ∧ n ≤ 4294967295 ∧ (4096 < n ∨ ((ns.length : Int) = n ∧ (ms.length : Int) = n)) ∧ Bnd ns 4294967295 ∧ Bnd ms 4294967295 := by
  obtain ⟨a, w, q, e⟩ := os_pre said h
  obtain ⟨n', k', ns', ms', u⟩ := a
  have e0 := os_j_int (List.cons.inj e).1
  have e1 := os_j_int (List.cons.inj (List.cons.inj e).2).1
  have e2 := os_j_ints (List.cons.inj (List.cons.inj (List.cons.inj e).2).2).1
  have e3 := os_j_ints (List.cons.inj (List.cons.inj (List.cons.inj (List.cons.inj e).2).2).2).1
  subst e0 e1 e2 e3
  have w' : (Codec.inInt 0 4294967295 n && (Codec.inInt (-2147483648) 2147483647 k && ((Codec.inLen 0 4096 ns && ns.all (Codec.inInt 0 4294967295)) && ((Codec.inLen 0 4096 ms && ms.all (Codec.inInt 0 4294967295)) && true)))) = true := w
  have q' : (Ql07Neutral.natural n 32 && (Ql07Neutral.whole32 k && ((ns.all (fun (z : Int) => Ql07Neutral.natural z 32) && Ql07Neutral.long ns n 0 4096) && (ms.all (fun (z : Int) => Ql07Neutral.natural z 32) && Ql07Neutral.long ms n 0 4096)))) = true := q
  simp only [Codec.inInt, Codec.inLen, Codec.inNat, Bool.and_eq_true, decide_eq_true_eq, List.all_eq_true, Bool.and_true] at w'
  simp only [Ql07Neutral.long, Bool.and_eq_true, decide_eq_true_eq] at q'
  obtain ⟨⟨n0, n1⟩, _, ⟨l1, h3⟩, ⟨l2, h4⟩⟩ := w'
  obtain ⟨_, _, ⟨_, hl⟩, _, hm⟩ := q'
  refine ⟨n0, n1, ?_, ⟨h3⟩, ⟨h4⟩⟩
  split at hl <;> split at hm <;> omega
theorem ends {n k : Int} {ns ms : List Int} {d : WData} (h : PySem.Challenge.rw_shortpair_s08_sn_join.pre [WData.int n, WData.int k, ofPy (PyData.list (List.map PyData.int ns)), ofPy (PyData.list (List.map PyData.int ms))] = true)
    (e : d = WData.list (List.map WData.int (PyQl07.sn_join n k ns ms))) :
    PySem.Challenge.rw_shortpair_s08_sn_join.post [WData.int n, WData.int k, ofPy (PyData.list (List.map PyData.int ns)), ofPy (PyData.list (List.map PyData.int ms))] d = true := by
  obtain ⟨a, w, q, e0⟩ := os_pre said h
  obtain ⟨n', k', ns', ms', u⟩ := a
  have e1 := os_j_int (List.cons.inj e0).1
  have e2 := os_j_int (List.cons.inj (List.cons.inj e0).2).1
  have e3 := os_j_ints (List.cons.inj (List.cons.inj (List.cons.inj e0).2).2).1
  have e4 := os_j_ints (List.cons.inj (List.cons.inj (List.cons.inj (List.cons.inj e0).2).2).2).1
  subst e1 e2 e3 e4
  rw [e0]
  exact os_shut said w e
section
variable {prog : Program} {w : World} {A : Around} {E : Value → Shared → Prop} {s : Shared} {x y : Int} {t u : Tok} {Q : Value → Shared → Prop}
/-- an item of the request, its bound told by a rest that changes nothing -/
theorem my_item {value slice : PySem.Expr} {l : Addr} {vs : List Value} {ns : List Int} {k : Int} (hb : Bnd ns 4294967295) (hl : s.heap.IsList l vs.toArray) (hi : IntsAre vs ns)
    (h0 : 0 ≤ k) (h1 : k < ns.length) (hfit : k < 2 ^ 63) (h : ∀ t, Q (.int (ns.getD k.toNat 0 % 4294967296) t) s)
    (hs : subscripted slice false (.ref l) (.int k u) = operate [.ref l, .int k u] (getItem (.ref l) (.int k u)) := by with_unfolding_all rfl) :
    wpAny (model prog w) A (subscriptTail value slice (.ref l) (.int k u)) Q E s := by
  refine item_anyK hl hi h0 h1 hfit (fun t => ?_) hs
  have b := hb.at h0 h1
  have e : ns.getD k.toNat 0 = ns.getD k.toNat 0 % 4294967296 := by omega
  rw [e]
  exact h t
end
theorem at_item {v k i : Int} {e : List Int} (hb : Bnd e 4294967295) (h0 : 0 ≤ i) (h1 : i < e.length) (h : 0 ≤ e.getD i.toNat 0 → e.getD i.toNat 0 ≤ 4294967295 → v = narrowI k (e.getD i.toNat 0)) : v = narrowI k (e.getD i.toNat 0) := by
  have b := hb.at h0 h1
  exact h b.1 b.2
section
variable {prog : Program} {w : World} {A : Around} {E : Value → Shared → Prop} {s : Shared} {x y : Int} {t u : Tok} {Q : Value → Shared → Prop}
theorem step_and (k : Nat) (m c : Int) (hm : (2 : Int) ^ k - 1 = m) (hc : (2 : Int) ^ k = c) (h : Q (.int (x % c) s.toks) { s with toks := s.toks + 1 }) :
    wpAny (model prog w) A (binaryOp .BitAnd (.int x t) (.int m u)) Q E s := by
  refine PyProof.Rows.and_int ?_
  rw [← hm, kbt_mask, hc]
  exact h
theorem step_shr (n c : Int) (hc : (2 : Int) ^ n.toNat = c) (hn : 0 ≤ n) (hp : 0 ≤ c) (h : Q (.int (x / c) s.toks) { s with toks := s.toks + 1 }) :
    wpAny (model prog w) A (binaryOp .RShift (.int x t) (.int n u)) Q E s := by
  refine PyProof.Rows.rshift_int hn ?_
  rw [hc, Int.fdiv_eq_ediv_of_nonneg x hp]
  exact h
theorem step_shl (n c : Int) (hc : (2 : Int) ^ n.toNat = c) (hn : 0 ≤ n) (hn2 : n ≤ 1000000) (h0 : 0 ≤ x) (h1 : x < 18446744073709551616) (h : Q (.int (x * c) s.toks) { s with toks := s.toks + 1 }) :
    wpAny (model prog w) A (binaryOp .LShift (.int x t) (.int n u)) Q E s := by
  refine PyProof.Rows.lshift_int_small hn hn2 (by omega) ?_
  rw [hc]
  exact h
theorem step_shlv {n : Int} (hn : 0 ≤ n) (hn2 : n ≤ 1000000) (h0 : 0 ≤ x) (h1 : x < 18446744073709551616) (h : Q (.int (x * 2 ^ n.toNat) s.toks) { s with toks := s.toks + 1 }) :
    wpAny (model prog w) A (binaryOp .LShift (.int x t) (.int n u)) Q E s :=
  PyProof.Rows.lshift_int_small hn hn2 (by omega) h
theorem step_or (k : Nat) (c : Int) (hc : (2 : Int) ^ k = c) (hx : x % c = 0) (h0 : 0 ≤ x) (h1 : 0 ≤ y) (h2 : y < c) (h : Q (.int (x + y) s.toks) { s with toks := s.toks + 1 }) :
    wpAny (model prog w) A (binaryOp .BitOr (.int x t) (.int y u)) Q E s := by
  refine PyProof.Rows.or_int ?_
  rw [or_sum k c hc hx h0 h1 h2]
  exact h
theorem step_bits (h0 : 0 ≤ x) (h1 : x < 1024) (h : 0 ≤ (Builtin.Int.intBits x : Int) → (Builtin.Int.intBits x : Int) ≤ 10 → Q (.int (Builtin.Int.intBits x) s.toks) { s with toks := s.toks + 1 }) :
    wpAny (model prog w) A (call (.builtin "int.bit_length") [.int x t]) Q E s :=
  PyProof.Rows.call_int_bit_length (h (by omega) (bits_le10 h0 h1))
end
section
variable {prog : Program} {w : World} {A : Around} {E : Value → Shared → Prop} {s : Shared} {x y : Int} {t u : Tok} {Q : Value → Shared → Prop}
theorem step_field (i k : Nat) (m c d : Int) (hm : ((2 : Int) ^ k - 1) * 2 ^ i = m) (hc : (2 : Int) ^ k = c) (hd : (2 : Int) ^ i = d) (h0 : 0 ≤ x) (h : Q (.int (x / d % c * d) s.toks) { s with toks := s.toks + 1 }) :
    wpAny (model prog w) A (binaryOp .BitAnd (.int x t) (.int m u)) Q E s := by
  refine PyProof.Rows.and_int ?_
  rw [and_field i k m c d hm hc hd h0]
  exact h
theorem step_ro (k : Nat) (c : Int) (hc : (2 : Int) ^ k = c) (hy : y % c = 0) (h0 : 0 ≤ y) (h1 : 0 ≤ x) (h2 : x < c) (h : Q (.int (x + y) s.toks) { s with toks := s.toks + 1 }) :
    wpAny (model prog w) A (binaryOp .BitOr (.int x t) (.int y u)) Q E s := by
  refine PyProof.Rows.or_int ?_
  rw [PyProof.Rows.bitOr_comm, or_sum k c hc hy h0 h1 h2, Int.add_comm]
  exact h
theorem shr_mod {n : Int} (h0 : 0 ≤ x) (h1 : x < 4294967296) : Int.fdiv x (2 ^ n.toNat) = x / 2 ^ n.toNat % 4294967296 := by
  have p : (0 : Int) < 2 ^ n.toNat := Int.pow_pos (by decide)
  rw [Int.fdiv_eq_ediv_of_nonneg x (by omega)]
  have a : 0 ≤ x / 2 ^ n.toNat := Int.ediv_nonneg h0 (by omega)
  have b : x / 2 ^ n.toNat ≤ x := Int.ediv_le_self _ h0
  generalize x / 2 ^ n.toNat = z at a b ⊢
  omega
theorem step_shrv {n : Int} (hn : 0 ≤ n) (h0 : 0 ≤ x) (h1 : x < 4294967296) (h : Q (.int (x / 2 ^ n.toNat % 4294967296) s.toks) { s with toks := s.toks + 1 }) :
    wpAny (model prog w) A (binaryOp .RShift (.int x t) (.int n u)) Q E s := by
  refine PyProof.Rows.rshift_int hn ?_
  rw [shr_mod h0 h1]
  exact h
theorem step_mod2 (h : Q (.int (x % 2) s.toks) { s with toks := s.toks + 1 }) :
    wpAny (model prog w) A (binaryOp .Mod (.int x t) (.int 2 u)) Q E s := by
  refine PyProof.Rows.mod_int' (by decide) ?_
  rw [Int.fmod_eq_emod_of_nonneg x (by decide)]
  exact h
end
theorem w_b {k x : Int} (h : k = 0) (h0 : 0 ≤ x) (h1 : x ≤ 65535) : x * 65536 = wideI k x := wide_b h h0
theorem w_s {k x : Int} (h : k = 1) (h0 : 0 ≤ x) (h1 : x ≤ 65535) (c : x / 1024 % 32 = 0) : Builtin.bitOr (x / 32768 * 2147483648) (smallM (x % 1024)) = wideI k x := by
  have b1 := smallI_in (x % 1024)
  rw [smallM_eq, ← wide_h h, or_sum 31 2147483648 (by decide) (by omega) (by omega) (by omega) (by omega)]
  exact half_s h0 h1 c
theorem w_e {k x : Int} (h : k = 1) (h0 : 0 ≤ x) (h1 : x ≤ 65535) (c : x / 1024 % 32 = 31) : Builtin.bitOr (x / 32768 * 2147483648) (endlessM (x % 1024)) = wideI k x := by
  have b1 := endlessI_in (x % 1024)
  rw [endlessM_eq, ← wide_h h, or_sum 31 2147483648 (by decide) (by omega) (by omega) (by omega) (by omega)]
  exact half_e h0 h1 c
theorem w_p {k x : Int} (h : k = 1) (h0 : 0 ≤ x) (h1 : x ≤ 65535) (c : ¬ x / 1024 % 32 = 0) (d : ¬ x / 1024 % 32 = 31) : x / 32768 * 2147483648 + (x / 1024 % 32 * 1024 / 1024 + 112) * 8388608 + x % 1024 * 8192 = wideI k x := by
  rw [← wide_h h, ← half_p h0 h1 c d]
  omega
theorem wd_list {l k : List Int} (h : l = k) : WData.list (ofPys (List.map PyData.int l)) = WData.list (List.map WData.int k) := by
  subst h
  rw [ofPys_ints]
theorem mod16 {x : Int} (h0 : 0 ≤ x) (h1 : x ≤ 65535) : x % 65536 = x := by omega
theorem mod32 {x : Int} (h0 : 0 ≤ x) (h1 : x ≤ 4294967295) : x % 4294967296 = x := by omega
theorem w_s2 {k x : Int} (h : k = 1) (h0 : 0 ≤ x) (h1 : x ≤ 65535) (c : x / 1024 % 32 = 0) : x / 32768 * 2147483648 + smallM (x % 1024) = wideI k x := by
  rw [smallM_eq, ← wide_h h]
  exact half_s h0 h1 c
theorem w_e2 {k x : Int} (h : k = 1) (h0 : 0 ≤ x) (h1 : x ≤ 65535) (c : x / 1024 % 32 = 31) : x / 32768 * 2147483648 + endlessM (x % 1024) = wideI k x := by
  rw [endlessM_eq, ← wide_h h]
  exact half_e h0 h1 c
theorem nh_inf2 {k s : Int} (hk : k = 1) (h0 : 0 ≤ s) (h1 : s < 4294967296) (hf : ¬ (s / 8388608 % 256 = 255 ∧ ¬ s % 8388608 = 0)) (h : 1199570944 ≤ s % 2147483648) : Builtin.bitOr (s / 2147483648 * 32768) 31744 = narrowI k s := by
  rw [or_sum 15 32768 (by decide) (by omega) (by omega) (by omega) (by omega)]
  exact nh_inf hk h0 h1 hf h
theorem nh_none2 {k s : Int} (hk : k = 1) (h0 : 0 ≤ s) (h1 : s < 4294967296) (he : s % 2147483648 / 8388608 = 0) : Builtin.bitOr (s / 2147483648 * 32768) 0 = narrowI k s := by
  rw [or_sum 15 32768 (by decide) (by omega) (by omega) (by omega) (by omega)]
  exact nh_none hk h0 h1 he
theorem known {k : Int} (h : (if k = 0 then k == 0 else k == 1) = true) : k = 0 ∨ k = 1 := by
  split at h
  · exact Or.inl (by assumption)
  · exact Or.inr (by simpa using h)
theorem unknown {k : Int} (h : (if k = 0 then k == 0 else k == 1) = false) : ¬ k = 0 ∧ ¬ k = 1 := by
  split at h
  · rename_i c
    subst c
    exact absurd h (by decide)
  · exact ⟨by assumption, by simpa using h⟩
theorem not_refused {n k : Int} (h : (if 4096 < n then decide (4096 < n) else !(if k = 0 then k == 0 else k == 1)) = false) : n ≤ 4096 ∧ (k = 0 ∨ k = 1) := by
  split at h
  · rename_i c
    rw [decide_eq_true c] at h
    exact absurd h (by decide)
  · exact ⟨by omega, known (by simpa using h)⟩
theorem refused {n k : Int} (h : (if 4096 < n then decide (4096 < n) else !(if k = 0 then k == 0 else k == 1)) = true) : (¬ k = 0 ∧ ¬ k = 1) ∨ 4096 < n := by
  split at h
  · exact Or.inr (by assumption)
  · exact Or.inl (unknown (by simpa using h))
set_option maxHeartbeats 4000000 in
/-- what the walk makes of the def that makes a single short, told whole -/
theorem narrow_fun {k x : Int} (hk : k = 0 ∨ k = 1) (h0 : 0 ≤ x) (h1 : x ≤ 4294967295) :
    (if k = 1 ∧ x % 4294967296 / 8388608 % 256 * 8388608 = 2139095040 ∧ ¬ x % 4294967296 % 8388608 = 0 then Builtin.bitOr (x % 4294967296 / 2147483648 * 32768 + 31744 + 512) (x % 4294967296 % 8388608 / 8192)
     else if k = 1 ∧ x % 4294967296 / 8388608 % 256 * 8388608 = 2139095040 ∧ x % 4294967296 % 8388608 = 0 then x % 4294967296 / 2147483648 * 32768 + 31744
     else if k = 1 ∧ ¬ x % 4294967296 / 8388608 % 256 * 8388608 = 2139095040 ∧ 1199570944 ≤ x % 4294967296 % 2147483648 then x % 4294967296 / 2147483648 * 32768 + 31744
     else if k = 1 ∧ ¬ x % 4294967296 / 8388608 % 256 * 8388608 = 2139095040 ∧ ¬ 1199570944 ≤ x % 4294967296 % 2147483648 ∧ 112 < x % 4294967296 % 2147483648 / 8388608 then Builtin.bitOr (x % 4294967296 / 2147483648 * 32768) (nearI (x % 4294967296 % 2147483648 - 112 * 8388608) 13)
     else if k = 1 ∧ ¬ x % 4294967296 / 8388608 % 256 * 8388608 = 2139095040 ∧ ¬ 1199570944 ≤ x % 4294967296 % 2147483648 ∧ ¬ 112 < x % 4294967296 % 2147483648 / 8388608 ∧ x % 4294967296 % 2147483648 / 8388608 = 0 then x % 4294967296 / 2147483648 * 32768 + 0
     else if k = 1 ∧ ¬ x % 4294967296 / 8388608 % 256 * 8388608 = 2139095040 ∧ ¬ 1199570944 ≤ x % 4294967296 % 2147483648 ∧ ¬ 112 < x % 4294967296 % 2147483648 / 8388608 ∧ ¬ x % 4294967296 % 2147483648 / 8388608 = 0 then Builtin.bitOr (x % 4294967296 / 2147483648 * 32768) (nearI (x % 4294967296 % 2147483648 % 8388608 + 8388608) (126 - x % 4294967296 % 2147483648 / 8388608))
     else if x % 4294967296 / 8388608 % 256 * 8388608 = 0 then x % 4294967296 / 2147483648 * 32768
     else if x % 4294967296 / 8388608 % 256 * 8388608 = 2139095040 ∧ ¬ x % 4294967296 % 8388608 = 0 then Builtin.bitOr (x % 4294967296 / 65536) 64
     else if x % 4294967296 / 8388608 % 256 * 8388608 = 2139095040 ∧ x % 4294967296 % 8388608 = 0 then nearI (x % 4294967296) 16
     else nearI (x % 4294967296) 16) = narrowI k x := by
  rcases hk with rfl | rfl
  · simp only [show ((0 : Int) = 1) = False from by decide, false_and, if_false]
    (simp only [mod32 h0 h1]; (repeat' split) <;> first | (with_reducible refine nb_zero ?_ h0 ?_ ?_) <;> omega | (with_reducible refine nb_nan ?_ h0 ?_ ?_ ?_) <;> omega | (with_reducible refine nb_near ?_ h0 ?_ ?_ ?_) <;> omega | (with_reducible refine nh_nan ?_ h0 ?_ ?_ ?_) <;> omega | (with_reducible refine nh_inf ?_ h0 ?_ ?_ ?_) <;> omega | (with_reducible refine nh_great ?_ h0 ?_ ?_ ?_) <;> omega | (with_reducible refine nh_none ?_ h0 ?_ ?_) <;> omega | (with_reducible refine nh_small ?_ h0 ?_ ?_ ?_) <;> omega)
  · simp only [true_and]
    (simp only [mod32 h0 h1]; (repeat' split) <;> first | (with_reducible refine nb_zero ?_ h0 ?_ ?_) <;> omega | (with_reducible refine nb_nan ?_ h0 ?_ ?_ ?_) <;> omega | (with_reducible refine nb_near ?_ h0 ?_ ?_ ?_) <;> omega | (with_reducible refine nh_nan ?_ h0 ?_ ?_ ?_) <;> omega | (with_reducible refine nh_inf ?_ h0 ?_ ?_ ?_) <;> omega | (with_reducible refine nh_great ?_ h0 ?_ ?_ ?_) <;> omega | (with_reducible refine nh_none ?_ h0 ?_ ?_) <;> omega | (with_reducible refine nh_small ?_ h0 ?_ ?_ ?_) <;> omega)
/-- the tree that the walk makes of the def that makes a single short -/
@[reducible] def shortT (k x : Int) : Int :=
    (if k = 1 ∧ x % 4294967296 / 8388608 % 256 * 8388608 = 2139095040 ∧ ¬ x % 4294967296 % 8388608 = 0 then Builtin.bitOr (x % 4294967296 / 2147483648 * 32768 + 31744 + 512) (x % 4294967296 % 8388608 / 8192)
     else if k = 1 ∧ x % 4294967296 / 8388608 % 256 * 8388608 = 2139095040 ∧ x % 4294967296 % 8388608 = 0 then x % 4294967296 / 2147483648 * 32768 + 31744
     else if k = 1 ∧ ¬ x % 4294967296 / 8388608 % 256 * 8388608 = 2139095040 ∧ 1199570944 ≤ x % 4294967296 % 2147483648 then x % 4294967296 / 2147483648 * 32768 + 31744
     else if k = 1 ∧ ¬ x % 4294967296 / 8388608 % 256 * 8388608 = 2139095040 ∧ ¬ 1199570944 ≤ x % 4294967296 % 2147483648 ∧ 112 < x % 4294967296 % 2147483648 / 8388608 then Builtin.bitOr (x % 4294967296 / 2147483648 * 32768) (nearI (x % 4294967296 % 2147483648 - 112 * 8388608) 13)
     else if k = 1 ∧ ¬ x % 4294967296 / 8388608 % 256 * 8388608 = 2139095040 ∧ ¬ 1199570944 ≤ x % 4294967296 % 2147483648 ∧ ¬ 112 < x % 4294967296 % 2147483648 / 8388608 ∧ x % 4294967296 % 2147483648 / 8388608 = 0 then x % 4294967296 / 2147483648 * 32768 + 0
     else if k = 1 ∧ ¬ x % 4294967296 / 8388608 % 256 * 8388608 = 2139095040 ∧ ¬ 1199570944 ≤ x % 4294967296 % 2147483648 ∧ ¬ 112 < x % 4294967296 % 2147483648 / 8388608 ∧ ¬ x % 4294967296 % 2147483648 / 8388608 = 0 then Builtin.bitOr (x % 4294967296 / 2147483648 * 32768) (nearI (x % 4294967296 % 2147483648 % 8388608 + 8388608) (126 - x % 4294967296 % 2147483648 / 8388608))
     else if x % 4294967296 / 8388608 % 256 * 8388608 = 0 then x % 4294967296 / 2147483648 * 32768
     else if x % 4294967296 / 8388608 % 256 * 8388608 = 2139095040 ∧ ¬ x % 4294967296 % 8388608 = 0 then Builtin.bitOr (x % 4294967296 / 65536) 64
     else if x % 4294967296 / 8388608 % 256 * 8388608 = 2139095040 ∧ x % 4294967296 % 8388608 = 0 then nearI (x % 4294967296) 16
     else nearI (x % 4294967296) 16)
theorem join_turn {n k i : Int} {e o pre ans : List Int} (hl : 4096 < n ∨ ((e.length : Int) = n ∧ (o.length : Int) = n)) (hm : n ≤ 4096) (hk : k = 0 ∨ k = 1) (hbe : Bnd e 4294967295) (hbo : Bnd o 4294967295)
    (h : Joined k e o pre ans) (hi : i = 0 + (pre.length : Int)) (hlt : pre.length < (n - 0).toNat) :
    (ans ++ [shortT k (e.getD i.toNat 0)] ++ [shortT k (o.getD i.toNat 0)]).length = 1 + 2 * (pre ++ [i]).length ∧ Joined k e o (pre ++ [i]) (ans ++ [shortT k (e.getD i.toNat 0)] ++ [shortT k (o.getD i.toNat 0)]) := by
  have b1 := hbe.at (k := i) (by omega) (by omega)
  have b2 := hbo.at (k := i) (by omega) (by omega)
  exact join_more h hi (narrow_fun hk b1.1 b1.2) (narrow_fun hk b2.1 b2.2)
theorem end_none {k : Int} {l : List Int} (h : l = [0, 0, 0, 0, 0, 0, 0, 0]) :
    ofPy (PyData.list [PyData.int 0, PyData.int 0, PyData.int 0, PyData.int 0, PyData.int 0, PyData.int 0, PyData.int 0, PyData.int 0]) = WData.list (List.map WData.int l) := by
  rw [h]
  rfl
theorem end_one {k v : Int} {ns : List Int} (h : k = 0 ∨ k = 1) (hv : v = wideI k (ns.getD (Int.toNat 0) 0)) :
    ofPy (PyData.list [PyData.int v, PyData.int v, PyData.int v, PyData.int v, PyData.int v, PyData.int v, PyData.int v, PyData.int v]) = WData.list (List.map WData.int (PyQl07.sn_one k ns)) := by
  rw [← one_end h hv]
  rfl
theorem end_refused {l : List Int} (h : l = [-2]) : ofPy (PyData.list [PyData.int (-2)]) = WData.list (List.map WData.int l) := by
  rw [h]
  rfl
theorem end_wide {k : Int} {ns : List Int} {g : Int → Int} (h : k = 0 ∨ k = 1) (hl : ns.length ≤ 4096) (hg : ∀ x ∈ ns, g x = wideI k x) : [0] ++ List.map g ns = PyQl07.sn_wide k ns := by
  rw [wide_due h hl, List.map_congr_left hg]
  rfl
theorem end_narrow {k : Int} {ns : List Int} {g : Int → Int} (h : k = 0 ∨ k = 1) (hl : ns.length ≤ 4096) (hg : ∀ x ∈ ns, g x = narrowI k x) : [0] ++ List.map g ns = PyQl07.sn_narrow k ns := by
  rw [narrow_due h hl, List.map_congr_left hg]
  rfl
theorem end_short {k : Int} {ns : List Int} {g : Int → Int} (h : k = 0 ∨ k = 1) (hg : ∀ x ∈ ns, g x = narrowI k x) : List.map g ns = PyQl07.sn_short k ns := by
  rw [short_due h, List.map_congr_left hg]
theorem end_split {n k : Int} {ns : List Int} {g g' : Int → Int} (h : k = 0 ∨ k = 1) (h0 : 0 ≤ n) (hn : n ≤ 4096) (hl : (ns.length : Int) = 2 * n)
    (hg : ∀ i, 0 ≤ i → i < n → g i = wideI k (ns.getD (2 * i + 0).toNat 0)) (hg' : ∀ i, 0 ≤ i → i < n → g' i = wideI k (ns.getD (2 * i + 1).toNat 0)) :
    [0] ++ List.map g (rangeKs 0 (n - 0).toNat) ++ List.map g' (rangeKs 0 (n - 0).toNat) = PyQl07.sn_split n k ns := by
  rw [← split_due h h0 hn hl g g' (fun i a b => by rw [hg i a b, Int.add_zero]) hg']
  have e : (n - 0).toNat = n.toNat := by rw [Int.sub_zero]
  rw [e]
  unfold rangeKs
  rw [List.map_map, List.map_map]
  have q : ∀ f : Int → Int, (f ∘ fun (i : Nat) => (0 : Int) + (i : Int)) = fun i : Nat => f (i : Int) := by
    intro f
    funext i
    show f (0 + (i : Int)) = f i
    rw [Int.zero_add]
  rw [q, q]
  rfl
end Wd
open PySem PySem.W PyProof.Rows
local macro_rules | `(tactic| walk_at "subscriptTail") => `(tactic| (k_here; (with_reducible show wpAny _ _ (subscriptTail _ _ (Value.ref _) (Value.int _ _)) _ _ _); (with_unfolding_all refine' Wd.my_item ?k0 ?k1 ?k2 ?k3 ?k4 ?k5 ?_ ?k6; (case k1 => is_list); (case k2 => l_ints); (case k0 => assumption); (case k3 => l_idx); (case k4 => l_idx); (case k5 => l_idx); (case k6 => with_unfolding_all rfl); k_whole); intro _))
local macro_rules | `(tactic| walk_at "subscriptTail Name BinOp ref int") => `(tactic| (k_here; (with_reducible show wpAny _ _ (subscriptTail _ _ (Value.ref _) (Value.int _ _)) _ _ _); (with_unfolding_all refine' Wd.my_item ?k0 ?k1 ?k2 ?k3 ?k4 ?k5 ?_ ?k6; (case k1 => is_list); (case k2 => l_ints); (case k0 => assumption); (case k3 => l_idx); (case k4 => l_idx); (case k5 => l_idx); (case k6 => with_unfolding_all rfl); k_whole); intro _))
local macro_rules | `(tactic| walk_at "subscriptTail Name Name ref int") => `(tactic| (k_here; (with_reducible show wpAny _ _ (subscriptTail _ _ (Value.ref _) (Value.int _ _)) _ _ _); (with_unfolding_all refine' Wd.my_item ?k0 ?k1 ?k2 ?k3 ?k4 ?k5 ?_ ?k6; (case k1 => is_list); (case k2 => l_ints); (case k0 => assumption); (case k3 => l_idx); (case k4 => l_idx); (case k5 => l_idx); (case k6 => with_unfolding_all rfl); k_whole); intro _))
local macro_rules | `(tactic| walk_at "subscriptTail Name Constant ref int") => `(tactic| (k_here; (with_reducible show wpAny _ _ (subscriptTail _ _ (Value.ref _) (Value.int _ _)) _ _ _); (with_unfolding_all refine' Wd.my_item ?k0 ?k1 ?k2 ?k3 ?k4 ?k5 ?_ ?k6; (case k1 => is_list); (case k2 => l_ints); (case k0 => assumption); (case k3 => l_idx); (case k4 => l_idx); (case k5 => l_idx); (case k6 => with_unfolding_all rfl); k_whole); intro _))
local macro_rules | `(tactic| walk_at "CompSrc") => `(tactic| (k_here; (try k_fmods); (try kcf_lens); k_dflt ((refine LCg.CompSrc.base (by rfl) (by k_asm) (by k_asm) (by assumption) (by size_fits) ?_); intro g'; (refine' kcf_list _ (by assumption) (fun k' t' I' oI' C' oC' D' m' ys' h' tk' E' hk' hC' hx' F' N' off' ne' hMark' => ?_) ?_); (all_goals (try ((have em' := Wd.Bnd.mod (by assumption) hk'); (rw [em'] at hx'); (clear em')))); (all_goals (try (simp only [LCg.Off3, and_true] at off'))); kcf_last)))
local macro_rules | `(tactic| walk_at "binaryOp BitAnd int int") => `(tactic| (k_here; first
  | ((with_reducible show wpAny _ _ (binaryOp Operator.BitAnd (Value.int _ _) (Value.int 1023 _)) _ _ _); k_dflt (refine Wd.step_and 10 1023 1024 (by decide) (by decide) ?_))
  | ((with_reducible show wpAny _ _ (binaryOp Operator.BitAnd (Value.int _ _) (Value.int 8388607 _)) _ _ _); k_dflt (refine Wd.step_and 23 8388607 8388608 (by decide) (by decide) ?_))
  | ((with_reducible show wpAny _ _ (binaryOp Operator.BitAnd (Value.int _ _) (Value.int (2139095040 + 8388607) _)) _ _ _); k_dflt (refine Wd.step_and 31 (2139095040 + 8388607) 2147483648 (by decide) (by decide) ?_))
  | ((with_reducible show wpAny _ _ (binaryOp Operator.BitAnd (Value.int _ _) (Value.int 2147483647 _)) _ _ _); k_dflt (refine Wd.step_and 31 2147483647 2147483648 (by decide) (by decide) ?_))
  | ((with_reducible show wpAny _ _ (binaryOp Operator.BitAnd (Value.int _ _) (Value.int 31744 _)) _ _ _); k_dflt (refine Wd.step_field 10 5 31744 32 1024 (by decide) (by decide) (by decide) (by omega) ?_))
  | ((with_reducible show wpAny _ _ (binaryOp Operator.BitAnd (Value.int _ _) (Value.int 2139095040 _)) _ _ _); k_dflt (refine Wd.step_field 23 8 2139095040 256 8388608 (by decide) (by decide) (by decide) (by omega) ?_))))
local macro_rules | `(tactic| walk_at "binaryOp RShift int int") => `(tactic| (k_here; first
  | ((with_reducible show wpAny _ _ (binaryOp Operator.RShift (Value.int _ _) (Value.int 15 _)) _ _ _); k_dflt (refine Wd.step_shr 15 32768 (by decide) (by decide) (by decide) ?_))
  | ((with_reducible show wpAny _ _ (binaryOp Operator.RShift (Value.int _ _) (Value.int 10 _)) _ _ _); k_dflt (refine Wd.step_shr 10 1024 (by decide) (by decide) (by decide) ?_))
  | ((with_reducible show wpAny _ _ (binaryOp Operator.RShift (Value.int _ _) (Value.int 13 _)) _ _ _); k_dflt (refine Wd.step_shr 13 8192 (by decide) (by decide) (by decide) ?_))
  | ((with_reducible show wpAny _ _ (binaryOp Operator.RShift (Value.int _ _) (Value.int 16 _)) _ _ _); k_dflt (refine Wd.step_shr 16 65536 (by decide) (by decide) (by decide) ?_))
  | ((with_reducible show wpAny _ _ (binaryOp Operator.RShift (Value.int _ _) (Value.int 23 _)) _ _ _); k_dflt (refine Wd.step_shr 23 8388608 (by decide) (by decide) (by decide) ?_))
  | ((with_reducible show wpAny _ _ (binaryOp Operator.RShift (Value.int _ _) (Value.int 31 _)) _ _ _); k_dflt (refine Wd.step_shr 31 2147483648 (by decide) (by decide) (by decide) ?_))
  | k_dflt (refine Wd.step_shrv (by omega) (by omega) (by omega) ?_)))
local macro_rules | `(tactic| walk_at "binaryOp LShift int int") => `(tactic| (k_here; first
  | ((with_reducible show wpAny _ _ (binaryOp Operator.LShift (Value.int _ _) (Value.int 31 _)) _ _ _); k_dflt (refine Wd.step_shl 31 2147483648 (by decide) (by decide) (by decide) (by omega) (by omega) ?_))
  | ((with_reducible show wpAny _ _ (binaryOp Operator.LShift (Value.int _ _) (Value.int 23 _)) _ _ _); k_dflt (refine Wd.step_shl 23 8388608 (by decide) (by decide) (by decide) (by omega) (by omega) ?_))
  | ((with_reducible show wpAny _ _ (binaryOp Operator.LShift (Value.int _ _) (Value.int 16 _)) _ _ _); k_dflt (refine Wd.step_shl 16 65536 (by decide) (by decide) (by decide) (by omega) (by omega) ?_))
  | ((with_reducible show wpAny _ _ (binaryOp Operator.LShift (Value.int _ _) (Value.int 15 _)) _ _ _); k_dflt (refine Wd.step_shl 15 32768 (by decide) (by decide) (by decide) (by omega) (by omega) ?_))
  | ((with_reducible show wpAny _ _ (binaryOp Operator.LShift (Value.int _ _) (Value.int 13 _)) _ _ _); k_dflt (refine Wd.step_shl 13 8192 (by decide) (by decide) (by decide) (by omega) (by omega) ?_))
  | k_dflt (refine Wd.step_shlv (by omega) (by omega) (by omega) (by omega) ?_)))
local macro_rules | `(tactic| walk_at "binaryOp BitOr int int") => `(tactic| (k_here; (with_reducible show wpAny _ _ (binaryOp Operator.BitOr (Value.int _ _) (Value.int _ _)) _ _ _); first
  | k_dflt (refine Wd.step_or 31 2147483648 (by decide) (by omega) (by omega) (by omega) (by omega) ?_)
  | k_dflt (refine Wd.step_or 23 8388608 (by decide) (by omega) (by omega) (by omega) (by omega) ?_)
  | k_dflt (refine Wd.step_or 15 32768 (by decide) (by omega) (by omega) (by omega) (by omega) ?_)
  | k_dflt (refine Wd.step_or 10 1024 (by decide) (by omega) (by omega) (by omega) (by omega) ?_)
  | k_dflt (refine Wd.step_ro 23 8388608 (by decide) (by omega) (by omega) (by omega) (by omega) ?_)))
local macro_rules | `(tactic| walk_at "call builtin:int.bit_length") => `(tactic| (k_here; k_dflt (refine Wd.step_bits (by omega) (by omega) ?_); intro hb0' hb1'))
local macro_rules | `(tactic| walk_at "eval ListComp") => `(tactic| (k_here; k_dflt (refine LCg.ListComp_U (F₀ := by k_asm) (by with_unfolding_all rfl) (by decide) (by rfl) (by decide) (by rfl) ?_)))
local macro_rules | `(tactic| walk_at "newList") => `(tactic| (k_here; (rename (if 4096 < (_ : Int) then decide (4096 < (_ : Int)) else !(if (_ : Int) = 0 then ((_ : Int) == 0) else ((_ : Int) == 1))) = false => hq'); (have hr' := Wd.not_refused hq'); (clear hq'); (obtain ⟨hm', hk'⟩ := hr'); walk_at "newList"))
local macro_rules | `(tactic| walk_at "binaryOp Mod int int") => `(tactic| (k_here; (with_reducible show wpAny _ _ (binaryOp Operator.Mod (Value.int _ _) (Value.int 2 _)) _ _ _); k_dflt (refine Wd.step_mod2 ?_)))
local macro_rules | `(tactic| walk_at "eval Call") => `(tactic| (k_here; (with_reducible show wpAny _ _ (eval (PySem.Expr.Call (PySem.Expr.Name (Str.ofString "single_to_short") _) _ _ _) _) _ _ _); (fail_if_success (with_reducible rename KPfMark => hz')); (rename Fr _ _ _ _ => cF'); (rename News _ _ _ _ => cN'); (refine' kcj (fun (b : Int) (t : PySem.Tok) => Value.int b t) _ cF' cN' (fun u' hMark' => ?_) ?_); kcf_last))
local macro_rules | `(tactic| walk_at "KCj") => `(tactic| (kpf_tidy; first | ((refine kcj_end ?kce (by with_unfolding_all rfl) rfl (by assumption) (by assumption) (by (with_reducible exact fun _ hp => hp))); (case kce => kpf_eq)) | ((refine kcj_end (t := (0 : Nat)) ?kce (by with_unfolding_all rfl) rfl (by assumption) (by assumption) (by (with_reducible exact fun _ hp => hp))); (case kce => kpf_eq))))
set_option maxRecDepth 100000 in
set_option maxHeartbeats 8000000 in
theorem PySem.Challenge.cw_shortpair_s08_sn_join_holds : PySem.Challenge.rw_shortpair_s08_sn_join.Holds := by
  k_with "call ref" => k_call_by "without_last_bits" Wd.nearI (fun (n d : Int) => 0 ≤ n ∧ n < 4294967296 ∧ 1 ≤ d ∧ d ≤ 125)
  k_with "tree" => (first
    | exact Wd.near_up (by omega) (by omega) (by omega) (by omega) | exact Wd.near_stay (by omega) (by omega) (by omega) (by omega))
  k_with "state" => first
    | exact Wd.join_start
    | exact Wd.join_turn hlen (by assumption) (by assumption) hbe hbo (by assumption) (by first | assumption | omega) (by first | assumption | omega)
  k_with "pyIter ref" => k_state_given ["kind"] (fun kind pre answer => answer.length = 1 + 2 * pre.length ∧ Wd.Joined kind (Wd.Bnd.lst hbe) (Wd.Bnd.lst hbo) pre answer) "answer"
  w_on; k_headS
  (case hw => exact ⟨[.int 0, .int 0, .list [], .list []], by decide +kernel, by decide +kernel⟩)
  w_strict (k_goS0; (all_goals (with_reducible rename OpenSpec.pre _ _ = true => hP; have hB := Wd.facts hP; obtain ⟨hn0, hn1, hlen, hbe, hbo⟩ := hB)); (all_goals try k_fold); k_steps; all_goals sp_left)
  all_goals (refine Wd.ends hpre ?_; first
    | (exact Wd.end_refused (Wd.join_not (Wd.refused (by assumption))))
    | (refine Wd.wd_list (Wd.end_join (by omega) hn0 (by omega) (by omega) (by omega) ?_); first | assumption | exact And.right (by assumption)))
#print axioms PySem.Challenge.cw_shortpair_s08_sn_join_holds
