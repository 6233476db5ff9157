import PyProof.Rows.All
import Wide.All
import OpenK.AllK
import Wide.FinOn
import KE.OsGo
import KE.OsArgs
import PySem.Challenge.RW_shortpair_s02_sn_odd
set_option Elab.async false
namespace Wd
open PySem PySem.W PySem.Calls PyProof.Rows
theorem nat_or_add (a b k : Nat) (h : b < 2 ^ k) : (a * 2 ^ k) ||| b = a * 2 ^ k + b := by
  rw [Nat.mul_comm]
  exact (Nat.two_pow_add_eq_or_of_lt h a).symm
/-- a number that ends in k noughts, or one below 2^k: their sum -/
theorem or_add (a b : Int) (k : Nat) (c : Int) (hc : (2 : Int) ^ k = c) (ha : 0 ≤ a) (hb : 0 ≤ b) (h : b < c) :
    Builtin.bitOr (a * c) b = a * c + b := by
  subst hc
  obtain ⟨a, rfl⟩ := Int.eq_ofNat_of_zero_le ha
  obtain ⟨b, rfl⟩ := Int.eq_ofNat_of_zero_le hb
  have e : ((2 ^ k : Nat) : Int) = (2 : Int) ^ k := by simp
  have e2 : ((a : Int) * 2 ^ k) = ((a * 2 ^ k : Nat) : Int) := by simp
  have hlt : b < 2 ^ k := by
    rw [← e] at h
    exact Int.ofNat_lt.mp h
  have hz : (a * 2 ^ k) &&& b = 0 := by
    have h1 := nat_or_add_and (a * 2 ^ k) b
    rw [nat_or_add a b k hlt] at h1
    omega
  rw [bitOr_and, e2, bitAnd_pp (Int.natCast_nonneg _) (Int.natCast_nonneg _)]
  simp only [Int.toNat_natCast]
  rw [hz]
  simp
theorem or_sum {x y : Int} (k : Nat) (c : Int) (hc : (2 : Int) ^ k = c) (hx : x % c = 0) (h0 : 0 ≤ x) (h1 : 0 ≤ y) (h2 : y < c) : Builtin.bitOr x y = x + y := by
  have hcp : 0 < c := by omega
  have e : x = (x / c) * c := by
    have := Int.emod_def x c
    rw [Int.mul_comm]
    omega
  rw [e]
  exact or_add _ _ k c hc (Int.ediv_nonneg h0 (by omega)) h1 h2
theorem or_nat (a b : Nat) : Builtin.bitOr (a : Int) (b : Int) = ((a ||| b : Nat) : Int) := by
  rw [bitOr_and, bitAnd_pp (Int.natCast_nonneg _) (Int.natCast_nonneg _)]
  simp only [Int.toNat_natCast]
  have := nat_or_add_and a b
  omega
theorem bits_nat (f : Nat) : Builtin.Int.intBits (f : Int) = Ql07.bits f := by
  unfold Builtin.Int.intBits Ql07.bits
  by_cases h : f = 0
  · subst h; rfl
  · have h2 : ((f : Int) == 0) = false := by
      simp only [beq_eq_false_iff_ne, ne_eq]; omega
    rw [h2, if_neg h]
    simp
theorem bits_small : ∀ f : Nat, f < 1024 → Ql07.bits f ≤ 10 := by decide +kernel
theorem bits_le10 {x : Int} (h0 : 0 ≤ x) (h1 : x < 1024) : (Builtin.Int.intBits x : Int) ≤ 10 := by
  obtain ⟨f, rfl⟩ := Int.eq_ofNat_of_zero_le h0
  rw [show Builtin.Int.intBits ((f : Nat) : Int) = Ql07.bits f from bits_nat f]
  have := bits_small f (by omega)
  omega
theorem small_half : ∀ f : Nat, f < 1024 → f ≠ 0 →
    (Ql07.bits f + 102) * 2 ^ 23 + (f * 2 ^ (24 - Ql07.bits f)) % 8388608 = (Ql07.bits f + 102) * 2 ^ 23 + (f * 2 ^ (24 - Ql07.bits f) - 2 ^ 23) := by
  decide +kernel
theorem nan_half : ∀ f : Nat, f < 1024 → (2143289344 ||| f * 8192) = 255 * 2 ^ 23 + (f * 2 ^ 13 ||| 2 ^ 22) ∧ (2143289344 ||| f * 8192) < 2147483648 := by
  decide +kernel
/-- the document's way from a short number to a single, over whole numbers -/
def wideI (kind short : Int) : Int := ((Ql07.wide kind.toNat short.toNat : Nat) : Int)
theorem wideI0 {s : Int} (h0 : 0 ≤ s) : wideI 0 s = s * 65536 := by
  obtain ⟨n, rfl⟩ := Int.eq_ofNat_of_zero_le h0
  show ((Ql07.wide 0 n : Nat) : Int) = _
  unfold Ql07.wide
  rw [if_pos rfl]
  omega
theorem wideI1 {n : Nat} : wideI 1 (n : Int) = ((Ql07.wideH n : Nat) : Int) := by
  show ((Ql07.wide 1 n : Nat) : Int) = _
  unfold Ql07.wide
  rw [if_neg (by decide)]
theorem cast_mod (f j : Nat) : ((f : Int) * 2 ^ j % 8388608) = ((f * 2 ^ j % 8388608 : Nat) : Int) := by
  simp
theorem way_zero {s : Int} (h0 : 0 ≤ s) (h1 : s ≤ 65535) (he : s / 1024 % 32 = 0) (hf : s % 1024 = 0) : s / 32768 * 2147483648 + 0 = wideI 1 s := by
  obtain ⟨n, rfl⟩ := Int.eq_ofNat_of_zero_le h0
  rw [wideI1]
  unfold Ql07.wideH Ql07.sign16 Ql07.expoH Ql07.fracH
  rw [if_neg (by omega), if_pos (by omega), if_pos (by omega)]
  omega
theorem way_small {s : Int} (h0 : 0 ≤ s) (h1 : s ≤ 65535) (he : s / 1024 % 32 = 0) (hf : ¬ s % 1024 = 0) :
    s / 32768 * 2147483648 + (((Builtin.Int.intBits (s % 1024) : Int) + 102) * 8388608 + s % 1024 * 2 ^ (24 - (Builtin.Int.intBits (s % 1024) : Int)).toNat % 8388608) = wideI 1 s := by
  obtain ⟨n, rfl⟩ := Int.eq_ofNat_of_zero_le h0
  rw [wideI1]
  unfold Ql07.wideH Ql07.sign16 Ql07.expoH Ql07.fracH
  rw [if_neg (by omega), if_pos (by omega), if_neg (by omega)]
  have e1 : ((n : Int) % 1024) = ((n % 1024 : Nat) : Int) := by omega
  have hb := bits_small (n % 1024) (by omega)
  have sh := small_half (n % 1024) (by omega) (by omega)
  rw [e1, bits_nat]
  have e2 : (24 - ((Ql07.bits (n % 1024) : Nat) : Int)).toNat = 24 - Ql07.bits (n % 1024) := by omega
  rw [e2]
  have e3 := cast_mod (n % 1024) (24 - Ql07.bits (n % 1024))
  rw [e3]
  show _ = ((n / 2 ^ 15 % 2 * 2 ^ 31 + ((Ql07.bits (n % 2 ^ 10) + 102) * 2 ^ 23 + (n % 2 ^ 10 * 2 ^ (24 - Ql07.bits (n % 2 ^ 10)) - 2 ^ 23)) : Nat) : Int)
  rw [show (2 : Nat) ^ 10 = 1024 from rfl, ← sh]
  generalize (n % 1024 * 2 ^ (24 - Ql07.bits (n % 1024)) % 8388608) = z
  omega
theorem way_inf {s : Int} (h0 : 0 ≤ s) (h1 : s ≤ 65535) (he : s / 1024 % 32 = 31) (hf : s % 1024 = 0) : s / 32768 * 2147483648 + 2139095040 = wideI 1 s := by
  obtain ⟨n, rfl⟩ := Int.eq_ofNat_of_zero_le h0
  rw [wideI1]
  unfold Ql07.wideH Ql07.sign16 Ql07.expoH Ql07.fracH
  rw [if_pos (by omega), if_pos (by omega)]
  omega
theorem way_nan {s : Int} (h0 : 0 ≤ s) (h1 : s ≤ 65535) (he : s / 1024 % 32 = 31) (hf : ¬ s % 1024 = 0) :
    Builtin.bitOr (s / 32768 * 2147483648) (Builtin.bitOr (2139095040 + 4194304) (s % 1024 * 8192)) = wideI 1 s := by
  obtain ⟨n, rfl⟩ := Int.eq_ofNat_of_zero_le h0
  rw [wideI1]
  unfold Ql07.wideH Ql07.sign16 Ql07.expoH Ql07.fracH
  rw [if_pos (by omega), if_neg (by omega)]
  obtain ⟨a1, a2⟩ := nan_half (n % 1024) (by omega)
  have e1 : Builtin.bitOr (2139095040 + 4194304) ((n : Int) % 1024 * 8192) = ((2143289344 ||| n % 1024 * 8192 : Nat) : Int) := by
    have e2 : ((n : Int) % 1024 * 8192) = ((n % 1024 * 8192 : Nat) : Int) := by omega
    rw [e2]
    exact or_nat 2143289344 _
  rw [e1, or_sum 31 2147483648 (by decide) (by omega) (by omega) (by omega) (by omega), a1]
  show _ = ((n / 2 ^ 15 % 2 * 2 ^ 31 + (255 * 2 ^ 23 + (n % 1024 * 2 ^ 13 ||| 2 ^ 22)) : Nat) : Int)
  generalize (n % 1024 * 2 ^ 13 ||| 2 ^ 22) = z
  omega
theorem way_plain {s : Int} (h0 : 0 ≤ s) (h1 : s ≤ 65535) (he : ¬ s / 1024 % 32 = 0) (hf : ¬ s / 1024 % 32 = 31) :
    s / 32768 * 2147483648 + (s / 1024 % 32 + 112) * 8388608 + s % 1024 * 8192 = wideI 1 s := by
  obtain ⟨n, rfl⟩ := Int.eq_ofNat_of_zero_le h0
  rw [wideI1]
  unfold Ql07.wideH Ql07.sign16 Ql07.expoH Ql07.fracH
  rw [if_neg (by omega), if_neg (by omega)]
  omega
/-- the two helpers, by the document's way -/
def smallI (f : Int) : Int := wideI 1 (f % 1024)
def endlessI (f : Int) : Int := wideI 1 (31744 + f % 1024)
def halfI (s : Int) : Int := wideI 1 s
theorem wide_low : ∀ n : Nat, n < 1024 → Ql07.wideH n < 2147483648 ∧ Ql07.wideH (31744 + n) < 2147483648 := by decide +kernel
theorem smallI_in (f : Int) : 0 ≤ smallI f ∧ smallI f < 2147483648 := by
  have h := wide_low (f % 1024).toNat (by omega)
  unfold smallI
  have e : f % 1024 = (((f % 1024).toNat : Nat) : Int) := by omega
  rw [e, wideI1]
  omega
theorem endlessI_in (f : Int) : 0 ≤ endlessI f ∧ endlessI f < 2147483648 := by
  have h := wide_low (f % 1024).toNat (by omega)
  unfold endlessI
  have e : 31744 + f % 1024 = ((31744 + (f % 1024).toNat : Nat) : Int) := by omega
  rw [e, wideI1]
  omega
theorem small_z {f : Int} (h : f = 0) : 0 = smallI f := by
  subst h
  decide +kernel
theorem small_n {f : Int} (h0 : 0 ≤ f) (h1 : f < 1024) (h : ¬ f = 0) : ((Builtin.Int.intBits f : Int) + 102) * 8388608 + f * 2 ^ (24 - (Builtin.Int.intBits f : Int)).toNat % 8388608 = smallI f := by
  unfold smallI
  have e : f % 1024 = f := by omega
  rw [e]
  have q := way_small (s := f) h0 (by omega) (by omega) (by omega)
  have z : f / 32768 = 0 := by omega
  rw [e, z] at q
  rw [← q]
  omega
theorem endless_z {f : Int} (h : f = 0) : 2139095040 = endlessI f := by
  subst h
  decide +kernel
theorem endless_n {f : Int} (h0 : 0 ≤ f) (h1 : f < 1024) (h : ¬ f = 0) : Builtin.bitOr (2139095040 + 4194304) (f * 8192) = endlessI f := by
  unfold endlessI
  have e : f % 1024 = f := by omega
  rw [e]
  have q := way_nan (s := 31744 + f) (by omega) (by omega) (by omega) (by omega)
  have z : (31744 + f) / 32768 = 0 := by omega
  have z2 : (31744 + f) % 1024 = f := by omega
  rw [z, z2, Int.zero_mul] at q
  rw [← q, PyProof.Rows.bitOr_comm 0, bitOr_and _ 0, bitAnd_zero]
  omega
theorem half_s {s : Int} (h0 : 0 ≤ s) (h1 : s ≤ 65535) (he : s / 1024 % 32 = 0) : s / 32768 * 2147483648 + smallI (s % 1024) = halfI s := by
  by_cases hf : s % 1024 = 0
  · rw [← small_z hf]
    exact way_zero h0 h1 he hf
  · rw [← small_n (by omega) (by omega) hf]
    exact way_small h0 h1 he hf
theorem half_e {s : Int} (h0 : 0 ≤ s) (h1 : s ≤ 65535) (he : s / 1024 % 32 = 31) : s / 32768 * 2147483648 + endlessI (s % 1024) = halfI s := by
  by_cases hf : s % 1024 = 0
  · rw [← endless_z hf]
    exact way_inf h0 h1 he hf
  · have b := endlessI_in (s % 1024)
    have q := way_nan h0 h1 he hf
    rw [endless_n (by omega) (by omega) hf, or_sum 31 2147483648 (by decide) (by omega) (by omega) (by omega) (by omega)] at q
    exact q
theorem half_p {s : Int} (h0 : 0 ≤ s) (h1 : s ≤ 65535) (he : ¬ s / 1024 % 32 = 0) (hf : ¬ s / 1024 % 32 = 31) :
    s / 32768 * 2147483648 + (s / 1024 % 32 + 112) * 8388608 + s % 1024 * 8192 = halfI s := way_plain h0 h1 he hf
theorem wide_h {k s : Int} (h : k = 1) : halfI s = wideI k s := by subst h; rfl
theorem wide_b {k s : Int} (h : k = 0) (h0 : 0 ≤ s) : s * 65536 = wideI k s := by subst h; exact (wideI0 h0).symm
def smallM (f : Int) : Int := smallI f % 2147483648
def endlessM (f : Int) : Int := endlessI f % 2147483648
theorem smallM_eq (f : Int) : smallM f = smallI f := by have := smallI_in f; unfold smallM; omega
theorem endlessM_eq (f : Int) : endlessM f = endlessI f := by have := endlessI_in f; unfold endlessM; omega
theorem smallM_z {f : Int} (h : f = 0) : 0 = smallM f := by rw [smallM_eq]; exact small_z h
theorem smallM_n {f : Int} (h0 : 0 ≤ f) (h1 : f < 1024) (h : ¬ f = 0) : ((Builtin.Int.intBits f : Int) + 102) * 8388608 + f * 2 ^ (24 - (Builtin.Int.intBits f : Int)).toNat % 8388608 = smallM f := by
  rw [smallM_eq]; exact small_n h0 h1 h
theorem endlessM_z {f : Int} (h : f = 0) : 2139095040 = endlessM f := by rw [endlessM_eq]; exact endless_z h
theorem endlessM_n {f : Int} (h0 : 0 ≤ f) (h1 : f < 1024) (h : ¬ f = 0) : Builtin.bitOr (2139095040 + 4194304) (f * 8192) = endlessM f := by
  rw [endlessM_eq]; exact endless_n h0 h1 h
theorem said : PySem.Challenge.rw_shortpair_s02_sn_odd.wellSaid = true := by decide +kernel
/-- what is known of the request's list -/
structure Bnd (ns : List Int) (hi : Int) : Prop where
  all : ∀ x ∈ ns, 0 ≤ x ∧ x ≤ hi
theorem Bnd.at {ns : List Int} {hi : Int} (b : Bnd ns hi) {k : Int} (h0 : 0 ≤ k) (h1 : k < ns.length) : 0 ≤ ns.getD k.toNat 0 ∧ ns.getD k.toNat 0 ≤ hi := by
  have hk : k.toNat < ns.length := by omega
  rw [List.getD_eq_getElem?_getD, List.getElem?_eq_getElem hk, Option.getD_some]
  exact b.all _ (List.getElem_mem hk)
theorem facts {k : Int} {ns : List Int} (h : PySem.Challenge.rw_shortpair_s02_sn_odd.pre [WData.int k, ofPy (PyData.list (List.map PyData.int ns))] = true) :
    ns.length = 16 ∧ Bnd ns 65535 := by
  obtain ⟨a, w, q, e⟩ := os_pre said h
  obtain ⟨k', ns', u⟩ := a
  have e1 := os_j_int (List.cons.inj e).1
  have e2 := os_j_ints (List.cons.inj (List.cons.inj e).2).1
  subst e1 e2
  have w' : (Codec.inInt (-2147483648) 2147483647 k && ((Codec.inLen 16 16 ns && ns.all (Codec.inInt 0 65535)) && true)) = true := w
  simp only [Codec.inInt, Codec.inLen, Codec.inNat, Bool.and_eq_true, decide_eq_true_eq, List.all_eq_true, Bool.and_true] at w'
  obtain ⟨_, ⟨l1, l2⟩, h3⟩ := w'
  exact ⟨by omega, ⟨h3⟩⟩
section
variable {prog : Program} {w : World} {A : Around} {E : Value → Shared → Prop} {s : Shared} {x y : Int} {t u : Tok} {Q : Value → Shared → Prop}
/-- an item of the request, its bound told by a rest that changes nothing -/
theorem my_item16 {value slice : PySem.Expr} {l : Addr} {vs : List Value} {ns : List Int} {k : Int} (hb : Bnd ns 65535) (hl : s.heap.IsList l vs.toArray) (hi : IntsAre vs ns)
    (h0 : 0 ≤ k) (h1 : k < ns.length) (hfit : k < 2 ^ 63) (h : ∀ t, Q (.int (ns.getD k.toNat 0 % 65536) t) s)
    (hs : subscripted slice false (.ref l) (.int k u) = operate [.ref l, .int k u] (getItem (.ref l) (.int k u)) := by with_unfolding_all rfl) :
    wpAny (model prog w) A (subscriptTail value slice (.ref l) (.int k u)) Q E s := by
  refine item_anyK hl hi h0 h1 hfit (fun t => ?_) hs
  have b := hb.at h0 h1
  have e : ns.getD k.toNat 0 = ns.getD k.toNat 0 % 65536 := by omega
  rw [e]
  exact h t
end
section
variable {prog : Program} {w : World} {A : Around} {E : Value → Shared → Prop} {s : Shared} {x y : Int} {t u : Tok} {Q : Value → Shared → Prop}
theorem step_and (k : Nat) (m c : Int) (hm : (2 : Int) ^ k - 1 = m) (hc : (2 : Int) ^ k = c) (h : Q (.int (x % c) s.toks) { s with toks := s.toks + 1 }) :
    wpAny (model prog w) A (binaryOp .BitAnd (.int x t) (.int m u)) Q E s := by
  refine PyProof.Rows.and_int ?_
  rw [← hm, kbt_mask, hc]
  exact h
theorem step_shr (n c : Int) (hc : (2 : Int) ^ n.toNat = c) (hn : 0 ≤ n) (hp : 0 ≤ c) (h : Q (.int (x / c) s.toks) { s with toks := s.toks + 1 }) :
    wpAny (model prog w) A (binaryOp .RShift (.int x t) (.int n u)) Q E s := by
  refine PyProof.Rows.rshift_int hn ?_
  rw [hc, Int.fdiv_eq_ediv_of_nonneg x hp]
  exact h
theorem step_shl (n c : Int) (hc : (2 : Int) ^ n.toNat = c) (hn : 0 ≤ n) (hn2 : n ≤ 1000000) (h0 : 0 ≤ x) (h1 : x < 18446744073709551616) (h : Q (.int (x * c) s.toks) { s with toks := s.toks + 1 }) :
    wpAny (model prog w) A (binaryOp .LShift (.int x t) (.int n u)) Q E s := by
  refine PyProof.Rows.lshift_int_small hn hn2 (by omega) ?_
  rw [hc]
  exact h
theorem step_shlv {n : Int} (hn : 0 ≤ n) (hn2 : n ≤ 1000000) (h0 : 0 ≤ x) (h1 : x < 18446744073709551616) (h : Q (.int (x * 2 ^ n.toNat) s.toks) { s with toks := s.toks + 1 }) :
    wpAny (model prog w) A (binaryOp .LShift (.int x t) (.int n u)) Q E s :=
  PyProof.Rows.lshift_int_small hn hn2 (by omega) h
theorem step_or (k : Nat) (c : Int) (hc : (2 : Int) ^ k = c) (hx : x % c = 0) (h0 : 0 ≤ x) (h1 : 0 ≤ y) (h2 : y < c) (h : Q (.int (x + y) s.toks) { s with toks := s.toks + 1 }) :
    wpAny (model prog w) A (binaryOp .BitOr (.int x t) (.int y u)) Q E s := by
  refine PyProof.Rows.or_int ?_
  rw [or_sum k c hc hx h0 h1 h2]
  exact h
theorem step_bits (h0 : 0 ≤ x) (h1 : x < 1024) (h : 0 ≤ (Builtin.Int.intBits x : Int) → (Builtin.Int.intBits x : Int) ≤ 10 → Q (.int (Builtin.Int.intBits x) s.toks) { s with toks := s.toks + 1 }) :
    wpAny (model prog w) A (call (.builtin "int.bit_length") [.int x t]) Q E s :=
  PyProof.Rows.call_int_bit_length (h (by omega) (bits_le10 h0 h1))
end
theorem ends {k : Int} {ns : List Int} {d : WData} (h : PySem.Challenge.rw_shortpair_s02_sn_odd.pre [WData.int k, ofPy (PyData.list (List.map PyData.int ns))] = true)
    (e : d = WData.list (List.map WData.int (PyQl07.sn_odd k ns))) :
    PySem.Challenge.rw_shortpair_s02_sn_odd.post [WData.int k, ofPy (PyData.list (List.map PyData.int ns))] d = true := by
  obtain ⟨a, w, q, e0⟩ := os_pre said h
  obtain ⟨k', ns', u⟩ := a
  have e1 := os_j_int (List.cons.inj e0).1
  have e2 := os_j_ints (List.cons.inj (List.cons.inj e0).2).1
  subst e1 e2
  rw [e0]
  exact os_shut said w e
theorem sixteen {ns : List Int} (h : ns.length = 16) : ∃ a b c d e f g i j k l m n o p q, ns = [a, b, c, d, e, f, g, i, j, k, l, m, n, o, p, q] := by
  match ns, h with
  | [a, b, c, d, e, f, g, i, j, k, l, m, n, o, p, q], _ => exact ⟨a, b, c, d, e, f, g, i, j, k, l, m, n, o, p, q, rfl⟩
theorem told (k : Int) (ns : List Int) : PyQl07.sn_odd k ns = Ql07Neutral.shown (Ql07.spec (.odd (Ql07Neutral.nats ns) k)) := by
  unfold PyQl07.sn_odd Ql07Neutral.f
  rfl
theorem kind_none {k : Int} {ns : List Int} (h0 : ¬ k = 0) (h1 : ¬ k = 1) : PyQl07.sn_odd k ns = [0, 0, 0, 0, 0, 0, 0, 0] := by
  have e : Ql07.isKind k = false := by
    unfold Ql07.isKind
    simp only [Bool.or_eq_false_iff, beq_eq_false_iff_ne, ne_eq]
    exact ⟨h0, h1⟩
  rw [told]
  simp only [Ql07.spec, Ql07.vector, e, Bool.false_eq_true, if_false]
  rfl
theorem kind_some {k : Int} {ns : List Int} (h : k = 0 ∨ k = 1) (hl : ns.length = 16) (g : Int → Int) (hg : ∀ i, 0 ≤ i → i < 8 → g i = wideI k (ns.getD (2 * i + 1).toNat 0)) :
    List.map g (rangeKs 0 (8 - 0 : Int).toNat) = PyQl07.sn_odd k ns := by
  have e : Ql07.isKind k = true := by
    unfold Ql07.isKind
    simp only [Bool.or_eq_true, beq_iff_eq]
    exact h
  obtain ⟨a, b, c, d, a1, f, m, i, j, q, l, n, o, p, r, t, rfl⟩ := sixteen hl
  have r : rangeKs 0 (8 - 0 : Int).toNat = [0, 1, 2, 3, 4, 5, 6, 7] := by decide
  rw [r]
  simp only [List.map_cons, List.map_nil]
  rw [hg 0 (by decide) (by decide), hg 1 (by decide) (by decide), hg 2 (by decide) (by decide), hg 3 (by decide) (by decide), hg 4 (by decide) (by decide), hg 5 (by decide) (by decide), hg 6 (by decide) (by decide), hg 7 (by decide) (by decide)]
  rw [told]
  simp only [Ql07.spec, Ql07.vector, e, if_true]
  rfl
theorem wd_list {l k : List Int} (h : l = k) : WData.list (ofPys (List.map PyData.int l)) = WData.list (List.map WData.int k) := by
  subst h
  rw [ofPys_ints]
theorem end_none {k : Int} {ns : List Int} (h0 : ¬ k = 0) (h1 : ¬ k = 1) :
    ofPy (PyData.list [PyData.int 0, PyData.int 0, PyData.int 0, PyData.int 0, PyData.int 0, PyData.int 0, PyData.int 0, PyData.int 0]) = WData.list (List.map WData.int (PyQl07.sn_odd k ns)) := by
  rw [kind_none h0 h1]
  rfl
theorem fun_b {k x : Int} {z : Int} (h : k = 0) (h0 : 0 ≤ x) (h1 : x ≤ 65535) : (if k = 1 then z else x % 65536 * 65536) = wideI k x := by
  rw [if_neg (by omega), ← wide_b h h0]
  omega
theorem fun_h {k x : Int} (h : k = 1) (h0 : 0 ≤ x) (h1 : x ≤ 65535) :
    (if k = 1 ∧ x % 65536 / 1024 % 32 = 0 then Builtin.bitOr (x % 65536 / 32768 * 2147483648) (smallM (x % 65536 % 1024))
     else if x % 65536 / 1024 % 32 = 31 then Builtin.bitOr (x % 65536 / 32768 * 2147483648) (endlessM (x % 65536 % 1024))
     else x % 65536 / 32768 * 2147483648 + (x % 65536 / 1024 % 32 + 112) * 8388608 + x % 65536 % 1024 * 8192) = wideI k x := by
  have e : x % 65536 = x := by omega
  rw [e, smallM_eq, endlessM_eq, ← wide_h h]
  have b1 := smallI_in (x % 1024)
  have b2 := endlessI_in (x % 1024)
  split
  · rename_i c
    rw [or_sum 31 2147483648 (by decide) (by omega) (by omega) (by omega) (by omega)]
    exact half_s h0 h1 c.2
  · split
    · rename_i c
      rw [or_sum 31 2147483648 (by decide) (by omega) (by omega) (by omega) (by omega)]
      exact half_e h0 h1 c
    · rename_i c d
      exact half_p h0 h1 (fun z => c ⟨h, z⟩) d
end Wd
open PySem PySem.W PyProof.Rows
local macro_rules | `(tactic| walk_at "subscriptTail") => `(tactic| (k_here; (with_reducible show wpAny _ _ (subscriptTail _ _ (Value.ref _) (Value.int _ _)) _ _ _); (with_unfolding_all refine' Wd.my_item16 ?k0 ?k1 ?k2 ?k3 ?k4 ?k5 ?_ ?k6; (case k0 => assumption); (case k1 => is_list); (case k2 => l_ints); (case k3 => l_idx); (case k4 => l_idx); (case k5 => l_idx); (case k6 => with_unfolding_all rfl); k_whole); intro _))
local macro_rules | `(tactic| walk_at "subscriptTail Name BinOp ref int") => `(tactic| (k_here; (with_reducible show wpAny _ _ (subscriptTail _ _ (Value.ref _) (Value.int _ _)) _ _ _); (with_unfolding_all refine' Wd.my_item16 ?k0 ?k1 ?k2 ?k3 ?k4 ?k5 ?_ ?k6; (case k0 => assumption); (case k1 => is_list); (case k2 => l_ints); (case k3 => l_idx); (case k4 => l_idx); (case k5 => l_idx); (case k6 => with_unfolding_all rfl); k_whole); intro _))
local macro_rules | `(tactic| walk_at "subscriptTail Name Name ref int") => `(tactic| (k_here; (with_reducible show wpAny _ _ (subscriptTail _ _ (Value.ref _) (Value.int _ _)) _ _ _); (with_unfolding_all refine' Wd.my_item16 ?k0 ?k1 ?k2 ?k3 ?k4 ?k5 ?_ ?k6; (case k0 => assumption); (case k1 => is_list); (case k2 => l_ints); (case k3 => l_idx); (case k4 => l_idx); (case k5 => l_idx); (case k6 => with_unfolding_all rfl); k_whole); intro _))
local macro_rules | `(tactic| walk_at "subscriptTail Name Constant ref int") => `(tactic| (k_here; (with_reducible show wpAny _ _ (subscriptTail _ _ (Value.ref _) (Value.int _ _)) _ _ _); (with_unfolding_all refine' Wd.my_item16 ?k0 ?k1 ?k2 ?k3 ?k4 ?k5 ?_ ?k6; (case k0 => assumption); (case k1 => is_list); (case k2 => l_ints); (case k3 => l_idx); (case k4 => l_idx); (case k5 => l_idx); (case k6 => with_unfolding_all rfl); k_whole); intro _))
local macro_rules | `(tactic| walk_at "binaryOp BitAnd int int") => `(tactic| (k_here; first
  | ((with_reducible show wpAny _ _ (binaryOp Operator.BitAnd (Value.int _ _) (Value.int 31 _)) _ _ _); k_dflt (refine Wd.step_and 5 31 32 (by decide) (by decide) ?_))
  | ((with_reducible show wpAny _ _ (binaryOp Operator.BitAnd (Value.int _ _) (Value.int 1023 _)) _ _ _); k_dflt (refine Wd.step_and 10 1023 1024 (by decide) (by decide) ?_))
  | ((with_reducible show wpAny _ _ (binaryOp Operator.BitAnd (Value.int _ _) (Value.int 8388607 _)) _ _ _); k_dflt (refine Wd.step_and 23 8388607 8388608 (by decide) (by decide) ?_))))
local macro_rules | `(tactic| walk_at "binaryOp RShift int int") => `(tactic| (k_here; first
  | ((with_reducible show wpAny _ _ (binaryOp Operator.RShift (Value.int _ _) (Value.int 15 _)) _ _ _); k_dflt (refine Wd.step_shr 15 32768 (by decide) (by decide) (by decide) ?_))
  | ((with_reducible show wpAny _ _ (binaryOp Operator.RShift (Value.int _ _) (Value.int 10 _)) _ _ _); k_dflt (refine Wd.step_shr 10 1024 (by decide) (by decide) (by decide) ?_))))
local macro_rules | `(tactic| walk_at "binaryOp LShift int int") => `(tactic| (k_here; first
  | ((with_reducible show wpAny _ _ (binaryOp Operator.LShift (Value.int _ _) (Value.int 31 _)) _ _ _); k_dflt (refine Wd.step_shl 31 2147483648 (by decide) (by decide) (by decide) (by omega) (by omega) ?_))
  | ((with_reducible show wpAny _ _ (binaryOp Operator.LShift (Value.int _ _) (Value.int 23 _)) _ _ _); k_dflt (refine Wd.step_shl 23 8388608 (by decide) (by decide) (by decide) (by omega) (by omega) ?_))
  | ((with_reducible show wpAny _ _ (binaryOp Operator.LShift (Value.int _ _) (Value.int 16 _)) _ _ _); k_dflt (refine Wd.step_shl 16 65536 (by decide) (by decide) (by decide) (by omega) (by omega) ?_))
  | ((with_reducible show wpAny _ _ (binaryOp Operator.LShift (Value.int _ _) (Value.int 13 _)) _ _ _); k_dflt (refine Wd.step_shl 13 8192 (by decide) (by decide) (by decide) (by omega) (by omega) ?_))
  | ((with_reducible show wpAny _ _ (binaryOp Operator.LShift (Value.int _ _) (Value.int (_ - _) _)) _ _ _); k_dflt (refine Wd.step_shlv (by omega) (by omega) (by omega) (by omega) ?_))))
local macro_rules | `(tactic| walk_at "binaryOp BitOr int int") => `(tactic| (k_here; (with_reducible show wpAny _ _ (binaryOp Operator.BitOr (Value.int _ _) (Value.int _ _)) _ _ _); first
  | k_dflt (refine Wd.step_or 31 2147483648 (by decide) (by omega) (by omega) (by omega) (by omega) ?_)
  | k_dflt (refine Wd.step_or 23 8388608 (by decide) (by omega) (by omega) (by omega) (by omega) ?_)))
local macro_rules | `(tactic| walk_at "call builtin:int.bit_length") => `(tactic| (k_here; k_dflt (refine Wd.step_bits (by omega) (by omega) ?_); intro hb0' hb1'))
set_option maxRecDepth 100000 in
set_option maxHeartbeats 8000000 in
theorem PySem.Challenge.cw_shortpair_s02_sn_odd_holds : PySem.Challenge.rw_shortpair_s02_sn_odd.Holds := by
  k_with "call ref" => k_call_by "small_half_to_single" Wd.smallM (fun (f : Int) => 0 ≤ f ∧ f < 1024)
  k_with "call ref" => k_call_by "endless_half_to_single" Wd.endlessM (fun (f : Int) => 0 ≤ f ∧ f < 1024)
  k_with "tree" => (first
    | exact Wd.smallM_z (by omega) | exact Wd.smallM_n (by omega) (by omega) (by omega)
    | exact Wd.endlessM_z (by omega) | exact Wd.endlessM_n (by omega) (by omega) (by omega))
  w_on; k_headS
  (case hw => exact ⟨[.int 0, .list [.int 0, .int 0, .int 0, .int 0, .int 0, .int 0, .int 0, .int 0, .int 0, .int 0, .int 0, .int 0, .int 0, .int 0, .int 0, .int 0]], by decide +kernel, by decide +kernel⟩)
  w_strict (k_goS0; (all_goals (with_reducible rename OpenSpec.pre _ _ = true => hP; have hB := Wd.facts hP; obtain ⟨hlen16, hbnd⟩ := hB)); (all_goals try k_fold); k_steps; all_goals sp_left)
  all_goals (refine Wd.ends hpre ?_; first
    | exact Wd.end_none (by omega) (by omega)
    | (refine Wd.wd_list (Wd.kind_some (by omega) hlen16 _ (fun i h0 h1 => ?_)); (have hb := hbnd.at (k := 2 * i + 1) (by omega) (by omega)); first
        | exact Wd.fun_b (by omega) hb.1 hb.2
        | exact Wd.fun_h (by omega) hb.1 hb.2))
#print axioms PySem.Challenge.cw_shortpair_s02_sn_odd_holds
