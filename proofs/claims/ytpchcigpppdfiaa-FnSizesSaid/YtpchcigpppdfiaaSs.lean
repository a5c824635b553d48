/-
  Plain facts that laws.FnSizes asks for: conjugates of products, powers as products of lists, scaling forth and back. No conditions.
-/
import Derived.Test.YtpchcigpppdfiaaSm
namespace Go.Proofs.Ytpchcigpppdfiaa
set_option linter.unusedVariables false
open Go

theorem lim_zero {a b x y : Nat} (h : lim a b = (x, y, 0)) : finC a b = true ∧ x = a ∧ y = b := by
  cases e : finC a b with
  | true => rw [lim_yes e] at h; injection h with h1 h2; injection h2 with h3 h4; exact ⟨rfl, h1.symm, h3.symm⟩
  | false => rw [lim_no e] at h; injection h with h1 h2; injection h2 with h3 h4; cases h4
theorem both_zero {a b c d : Nat} {r : Nat × Nat × Int} (h : (both a b c d r).2.2 = 0) : finC a b = true ∧ finC c d = true ∧ both a b c d r = r := by
  cases e : finC a b with
  | false => rw [both_no1 e] at h; cases h
  | true =>
    cases g : finC c d with
    | false => rw [both_no2 g] at h; cases h
    | true => exact ⟨rfl, rfl, both_yes e g⟩

/-- The product of conjugates. -/
theorem conj_fact {a b c d p1 p2 : Nat} (h : mulR a b c d = (p1, p2, 0)) :
    conjR a b = (a, Op.negFloat .f64 b, 0) ∧ conjR c d = (c, Op.negFloat .f64 d, 0) ∧ conjR p1 p2 = (p1, Op.negFloat .f64 p2, 0) ∧
    ∃ q1 q2, mulR a (Op.negFloat .f64 b) c (Op.negFloat .f64 d) = (q1, q2, 0) ∧ f64.order q1 p1 = some .eq ∧ f64.order q2 (Op.negFloat .f64 p2) = some .eq := by
  have hz : (mulR a b c d).2.2 = 0 := by rw [h]
  obtain ⟨f1, f2, f3⟩ := both_zero hz
  unfold mulR at h
  rw [f3] at h
  obtain ⟨g1, g2, g3⟩ := lim_zero h
  subst g2 g3
  obtain ⟨k1, k2⟩ := finC_split g1
  obtain ⟨a1, b1⟩ := finC_split f1
  obtain ⟨c1, d1⟩ := finC_split f2
  refine ⟨if_pos f1, if_pos f2, if_pos g1, mRe a b c d, mIm a (Op.negFloat .f64 b) c (Op.negFloat .f64 d), ?_, order_refl_num k1, ?_⟩
  · unfold mulR
    have e1 : mRe a (Op.negFloat .f64 b) c (Op.negFloat .f64 d) = mRe a b c d := by unfold mRe; rw [mul_neg_both]
    rw [e1]
    have hf : finC (mRe a b c d) (mIm a (Op.negFloat .f64 b) c (Op.negFloat .f64 d)) = true := by
      unfold finC
      rw [k1, Bool.true_and]
      unfold mIm at k2 ⊢
      obtain ⟨u1, u2⟩ := nan_inf_sum k2
      rw [cf_congr (mul_neg_right a d) (mul_neg_left b c)]
      exact (add_neg_neg k2 u1 u2).1
    have h1 : finC a (Op.negFloat .f64 b) = true := by unfold finC; rw [isF_neg, a1, b1]; rfl
    have h2 : finC c (Op.negFloat .f64 d) = true := by unfold finC; rw [isF_neg, c1, d1]; rfl
    rw [both_yes h1 h2, lim_yes hf]
  · unfold mIm at k2 ⊢
    obtain ⟨u1, u2⟩ := nan_inf_sum k2
    rw [cf_congr (mul_neg_right a d) (mul_neg_left b c)]
    exact (add_neg_neg k2 u1 u2).2

theorem fin_of_double {y : Nat} (h : isF .f64 (cf .mul .f64 y 4611686018427387904) = true) : isF .f64 y = true := by
  cases e : f64.read y with
  | number s m i => exact isF_of e
  | nan s t =>
    have hn : isN .f64 y = true := by unfold isN; rw [kf, e]; rfl
    unfold cf at h
    rw [floatBits_nan_left hn, Option.getD_none, isN_not_isF (isN_qn _)] at h
    cases h
  | infinity s =>
    have h1 : floatBits .mul .f64 y 4611686018427387904 = some (f64.word s 0x7ff0000000000000) := by
      show ((f64.read y).product (f64.read 4611686018427387904)).map f64.write = _
      rw [e, read_two]
      show (if 2 ^ 52 = 0 then none else some (Ieee.Datum.infinity (s ^^ false))).map f64.write = _
      rw [if_neg (by decide), Bool.xor_false]
      show some (f64.word s f64.infRung) = _
      rw [f64_inf]
    unfold cf at h
    rw [h1, Option.getD_some] at h
    unfold isF at h
    rw [kf, read_inf] at h
    cases h
theorem cf_wf (op : BinOp) (x y : Nat) : Wf (cf op .f64 x y) := by
  unfold cf
  cases h : floatBits op .f64 x y with
  | none => exact wf_lit (by decide)
  | some r =>
    have := floatBits_wf h
    simpa [Lit.wf, Wf] using this
theorem up_wf {x : Nat} (h : Wf x) : ∀ n, Wf (up x n)
  | 0 => h
  | _ + 1 => cf_wf _ _ _
theorem up_fin {x : Nat} : ∀ n, isF .f64 (up x n) = true → ∀ j, j ≤ n → isF .f64 (up x j) = true
  | 0, h, j, hj => by obtain rfl : j = 0 := by omega
                      exact h
  | n + 1, h, j, hj => by
    by_cases e : j = n + 1
    · subst e; exact h
    · exact up_fin n (fin_of_double h) j (by omega)
theorem dn_shift (y : Nat) : ∀ n, dn y (n + 1) = dn (cf .mul .f64 y 4602678819172646912) n
  | 0 => rfl
  | n + 1 => by
    show cf .mul .f64 (dn y (n + 1)) _ = cf .mul .f64 (dn (cf .mul .f64 y 4602678819172646912) n) _
    rw [dn_shift y n]
theorem dn_up {x : Nat} (hw : Wf x) : ∀ n, isF .f64 (up x n) = true → dn (up x n) n = x
  | 0, _ => rfl
  | n + 1, h => by
    rw [dn_shift]
    have h1 : isF .f64 (up x n) = true := fin_of_double h
    have := half_double (up_wf hw n) h1 h
    show dn (cf .mul .f64 (cf .mul .f64 (up x n) 4611686018427387904) 4602678819172646912) n = x
    rw [this]
    exact dn_up hw n h1

/-- Scaling forth and back. -/
theorem scale_back {a b s1 s2 : Nat} {k : Int} (ha : Wf a) (hb : Wf b) (hk : 0 ≤ k) (h : scaleR a b k = (s1, s2, 0)) : scaleR s1 s2 (-k) = (a, b, 0) := by
  unfold scaleR at h
  cases e : finC a b with
  | false => rw [e, if_neg (by decide)] at h; injection h with h1 h2; injection h2 with h3 h4; cases h4
  | true =>
    rw [e, if_pos rfl] at h
    by_cases hr : -2200 ≤ k ∧ k ≤ 2200
    · rw [if_pos hr] at h
      obtain ⟨g1, g2, g3⟩ := lim_zero h
      subst g2 g3
      obtain ⟨f1, f2⟩ := finC_split g1
      have hs : ∀ x, scaled x k = up x k.toNat := fun x => if_pos hk
      rw [hs] at f1 f2
      have back : ∀ x, Wf x → isF .f64 (up x k.toNat) = true → scaled (scaled x k) (-k) = x := by
        intro x hx hf
        rw [hs]
        unfold scaled
        by_cases h0 : k = 0
        · subst h0; rfl
        · rw [if_neg (by omega), dn_down, show (- -k).toNat = k.toNat by omega]
          exact dn_up hx _ hf
      unfold scaleR
      rw [g1, if_pos rfl, if_pos (by omega), back a ha f1, back b hb f2, lim_yes e]
    · rw [if_neg hr] at h; injection h with h1 h2; injection h2 with h3 h4; cases h4

/-- A power is the product of a list. -/
theorem pow_list {a b p1 p2 : Nat} {k : Int} (h : powR a b k = (p1, p2, 0)) : 0 ≤ k ∧ k ≤ 64 ∧ prodL (List.replicate k.toNat (a, b)) = (p1, p2, 0) := by
  unfold powR at h
  cases e : finC a b with
  | false => rw [e, if_neg (by decide)] at h; injection h with h1 h2; injection h2 with h3 h4; cases h4
  | true =>
    rw [e, if_pos rfl] at h
    by_cases hr : 0 ≤ k ∧ k ≤ 64
    · rw [if_pos hr] at h
      refine ⟨hr.1, hr.2, ?_⟩
      have hc : chkR (List.replicate k.toNat (a, b)) = 0 := chk_none (by rw [List.length_replicate]; omega) (fun i hi => by rw [List.getElem_replicate]; exact e)
      unfold prodL
      rw [if_pos hc]
      exact h
    · rw [if_neg hr] at h; injection h with h1 h2; injection h2 with h3 h4; cases h4

theorem isF_ab {x : Nat} (h : isF .f64 x = true) : isF .f64 (ab x) = true := by
  obtain ⟨s, m, i, e⟩ := isF_read h
  exact isF_of (read_ab x e)
theorem fitR_fin (s : Nat) : isF .f64 (fitR s).1 = true := by
  cases h : isF .f64 s with
  | true => rw [fit_yes h]; exact h
  | false => rw [fit_no h]; exact isF_zero
theorem sizeR_fin (a b : Nat) : isF .f64 (sizeR a b).1 = true := by
  unfold sizeR; split
  · exact fitR_fin _
  · exact isF_zero
theorem largR_fin (a b : Nat) : isF .f64 (largR a b).1 = true := by
  unfold largR; split
  · rename_i h
    obtain ⟨h1, h2⟩ := finC_split h
    rcases Nat.le_total (ab a) (ab b) with hle | hle
    · show isF .f64 (max (ab a) (ab b)) = true
      rw [Nat.max_eq_right hle]; exact isF_ab h2
    · show isF .f64 (max (ab a) (ab b)) = true
      rw [Nat.max_eq_left hle]; exact isF_ab h1
  · exact isF_zero
/-- Where there is a size, it is between the larger part and twice it. -/
theorem size_law {a b s p : Nat} {c2 : Int} (h : sizeR a b = (s, 0)) (g : largR a b = (p, c2)) :
    f64.order s p ≠ some .lt ∧ f64.order s (cf .mul .f64 4611686018427387904 p) ≠ some .gt := by
  unfold sizeR at h
  unfold largR at g
  cases e : finC a b with
  | false => rw [e, if_neg (by decide)] at h; injection h with h1 h2; cases h2
  | true =>
    rw [e, if_pos rfl] at h g
    obtain ⟨h1, h2⟩ := finC_split e
    cases hs : isF .f64 (cf .add .f64 (ab a) (ab b)) with
    | false => rw [fit_no hs] at h; injection h with h3 h4; cases h4
    | true =>
      rw [fit_yes hs] at h
      injection h with h3 h4
      injection g with g3 g4
      subst h3 g3
      exact size_facts h1 h2
theorem prodL_fin (zs : List (Nat × Nat)) : finC (prodL zs).1 (prodL zs).2.1 = true := by
  unfold prodL; split
  · exact foldC_fin _ _ _ (by unfold finC one; decide +kernel)
  · unfold finC; rw [isF_zero]; rfl
theorem sumL_fin (zs : List (Nat × Nat)) : finC (sumL zs).1 (sumL zs).2.1 = true := by
  unfold sumL; split
  · exact foldC_fin _ _ _ (by unfold finC; rw [isF_zero]; rfl)
  · unfold finC; rw [isF_zero]; rfl
theorem powR_fin (a b : Nat) (k : Int) : finC (powR a b k).1 (powR a b k).2.1 = true := by
  unfold powR; split
  · split
    · exact foldC_fin _ _ _ (by unfold finC one; decide +kernel)
    · unfold finC; rw [isF_zero]; rfl
  · unfold finC; rw [isF_zero]; rfl
theorem scaleR_fin (a b : Nat) (k : Int) : finC (scaleR a b k).1 (scaleR a b k).2.1 = true := by
  unfold scaleR; split
  · split
    · exact lim_fin _ _
    · unfold finC; rw [isF_zero]; rfl
  · unfold finC; rw [isF_zero]; rfl
end Go.Proofs.Ytpchcigpppdfiaa
