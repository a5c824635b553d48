/-
  The library's part of a text: numerals, zeros, appending texts, turning them and putting them together. Conditions: the listed table of powers of 10.
-/
import Derived.Test.YtpchcigpppdfiaaDoorTz
import Derived.Test.YtpchcigpppdfiaaDoorMk
import Derived.Test.YtpchcigpppdfiaaDoorShelf
import Derived.Lib.AppendIntMem
import Derived.Lib.EndianMore
namespace Go.Proofs.YtpchcigpppdfiaaDoor
set_option linter.unusedVariables false
open Go Go.RowKit Go.Sort Go.Lib

theorem decDigits_eq (n : Nat) : Lib.decDigits n = decT n := by
  induction n using Nat.strongRecOn with
  | ind n ih =>
    by_cases h : n < 10
    · rw [Lib.decDigits, dif_pos h, decT_small h]
      rfl
    · rw [Lib.decDigits, dif_neg h, decT_step h, ih (n / 10) (by omega)]
      rfl
/-- The powers of 10 stay readable. -/
def Pows (B : Nat) (w : World) : Prop := Lib.TabBelow Tryd.prog B w "internal/strconv.uint64pow10" .u64 Lib.pow10Tab
theorem Pows.on {B : Nat} {w w' : World} (h : Pows B w) (hb : Below B w w') : Pows B w' := Lib.TabBelow.on h hb
theorem iFormat (n : Nat) (hn : n ≤ 9223372036854775807) (w : World) {B : Nat} (h : Pows B w) :
    Calls Tryd.prog 74 #[.int .i64 (n : Int), .int .i64 10] w (RetB (.string (btx (decT n))) w) := by
  refine (Sf_strconv_FormatInt_10 (n : Int) (by omega) (by omega) w (Lib.TabBelow.here h)).mono ?_
  rintro e w' ⟨rfl, k, os, rfl⟩
  refine ⟨?_, Lib.below_grow _ _ (Nat.le_refl _) _ _⟩
  rw [Lib.itoa_nonneg, decDigits_eq]
  rfl
theorem iRepeat (k : Nat) (hk : k ≤ 11) (w : World) :
    Calls Tryd.prog 97 #[.string { data := #[48] }, .int .i64 (k : Int)] w (RetB (.string (btx (List.replicate k 48))) w) := by
  refine (Sf_strings_Repeat { data := #[48] } k w (by omega) (by show 1 * k ≤ _; omega)).mono ?_
  rintro e w' ⟨rfl, hb⟩
  refine ⟨?_, hb⟩
  have h := Lib.repeatL_replicate 48 1 k
  rw [Nat.mul_one] at h
  show Ending.returned (.string ⟨(Lib.repeatL [48] k).toArray⟩) = _
  rw [show ([48] : List UInt8) = List.replicate 1 48 from rfl, h]
  rfl
/-- A slice value owns the texts xs. -/
def OwnS (w : World) (lo : Nat) (v : Value) (xs : List (List UInt8)) : Prop := w.ownsRow lo 9 1 v xs.length (xs.map fun l => Value.string (btx l))
theorem OwnS.nil (w : World) (lo : Nat) : OwnS w lo (.slice none 0 0) [] := World.ownsRow_nil w lo _ 1
theorem OwnS.alloc {w : World} {lo : Nat} {v : Value} {xs : List (List UInt8)} (h : OwnS w lo v xs) (o : Obj) : OwnS (w.alloc o) lo v xs := World.ownsRow.alloc h o
theorem OwnS.below {w w' : World} {lo : Nat} {v : Value} {xs : List (List UInt8)} (h : OwnS w lo v xs) (hb : Below w.heap.size w w') : OwnS w' lo v xs :=
  World.ownsRow.kept h (grown_of_below hb none) (by cases e : v.ownBlock; exact .inl rfl; exact .inr (by simp))
theorem OwnS.drewN {w : World} {lo : Nat} {v : Value} {xs : List (List UInt8)} (h : OwnS w lo v xs) (n : Nat) : OwnS (w.drewN n) lo v xs := h
theorem OwnS.lt {w : World} {lo : Nat} {v : Value} {xs : List (List UInt8)} (h : OwnS w lo v xs) : ∀ g, v.ownBlock = some g → lo ≤ g := fun g hg => (World.ownsRow.lt h g hg).1
theorem info_str : (Tryd.prog.info? 9).map (fun i => (i.zero, i.size, i.bytes)) = some (some (.string { data := #[] }), 1, 16) := by kernel_rfl
/-- One text is appended to texts of the call's own. -/
theorem wp_appS {ops : Array Oper} {rest : List Oper} {o : Oper} {a : Act} {Q : Exit → Act → World → Prop} {w : World} (hgd : o.guard = none) (s x : Operand) (t : TypeId)
    (ho : o.op = .call { callee := .builtin .append, args := #[s, x], argTypes := #[t, t] }) (ht : Tryd.prog.underlying t = some (.slice 9))
    (V : World) (z : List UInt8) (hW : w = V.alloc (.cells #[.string (btx z)] 9)) (lo : Nat) (v : Value) (xs : List (List UInt8)) (hown : OwnS V lo v xs) (hs : a.eval s = v)
    (hx : a.eval x = .slice (some ⟨V.heap.size, 0, none⟩) 1 1) (hlen : xs.length ≤ 4096) (hbase : lo ≤ V.heap.size)
    (h : ∀ v' w', OwnS w' lo v' (xs ++ [z]) → (∀ B, B ≤ V.heap.size → B ≤ lo → Below B V w') → V.heap.size ≤ w'.heap.size → (∀ (lo' : Nat) (b : Option Addr) (zs : List Int), Own V lo' b zs → (∀ g, v.ownBlock = some g → g < lo') → Own w' lo' b zs) → wpList Tryd.prog ops Q rest (a.put o.dst v') w') : wpList Tryd.prog ops Q (o :: rest) a w := by
  subst hW
  obtain ⟨i0, hi, hz0, hz1, hz2⟩ := info_parts info_str
  refine wpList_append_own _ hgd s x t ho lo 9 i0 (.string { data := #[] }) 1 16 ht hi hz0 hz1 hz2 rfl (by decide) v xs.length (xs.map fun l => Value.string (btx l)) hs (hown.alloc _) ⟨V.heap.size, 0, none⟩ 1 1 [.string (btx z)] hx (by simp) ?_ (by intro u hu; simp at hu; subst hu; rfl) (by unfold maxLen; omega) (by omega) (by simp; omega) ?_
  · intro j u hu
    rcases j with _ | j
    · simp at hu
      subst hu
      simp [Addr.add]
    · simp at hu
  intro v' w' h1 h2 _
  refine h v' w' ?_ (fun B hB hl => ((Below.refl B V).alloc hB _).grown h2 (by simp; omega) (fun g hg => Nat.le_trans hl (hown.lt g hg))) ?_ (fun lo' b zs ho hr => Own.grown (Own.alloc ho _) h2 hr)
  · unfold OwnS
    rw [List.length_append, List.map_append]
    exact h1
  · have := h2.size
    simp at this
    omega

theorem OwnS.parts {w : World} {lo : Nat} {v : Value} {xs : List (List UInt8)} (h : OwnS w lo v xs) (hne : xs ≠ []) : ∃ g c, v = .slice (some ⟨g, 0, none⟩) xs.length c ∧ lo ≤ g ∧ g < w.heap.size ∧ xs.length ≤ c ∧
    (∀ i, i < xs.length → w.cell? ⟨g, i, none⟩ = some (.string (btx (xs.getD i [])))) ∧ (∀ i, w.frozen? ⟨g, i, none⟩ = false) := by
  obtain ⟨_, h | ⟨g, cap, cur, rfl, hb, hg, hn, hm, hs, ht⟩⟩ := h
  · exact absurd (List.eq_nil_of_length_eq_zero h.2) hne
  · refine ⟨g, cap, rfl, hb, (Array.getElem?_eq_some_iff.1 hg).1, hn, fun i hi => ?_, fun i => by simp [World.frozen?, hg]⟩
    have h1 : (cur.toList.take (xs.length * 1))[i]? = (xs.map fun l => Value.string (btx l))[i]? := by rw [ht]
    rw [List.getElem?_take, if_pos (by omega), List.getElem?_map, List.getElem?_eq_getElem hi] at h1
    rw [World.cell?]
    simp only [hg]
    simpa [List.getD, List.getElem?_eq_getElem hi] using h1
/-- The texts lie turned in memory. -/
def TurnedAt (v : Value) (xs : List (List UInt8)) (w : World) : Prop := ∃ g c, v = .slice (some ⟨g, 0, none⟩) xs.length c ∧ g < w.heap.size ∧ xs.length ≤ c ∧
  ∀ i, i < xs.length → w.cell? ⟨g, 0 + i, none⟩ = some (.string (btx (xs.reverse.getD i [])))
theorem iReverse {w : World} {lo : Nat} {v : Value} {xs : List (List UInt8)} (h : OwnS w lo v xs) (hne : xs ≠ []) (hl : xs.length ≤ 4096) :
    Calls Tryd.prog 98 #[v] w fun e w' => e = .returned (.tuple #[]) ∧ Below lo w w' ∧ TurnedAt v xs w' := by
  obtain ⟨g, c, rfl, hlo, hg, hc, hcell, hfr⟩ := h.parts hne
  have hc0 : ∀ i, i < xs.length → w.cell? ⟨g, 0 + i, none⟩ = some (.string ((fun i => btx (xs.getD i [])) i)) := fun i hi => by rw [Nat.zero_add]; exact hcell i hi
  have hso : Lib.strsOf (fun i => btx (xs.getD i [])) xs.length = xs := by
    apply List.ext_getElem
    · simp [Lib.strsOf]
    · intro i h1 h2
      simp [Lib.strsOf, btx, List.getD, h2]
  refine (Sf_slices_Reverse_string_cells g 0 xs.length c (fun i => btx (xs.getD i [])) w (by omega) hc0 (fun j _ => hfr _)).mono ?_
  rintro e w' ⟨rfl, q, rfl⟩
  have hb : Below lo w ((w.drewN q).setCells g 0 ((Lib.strsOf (fun i => btx (xs.getD i [])) xs.length).reverse.map encStr)) :=
    (below_drewN (Below.refl lo w) q).trans (Lib.below_setCells_w hlo _ _ _)
  refine ⟨rfl, hb, g, c, rfl, Nat.lt_of_lt_of_le hg hb.size, hc, fun i hi => ?_⟩
  have h2 := Lib.cells_after_strs (q := q) (ys := (Lib.strsOf (fun i => btx (xs.getD i [])) xs.length).reverse) (Nat.le_refl _) (by simp [Lib.strsOf_length]) hc0 i hi
  rw [h2]
  congr 2
  rw [hso, Lib.strAfter, if_pos (by simpa using hi)]
  rfl
theorem join_empty (xs : List (List UInt8)) : Lib.join xs [] = xs.flatten := by
  cases xs with
  | nil => rfl
  | cons x r => rw [Lib.join_cons]; simp [Lib.joinTail]
theorem iJoin {w : World} {v : Value} {xs : List (List UInt8)} (h : TurnedAt v xs w) (hl : xs.length ≤ 4096) (hs : xs.reverse.flatten.length ≤ 4096) :
    Calls Tryd.prog 99 #[v, .string { data := #[] }] w (RetB (.string (btx xs.reverse.flatten)) w) := by
  obtain ⟨g, c, rfl, hg, hc, hcell⟩ := h
  have e : (xs.reverse.map btx).map (·.data.toList) = xs.reverse := by
    rw [List.map_map]
    conv => rhs; rw [← List.map_id xs.reverse]
    rfl
  have hj : Lib.join ((xs.reverse.map btx).map (·.data.toList)) ({ data := #[] } : ByteArray).data.toList = xs.reverse.flatten := by rw [e]; exact join_empty _
  have hlen : (xs.reverse.map btx).length = xs.length := by simp
  have hm := Sf_strings_Join g 0 c (xs.reverse.map btx) { data := #[] } w (fun j x hx => by
    rw [List.getElem?_map, Option.map_eq_some_iff] at hx
    obtain ⟨l, h1, rfl⟩ := hx
    obtain ⟨hj, h2⟩ := List.getElem?_eq_some_iff.1 h1
    rw [hcell j (by simpa using hj)]
    simp [List.getD, h1]) hg (by rw [hlen]; omega) (by rw [hlen]; exact hc) (by rw [hj]; omega)
  rw [hlen, hj] at hm
  exact hm
end Go.Proofs.YtpchcigpppdfiaaDoor
