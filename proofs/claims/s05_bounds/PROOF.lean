import PyProof.Rows.All
import Wide.All
import OpenK.AllK
import Wide.FinOn
import Open.SpecLaws
import KE.OsGo
import HandS.ForSpec
import HandS.Comp
import HandS.Iter
import HandS.Deep
import KE.KRevSl
import PySem.Challenge.RW_layerbars_s05_bounds
set_option Elab.async false
set_option maxRecDepth 100000
set_option maxHeartbeats 2000000
namespace LB
open PySem PySem.Spec PyProof.Rows L2
open PySem.W (Codec)
/-! ### the mathematics: sizes and squares -/
def okSize (i : Int) : Bool := decide (1 ≤ i) && decide (i ≤ 6)
def okAll (w h n : Int) : Bool := [w, h, n].all okSize
theorem okAll_true {w h n : Int} (q : okAll w h n = true) : (1 ≤ w ∧ w ≤ 6) ∧ (1 ≤ h ∧ h ≤ 6) ∧ (1 ≤ n ∧ n ≤ 6) := by
  simp only [okAll, okSize, List.all_cons, List.all_nil, Bool.and_true, Bool.and_eq_true, decide_eq_true_eq] at q
  exact q
theorem okAll_layer {w h n : Int} (hw : 0 ≤ w) (hh : 0 ≤ h) (hn : 0 ≤ n) : Kbe4.validLayer w.toNat h.toNat n.toNat = okAll w h n := by
  have e : ∀ i : Int, 0 ≤ i → (decide (1 ≤ i.toNat) && decide (i.toNat ≤ 6)) = okSize i := fun i hi => by
    unfold okSize
    rw [decide_eq_decide.mpr (show 1 ≤ i.toNat ↔ 1 ≤ i by omega), decide_eq_decide.mpr (show i.toNat ≤ 6 ↔ i ≤ 6 by omega)]
  show (((((decide (1 ≤ w.toNat) && decide (w.toNat ≤ 6)) && decide (1 ≤ h.toNat)) && decide (h.toNat ≤ 6)) && decide (1 ≤ n.toNat)) && decide (n.toNat ≤ 6)) = (okSize w && (okSize h && (okSize n && true)))
  rw [← e w hw, ← e h hh, ← e n hn]
  simp only [Bool.and_assoc, Bool.and_true]
def barSq (x y d n : Int) : List (Int × Int) :=
  if d = 1 then (List.range n.toNat).map fun (i : Nat) => (x + (i : Int), y) else (List.range n.toNat).map fun (i : Nat) => (x, y + (i : Int))
def insideS (w h : Int) (s : Int × Int) : Bool := decide (s.1 < w) && decide (s.2 < h)
def covd (cov : List (Int × Int)) (s : Int × Int) : Bool := cov.any fun z => decide (z = s)
def rowSq (w : Int) (y : Nat) : List (Int × Int) := (List.range w.toNat).map fun (x : Nat) => ((x : Int), (y : Int))
def layerSq (w h : Int) : List (Int × Int) := (List.range h.toNat).flatMap (rowSq w)
theorem barSq_len (x y d n : Int) : (barSq x y d n).length = n.toNat := by
  unfold barSq
  split <;> rw [List.length_map, List.length_range]
theorem rowSq_len (w : Int) (y : Nat) : (rowSq w y).length = w.toNat := by
  unfold rowSq
  rw [List.length_map, List.length_range]
theorem rows_len (w : Int) : ∀ k : Nat, ((List.range k).flatMap (rowSq w)).length = k * w.toNat
  | 0 => by
    rw [Nat.zero_mul]
    rfl
  | k + 1 => by rw [List.range_succ, List.flatMap_append, List.length_append, rows_len w k, Nat.succ_mul, List.flatMap_cons, List.flatMap_nil, List.append_nil, rowSq_len]
theorem layerSq_len {w h : Int} (hw : w ≤ 6) (hh : h ≤ 6) : (layerSq w h).length ≤ 36 := by
  unfold layerSq
  rw [rows_len]
  have h1 : h.toNat * w.toNat ≤ 6 * 6 := Nat.mul_le_mul (by omega) (by omega)
  omega
/-! ### the mathematics: colours -/
def colN (n : Int) (s : Int × Int) : Nat := ((s.1 + s.2).fmod n).toNat
def cnt (n : Int) (ss : List (Int × Int)) (c : Nat) : Nat := (ss.filter fun s => colN n s == c).length
def cntV (n : Int) (ss : List (Int × Int)) : List Int := (List.range n.toNat).map fun (c : Nat) => ((cnt n ss c : Nat) : Int)
theorem colN_eq {n : Int} (hn : 0 < n) (s : Int × Int) : (s.1 + s.2).fmod n = ((colN n s : Nat) : Int) := by
  have h : 0 ≤ (s.1 + s.2).fmod n := by
    rw [Int.fmod_eq_emod_of_nonneg _ (by omega)]
    exact Int.emod_nonneg _ (by omega)
  exact (Int.toNat_of_nonneg h).symm
theorem colN_lt {n : Int} (hn : 0 < n) (s : Int × Int) : colN n s < n.toNat := by
  have h1 := colN_eq hn s
  have h2 : (s.1 + s.2).fmod n < n := by
    rw [Int.fmod_eq_emod_of_nonneg _ (by omega)]
    exact Int.emod_lt_of_pos _ hn
  omega
theorem cnt_snoc (n : Int) (ss : List (Int × Int)) (s : Int × Int) (c : Nat) : cnt n (ss ++ [s]) c = cnt n ss c + if colN n s = c then 1 else 0 := by
  unfold cnt
  rw [List.filter_append, List.length_append]
  congr 1
  by_cases h : colN n s = c
  · simp [h]
  · simp [h]
theorem cntV_len (n : Int) (ss : List (Int × Int)) : (cntV n ss).length = n.toNat := by
  unfold cntV
  rw [List.length_map, List.length_range]
theorem cntV_at {n : Int} (ss : List (Int × Int)) {c : Nat} (h : c < n.toNat) : (cntV n ss)[c]? = some ((cnt n ss c : Nat) : Int) := by
  unfold cntV
  rw [List.getElem?_map, List.getElem?_range h]
  rfl
theorem cntV_nil {n : Int} : cntV n [] = List.replicate n.toNat 0 := by
  unfold cntV
  apply List.ext_getElem?
  intro i
  by_cases h : i < n.toNat
  · rw [List.getElem?_map, List.getElem?_range h, List.getElem?_replicate, if_pos h]
    rfl
  · rw [List.getElem?_eq_none (by rw [List.length_map, List.length_range]; omega), List.getElem?_eq_none (by rw [List.length_replicate]; omega)]
theorem cntV_step {n : Int} (ss : List (Int × Int)) (s : Int × Int) : (cntV n ss).set (colN n s) (((cnt n ss (colN n s) : Nat) : Int) + 1) = cntV n (ss ++ [s]) := by
  apply List.ext_getElem?
  intro i
  by_cases h : i < n.toNat
  · rw [cntV_at _ h, cnt_snoc, List.getElem?_set]
    by_cases e : colN n s = i
    · subst e
      rw [if_pos rfl, if_pos rfl, if_pos (by rw [cntV_len]; exact h)]
      rfl
    · rw [if_neg e, if_neg e, cntV_at _ h]
      rfl
  · rw [List.getElem?_eq_none (by rw [List.length_set, cntV_len]; omega), List.getElem?_eq_none (by rw [cntV_len]; omega)]
/-! ### the mathematics: bounds -/
def minC (n : Int) (ss : List (Int × Int)) (m : Int) : Int := (cntV n ss).foldl min m
def rowP (w h n : Int) : Int := max (w.fdiv n * h + h.fdiv n * w.fmod n) (h.fdiv n * w + w.fdiv n * h.fmod n)
theorem bounds_tab : ((List.range 7).all fun w => (List.range 7).all fun h => (List.range 7).all fun n => !(Kbe4.validLayer w h n) || ([minC n (layerSq w h) (w * h), rowP w h n] == PyKbe4.bounds w h n)) = true := by decide +kernel
theorem bounds_out {w h n : Int} (hw : 0 ≤ w) (hh : 0 ≤ h) (hn : 0 ≤ n) (q : okAll w h n = false) : PyKbe4.bounds w h n = [-22] := by
  have e : Kbe4.validLayer w.toNat h.toNat n.toNat = false := (okAll_layer hw hh hn).trans q
  show (Kbe4.respond (.bounds w.toNat h.toNat n.toNat)).head :: (Kbe4.respond (.bounds w.toNat h.toNat n.toNat)).tail = [-22]
  simp only [Kbe4.respond, e, if_pos, Kbe4.single, Kbe4.invalidArgument]
theorem bounds_in {w h n : Int} (q : okAll w h n = true) : PyKbe4.bounds w h n = [minC n (layerSq w h) (w * h), rowP w h n] := by
  obtain ⟨⟨w1, w6⟩, ⟨h1, h6⟩, n1, n6⟩ := okAll_true q
  have e : Kbe4.validLayer w.toNat h.toNat n.toNat = true := (okAll_layer (by omega) (by omega) (by omega)).trans q
  have t := List.all_eq_true.mp (List.all_eq_true.mp (List.all_eq_true.mp bounds_tab w.toNat (List.mem_range.mpr (by omega))) h.toNat (List.mem_range.mpr (by omega))) n.toNat (List.mem_range.mpr (by omega))
  rw [e] at t
  simp only [Bool.not_true, Bool.false_or, beq_iff_eq] at t
  rw [Int.toNat_of_nonneg (by omega), Int.toNat_of_nonneg (by omega), Int.toNat_of_nonneg (by omega)] at t
  exact t.symm
theorem foldl_min : ∀ (l : List Int) (b m : Int), m ≤ b → (∀ y ∈ l, m ≤ y) → (m ∈ l ∨ b = m) → l.foldl min b = m
  | [], b, m, _, _, h => by
    rcases h with h | h
    · cases h
    · exact h
  | x :: l, b, m, hb, hl, h => by
    have hx : m ≤ x := hl x List.mem_cons_self
    have hl' : ∀ y ∈ l, m ≤ y := fun y hy => hl y (List.mem_cons_of_mem x hy)
    rw [List.foldl_cons]
    refine foldl_min l (min b x) m (by omega) hl' ?_
    rcases h with h | h
    · rcases List.mem_cons.mp h with e | e
      · exact .inr (by omega)
      · exact .inl e
    · exact .inr (by omega)
theorem minC_is {n w h m : Int} (w1 : 1 ≤ w) (h1 : 1 ≤ h) (hm : m ∈ cntV n (layerSq w h)) (hle : ∀ y, y ∈ cntV n (layerSq w h) → m ≤ y) : m = minC n (layerSq w h) (w * h) := by
  refine (foldl_min _ _ _ ?_ hle (.inl hm)).symm
  unfold cntV at hm
  obtain ⟨c, _, e⟩ := List.mem_map.mp hm
  have l1 : cnt n (layerSq w h) c ≤ (layerSq w h).length := List.length_filter_le _ _
  have l2 : (layerSq w h).length = h.toNat * w.toNat := rows_len w h.toNat
  have l3 : ((h.toNat * w.toNat : Nat) : Int) = w * h := by
    rw [Int.natCast_mul, Int.toNat_of_nonneg (by omega), Int.toNat_of_nonneg (by omega), Int.mul_comm]
  rw [← e, ← l3, ← l2]
  exact Int.ofNat_le.mpr l1
theorem rowP_is (w h n : Int) : (if h.fdiv n * w + w.fdiv n * h.fmod n > w.fdiv n * h + h.fdiv n * w.fmod n then h.fdiv n * w + w.fdiv n * h.fmod n else w.fdiv n * h + h.fdiv n * w.fmod n) = rowP w h n := by
  unfold rowP
  generalize w.fdiv n * h + h.fdiv n * w.fmod n = a
  generalize h.fdiv n * w + w.fdiv n * h.fmod n = b
  split <;> omega
/-! ### the text -/
def topS (i : Nat) : Stmt := PySem.Challenge.pw_layerbars_s05_bounds.main.body.getD i (.Pass ⟨0, 0, 0, 0⟩)
abbrev sBounds : Stmt := topS 3
abbrev sSizes : Stmt := topS 4
abbrev sLayer : Stmt := topS 5
abbrev sCount : Stmt := topS 6
abbrev sRows : Stmt := topS 7
theorem scBounds : FnScope ["width", "height", "length", "colour_bound", "row_packing"] ["width", "height", "length"] (defScope sBounds) := ⟨rfl, rfl, rfl, by decide +kernel, rfl, by decide +kernel, by decide +kernel⟩
theorem scZ : FnScope ["width", "height", "length", "size"] ["width", "height", "length"] (defScope sSizes) := ⟨rfl, rfl, rfl, by decide +kernel, rfl, by decide +kernel, by decide +kernel⟩
theorem scLayer : FnScope ["width", "height", "squares", "y", "x"] ["width", "height"] (defScope sLayer) := ⟨rfl, rfl, rfl, by decide +kernel, rfl, by decide +kernel, by decide +kernel⟩
theorem scCount : FnScope ["squares", "length", "counts", "square"] ["squares", "length"] (defScope sCount) := ⟨rfl, rfl, rfl, by decide +kernel, rfl, by decide +kernel, by decide +kernel⟩
theorem scRows : FnScope ["along", "across", "length"] ["along", "across", "length"] (defScope sRows) := ⟨rfl, rfl, rfl, by decide +kernel, rfl, by decide +kernel, by decide +kernel⟩
/-! ### heaps, lists -/
theorem same_upd {H : Hp} {p : Addr} {o : HO} (h : H p = none) : Same H (upd H p o) := fun b x e => by
  rw [upd_ne (ne_of_none e h)]
  exact e
theorem same_upd2 {H H1 : Hp} {p : Addr} {o : HO} (h : H p = none) (g : Same H H1) : Same H (upd H1 p o) := fun b x e => by
  rw [upd_ne (ne_of_none e h)]
  exact g b x e
theorem take_more {α : Type} : ∀ {l : List α} {i : Nat} {x : α}, l[i]? = some x → l.take (i + 1) = l.take i ++ [x]
  | [], i, x, h => by simp at h
  | a :: l, 0, x, h => by
    have e : a = x := Option.some.inj h
    subst e
    rfl
  | a :: l, i + 1, x, h => by
    have ih := take_more (l := l) (i := i) (x := x) h
    show a :: l.take (i + 1) = a :: l.take i ++ [x]
    rw [ih]
    rfl
theorem map_at {α : Type} {l : List α} {f : α → V} {i : Nat} {x : V} (h : (l.map f)[i]? = some x) : ∃ z, l[i]? = some z ∧ x = f z := by
  rw [List.getElem?_map] at h
  cases e : l[i]? with
  | none =>
    rw [e] at h
    cases h
  | some z =>
    rw [e] at h
    exact ⟨z, rfl, (Option.some.inj h).symm⟩
theorem iteNN {c A B : Prop} [Decidable c] (hc : ¬ c) (h : A) : if (!decide c) = true then A else B := by
  rw [decide_eq_false hc]
  exact iteT h
theorem iteDF {c A B : Prop} [Decidable c] (hc : ¬ c) (h : B) : if (decide c) = true then A else B := by
  rw [decide_eq_false hc]
  exact iteF h
theorem iteDT {c A B : Prop} [Decidable c] (hc : c) (h : A) : if (decide c) = true then A else B := by
  rw [decide_eq_true hc]
  exact iteT h
theorem room65 {k : Nat} {A : Around} (r : Room k A) : A.units + 65 < cLine := by
  have := r.un
  omega
/-- a truth value more at the made list -/
theorem bls_more {α : Type} {H1 H' : Hp} {D : Addr} {ss : List α} {g : α → Bool} {i : Nat} {s : α} (nD : H1 D = none) (sm : Same H1 H') (hD : H' D = some (.lst (((ss.map g).take i).map V.bl))) (hs : ss[i]? = some s) (hl : ss.length ≤ 1000) {k : Bool} (ek : k = g s) :
    ∃ acc, H' D = some (HO.lst acc) ∧ acc.length < sizeLine ∧ Same H1 (upd H' D (.lst (acc ++ [V.bl k]))) ∧ (upd H' D (.lst (acc ++ [V.bl k]))) D = some (.lst (((ss.map g).take (i + 1)).map V.bl)) := by
  subst ek
  have h1 : (ss.map g)[i]? = some (g s) := by
    rw [List.getElem?_map, hs]
    rfl
  refine ⟨_, hD, ?_, same_upd2 nD sm, ?_⟩
  · rw [List.length_map, List.length_take, List.length_map]
    exact small1000 (Nat.le_trans (Nat.min_le_right _ _) hl)
  · rw [upd_same, take_more h1, List.map_append]
    rfl
theorem range_more {α : Type} (f : Nat → α) (i : Nat) : (List.range (i + 1)).map f = (List.range i).map f ++ [f i] := by
  rw [List.range_succ, List.map_append]
  rfl
/-! ### squares at addresses -/
/-- the values vs stand for the squares ss: a tuple of two numbers each -/
inductive Sqs (H : Hp) : List V → List (Int × Int) → Prop
  | nil : Sqs H [] []
  | cons {a : Addr} {vs : List V} {s : Int × Int} {ss : List (Int × Int)} : H a = some (.tup [.int s.1, .int s.2]) → Sqs H vs ss → Sqs H (.ref a :: vs) (s :: ss)
theorem Sqs.same {H H' : Hp} (g : Same H H') : ∀ {vs : List V} {ss : List (Int × Int)}, Sqs H vs ss → Sqs H' vs ss
  | _, _, .nil => .nil
  | _, _, .cons h r => .cons (g _ _ h) (Sqs.same g r)
theorem Sqs.put {H : Hp} {D : Addr} {xs : List V} {o : HO} (hD : H D = some (.lst xs)) : ∀ {vs : List V} {ss : List (Int × Int)}, Sqs H vs ss → Sqs (upd H D o) vs ss
  | _, _, .nil => .nil
  | _, _, .cons (a := a) h r => .cons (by
      have ne : a ≠ D := fun e => by
        rw [e, hD] at h
        cases h
      rw [upd_ne ne]
      exact h) (Sqs.put hD r)
theorem Sqs.app {H : Hp} : ∀ {vs us : List V} {ss ts : List (Int × Int)}, Sqs H vs ss → Sqs H us ts → Sqs H (vs ++ us) (ss ++ ts)
  | _, _, _, _, .nil, g => g
  | _, _, _, _, .cons h r, g => .cons h (Sqs.app r g)
theorem Sqs.len {H : Hp} : ∀ {vs : List V} {ss : List (Int × Int)}, Sqs H vs ss → vs.length = ss.length
  | _, _, .nil => rfl
  | _, _, .cons _ r => congrArg (· + 1) (Sqs.len r)
theorem Sqs.at {H : Hp} : ∀ {vs : List V} {ss : List (Int × Int)} {i : Nat} {x : V}, Sqs H vs ss → vs[i]? = some x → ∃ a s, x = .ref a ∧ ss[i]? = some s ∧ H a = some (.tup [.int s.1, .int s.2])
  | _, _, i, x, .nil, e => by simp at e
  | _, _, 0, x, .cons h r, e => by
    have e1 := Option.some.inj e
    exact ⟨_, _, e1.symm, rfl, h⟩
  | _, _, i + 1, x, .cons h r, e => Sqs.at (i := i) r e
def sqD (s : Int × Int) : PyData := .tuple [.int s.1, .int s.2]
theorem sqD_lay (s : Int × Int) : (sqD s).canLay0 = true := by simp [sqD, PyData.canLay0, PyData.canLayAll0]
theorem sqD_depth (s : Int × Int) : (sqD s).depth = 1 := by simp [sqD, PyData.depth, PyData.depthAll]
theorem sqDs_lay : ∀ ss : List (Int × Int), PyData.canLayAll0 (ss.map sqD) = true
  | [] => by simp [PyData.canLayAll0]
  | s :: ss => by simp [PyData.canLayAll0, sqD_lay s, sqDs_lay ss]
theorem sqDs_depth : ∀ ss : List (Int × Int), PyData.depthAll (ss.map sqD) ≤ 2
  | [] => by simp [PyData.depthAll]
  | s :: ss => by
    have h1 := sqDs_depth ss
    have h2 := sqD_depth s
    simp only [List.map_cons, PyData.depthAll]
    omega
theorem sqD_shaped (s : Int × Int) : SeqAt.shaped (sqD s) = true := by
  have h := sqD_depth s
  show ((sqD s).canLay0 && decide ((sqD s).depth ≤ 64)) = true
  rw [Bool.and_eq_true]
  exact ⟨sqD_lay s, decide_eq_true (by omega)⟩
theorem sqDs_shaped (ss : List (Int × Int)) : SeqAt.shaped (.list (ss.map sqD)) = true := by
  have h1 := sqDs_depth ss
  have h2 : PyData.depth (.list (ss.map sqD)) ≤ 64 := by
    simp only [PyData.depth]
    omega
  show (PyData.canLay0 (.list (ss.map sqD)) && decide (PyData.depth (.list (ss.map sqD)) ≤ 64)) = true
  rw [Bool.and_eq_true]
  exact ⟨by simp only [PyData.canLay0]; exact sqDs_lay ss, decide_eq_true h2⟩
theorem sqD_eqv (s t : Int × Int) : PyData.eqv (sqD s) (sqD t) = decide (s = t) := by
  obtain ⟨a, b⟩ := s
  obtain ⟨c, d⟩ := t
  have e : PyData.eqv (sqD (a, b)) (sqD (c, d)) = ((a == c) && ((b == d) && true)) := by simp only [sqD, PyData.eqv, PyData.eqvAll]
  rw [e]
  by_cases h1 : a = c
  · by_cases h2 : b = d
    · subst h1 h2
      simp
    · have h : ¬ ((a, b) : Int × Int) = (c, d) := fun z => h2 (congrArg Prod.snd z)
      rw [decide_eq_false h, beq_eq_false_iff_ne.mpr h2, Bool.false_and, Bool.and_false]
  · have h : ¬ ((a, b) : Int × Int) = (c, d) := fun z => h1 (congrArg Prod.fst z)
    rw [decide_eq_false h, beq_eq_false_iff_ne.mpr h1, Bool.false_and]
theorem sqD_any (cov : List (Int × Int)) (s : Int × Int) : ((cov.map sqD).any fun z => PyData.eqv z (sqD s)) = covd cov s := by
  unfold covd
  rw [List.any_map]
  congr 1
  funext z
  exact sqD_eqv z s
theorem Sqs.dp {K : PySem.W.Frag} {H : Hp} : ∀ {vs : List V} {ss : List (Int × Int)}, Sqs H vs ss → DpAll K H vs (ss.map sqD)
  | _, _, .nil => .nil
  | _, _, .cons h r => .cons (.tup (SqT.of h) (.cons (.int _) (.cons (.int _) .nil))) (Sqs.dp r)
theorem sq_dp {K : PySem.W.Frag} {H : Hp} {a : Addr} {s : Int × Int} (h : H a = some (.tup [.int s.1, .int s.2])) : Dp K H (.ref a) (sqD s) := .tup (SqT.of h) (.cons (.int _) (.cons (.int _) .nil))
/-- one more made square -/
theorem sqs_more {H1 H' : Hp} {D : Addr} {us : List V} {ss : List (Int × Int)} {s : Int × Int} (nD : H1 D = none) (sm : Same H1 H') (hD : H' D = some (.lst us)) (hS : Sqs H' us ss) {T : Addr} (nT : H' T = none) :
    (upd H' T (.tup [.int s.1, .int s.2])) D = some (.lst us) ∧ Same H1 (upd (upd H' T (.tup [.int s.1, .int s.2])) D (.lst (us ++ [.ref T]))) ∧
      Sqs (upd (upd H' T (.tup [.int s.1, .int s.2])) D (.lst (us ++ [.ref T]))) (us ++ [.ref T]) (ss ++ [s]) := by
  have g1 : Same H' (upd H' T (.tup [.int s.1, .int s.2])) := same_upd nT
  have e1 := g1 _ _ hD
  exact ⟨e1, same_upd2 nD (sm.trans g1), Sqs.put e1 ((hS.same g1).app (.cons upd_same .nil))⟩
/-! ### two rules of one's own: o[i] read for o[i] op= e; xs[i::k] -/
section
variable {X : Cx}
theorem get_list : PGet X (rIxL X.K) := by
  rintro pins st σ H o i ov iv Q inv ro ri ⟨p, xs, k, v, rfl, rfl, hxs, hat, q⟩
  cases ro
  obtain ⟨tk, rfl⟩ := ri
  obtain ⟨us, rel, here, fits⟩ := inv.list hxs
  obtain ⟨j, seq, item, inside, low, high⟩ := atI_get hat
  obtain ⟨u, hu, ru⟩ := rel.get item
  have size : us.length = xs.length := rel.length.symm
  have line := line63
  have done : EP X pins σ Q u st := ⟨v, H, inv, ru, q⟩
  by_cases pos : 0 ≤ k
  · rw [seqIndex_of pos high] at seq
    obtain rfl := Option.some.inj seq
    exact wpAny_getItem_list here.isList pos (by omega) (by simpa using hu) done
  · rw [seqIndex_neg (by omega) low, ← size] at seq
    have ej : (k + (us.toArray.size : Int)).toNat = j := by
      rw [List.size_toArray]
      exact Option.some.inj seq
    have e2 : us.toArray.size = xs.length := by rw [List.size_toArray, size]
    exact wpAny_getItem_list_neg here.isList (by omega) (by omega) (by omega) (by rw [ej]; simpa using hu) done
/-- the items at the places that a slice names -/
def pickV {α : Type} (xs : List α) (lo hi st : Option Int) : List α :=
  (sliceRange (sliceBounds lo hi st xs.length).1 (sliceBounds lo hi st xs.length).2.1 (sliceBounds lo hi st xs.length).2.2).filterMap (xs[·]?)
theorem vals_pick {xs : List V} {us : List Value} (r : Vals xs us) : ∀ l : List Nat, Vals (l.filterMap (xs[·]?)) (l.filterMap (us[·]?))
  | [] => .nil
  | i :: l => by
    cases e : xs[i]? with
    | none =>
      have e2 := r.none_of e
      rw [List.filterMap_cons, List.filterMap_cons, e, e2]
      exact vals_pick r l
    | some x =>
      obtain ⟨u, e2, rx⟩ := r.get e
      rw [List.filterMap_cons, List.filterMap_cons, e, e2]
      exact .cons rx (vals_pick r l)
theorem pick_vals {its : List Value} {lo hi st : Option Int} : slicePick its.toArray lo hi st = (pickV its lo hi st).toArray := by
  unfold slicePick pickV
  simp only [List.size_toArray, List.getElem?_toArray]
def tSl3 (K : PySem.W.Frag) (te : TE) (tl th ts : TO) : TE := fun σ H Q => te σ H fun x H1 => tl σ H1 fun l H2 => th σ H2 fun u H3 => ts σ H3 fun st H4 => ∃ a xs, x = .ref a ∧ SqL K H4 a xs ∧ st ≠ some 0 ∧
  (pickV xs l u st).length ≤ sizeLine ∧ ∀ p, H4 p = none → Q (.ref p) (upd H4 p (.lst (pickV xs l u st)))
theorem pe_slice3 {e st : Expr} {lo hi : Option Expr} {te : TE} {tl th ts : TO} {p2 pos : Pos} (he : PE X e te) (hl : PO X lo tl) (hu : PO X hi th) (hs : PO X (some st) ts) : PE X (.Subscript e (.Slice lo hi (some st) p2) pos) (tSl3 X.K te tl th ts) := by
  constructor
  intro pins sa σ Ha Q inv0 want
  apply Subscript_
  refine thn (he.run pins sa σ Ha _ inv0 want) ?_
  rintro v sb ⟨x, Hb, inv1, rel, want1⟩
  apply wpAny_Slice
  refine thn (hl.run pins sb σ Hb _ inv1 want1) ?_
  rintro v1 sc ⟨first, Hc, inv2, part1, want2⟩
  refine thn (hu.run pins sc σ Hc _ inv2 want2) ?_
  rintro v2 sd ⟨last, Hd, inv3, part2, want3⟩
  refine thn (hs.run pins sd σ Hd _ inv3 want3) ?_
  rintro v3 se ⟨step, He, inv4, part3, a, xs, rfl, hxs, no0, short, q⟩
  cases rel
  let cut : Obj := { cls := .type "slice", data := .fields #[v1, v2, v3] }
  have inv5 : Inv X pins σ He { se with heap := se.heap.push cut } := inv4.kept (t' := se.toks) fun _ _ z => Heap.get?_push_of_some _ z
  obtain ⟨us, vals, here, line⟩ := inv5.list hxs
  have size := vals.length
  have picked : Vals (pickV xs first last step) (pickV us first last step) := by
    unfold pickV
    rw [size]
    exact vals_pick vals _
  have got := wpAny_getItem_list_slice (prog := X.prog) (w := X.w) (A := X.A) (E := X.xe) (Q := EP X pins σ Q) here.isList (Heap.IsSliceOf.new se.heap v1 v2 v3) part1 part2 part3 no0
    (by
      rw [pick_vals]
      refine ⟨.ref _, _, inv5.laid (t' := se.toks) (o := .lst (pickV xs first last step)) (fun _ _ z => Heap.get?_push_of_some _ z) (Nat.le_refl _) ?_, rfl, q _ (inv5.hok.fresh (Nat.le_refl _))⟩
      exact ⟨short, _, 0, picked, Heap.get?_push_size _ rfl⟩)
    (by rw [List.size_toArray]; omega)
  exact tail_any (value := e) (slice := .Slice lo hi (some st) p2) (ops := [.ref a, .ref se.heap.objs.size]) here.isList.typeIs PySem.slot_list_getitem.lookup got (by with_unfolding_all rfl)
end
/-! ### the promises -/
def spSizes : Sp := fun vs H Q _ => ∃ w h n : Int, vs = [.int w, .int h, .int n] ∧ ∀ H' : Hp, Same H H' → Q (.bl (okAll w h n)) H'
def spLayer : Sp := fun vs H Q _ => ∃ w h : Int, vs = [.int w, .int h] ∧ 0 ≤ w ∧ w ≤ 6 ∧ 0 ≤ h ∧ h ≤ 6 ∧
  ∀ (H' : Hp) (p : Addr) (us : List V), Same H H' → H' p = some (.lst us) → Sqs H' us (layerSq w h) → Q (.ref p) H'
def spCount : Sp := fun vs H Q _ => ∃ (a : Addr) (us : List V) (ss : List (Int × Int)) (n : Int), vs = [.ref a, .int n] ∧ H a = some (.lst us) ∧ Sqs H us ss ∧ 1 ≤ n ∧ n ≤ 6 ∧
  ∀ (H' : Hp) (p : Addr), Same H H' → H' p = some (.lst ((cntV n ss).map V.int)) → Q (.ref p) H'
def spRows : Sp := fun vs H Q _ => ∃ a b n : Int, vs = [.int a, .int b, .int n] ∧ 0 ≤ a ∧ a ≤ 6 ∧ 0 ≤ b ∧ b ≤ 6 ∧ 1 ≤ n ∧ n ≤ 6 ∧ ∀ H' : Hp, Same H H' → Q (.int (a.fdiv n * b + b.fdiv n * a.fmod n)) H'
def spBounds : Sp := fun vs _ Q _ => ∃ w h n : Int, vs = [.int w, .int h, .int n] ∧ 0 ≤ w ∧ 0 ≤ h ∧ 0 ≤ n ∧
  ∀ (H' : Hp) (p : Addr), H' p = some (.lst ((PyKbe4.bounds w h n).map V.int)) → Q (.ref p) H'
section
variable {P : Program} {w : World} {K : PySem.W.Frag} {mg : Str → Option Value} {base : Heap}
theorem ok_sizes {f : Addr} {fd : FuncData} {t : Tok} (F : Fun K "sizes_in_range" "sizes_in_range" sSizes f fd) (ma : mg "all" = none) (mG : mg "GREATEST_SIZE" = some (.int 6 t)) :
    FnOk P w K mg base CX0 1 f fd ["width", "height", "length"] spSizes := by
  refine F.ok scZ (fun vs H Q E h => ?_) (fun cdv A outer s H vs Q E hr h => ?_)
  · obtain ⟨a, b, c, rfl, _⟩ := h
    rfl
  obtain ⟨a, b, c, rfl, q⟩ := h
  refine ⟨_, pss_one (ps_ret (pe_callB (cr_all rfl) (by rfl) ma (by decide +kernel) (pa_cons
    (pe_lc (own := [("size", 3)]) (g := gName 3) (by rfl) scZ.nd (pi_tup (pe_tup (pa_cons (pv 0) (pa_cons (pv 1) (pa_cons (pv 2) pa_nil)))))
      (blkOk_by (own := [("size", 3)]) (N := ["width", "height", "length", "size"]) (sc := defScope sSizes) (by decide +kernel))
      (fun _ _ _ _ _ => pg_name (i := 3) scZ.nd rfl (Or.inl rfl)) (fun _ _ _ _ _ => pts_nil)
      (fun _ _ _ _ _ => pe_chain op_le op_le pe_int (pv 3) (pe_glob (v := .int 6) rfl mG ⟨_, rfl⟩))) pa_nil))), ?_⟩
  refine ⟨_, rfl, _, rfl, _, rfl, (by show 3 ≤ sizeLine; decide), fun T nT => ?_⟩
  refine ⟨T, rfl, ⟨_, SqT.of upd_same⟩, fun D nD => ?_⟩
  have hT : (upd H T (.tup [.int a, .int b, .int c])) T = some (.tup [.int a, .int b, .int c]) := upd_same
  refine lc_tup (K := K) (a := T) (xs := [a, b, c].map V.int) (fun i H' => Same (upd H T (.tup [.int a, .int b, .int c])) H' ∧ H' D = some (.lst ((([a, b, c].map okSize).take i).map V.bl)))
    ⟨same_upd nD, upd_same⟩ (fun i H' _ z => SqT.of (z.1 _ _ hT)) ?_ ?_
  · rintro i x H' hx ⟨sm, hD⟩
    obtain ⟨z, hz, rfl⟩ := map_at hx
    refine ⟨rfl, ?_⟩
    have fin : ∀ k : Bool, k = okSize z → ∃ acc, H' D = some (HO.lst acc) ∧ acc.length < sizeLine ∧ Same (upd H T (.tup [.int a, .int b, .int c])) (upd H' D (.lst (acc ++ [V.bl k]))) ∧
        upd H' D (.lst (acc ++ [V.bl k])) D = some (.lst ((([a, b, c].map okSize).take (i + 1)).map V.bl)) := fun k ek => by
      subst ek
      have h1 : ([a, b, c].map okSize)[i]? = some (okSize z) := by
        rw [List.getElem?_map, hz]
        rfl
      refine ⟨_, hD, ?_, same_upd2 nD sm, ?_⟩
      · rw [List.length_map, List.length_take]
        exact Nat.lt_of_le_of_lt (Nat.min_le_right _ _) (by show 3 < sizeLine; decide)
      · rw [upd_same, take_more h1, List.map_append]
        rfl
    refine ⟨_, rfl, _, _, rfl, rfl, _, rfl, ?_⟩
    refine ite2 (fun c1 => ⟨_, _, rfl, rfl, fin _ ?_⟩) (fun c1 => fin _ ?_)
    · unfold okSize
      rw [c1, Bool.true_and]
    · unfold okSize
      rw [Bool.eq_false_iff.mpr c1, Bool.false_and]
  · rintro H' ⟨sm, hD⟩
    refine ⟨D, [a, b, c].map okSize, rfl, SqL.of hD, ?_⟩
    have e : ([a, b, c].map okSize).all id = okAll a b c := rfl
    rw [e]
    exact q H' ((same_upd nT).trans sm)
theorem ok_layer {f : Addr} {fd : FuncData} (F : Fun K "layer_squares" "layer_squares" sLayer f fd) (mr : mg "range" = none) : FnOk P w K mg base CX0 1 f fd ["width", "height"] spLayer := by
  refine F.ok scLayer (fun vs H Q E h => ?_) (fun cdv A outer s H vs Q E hr h => ?_)
  · obtain ⟨w, h, rfl, _⟩ := h
    rfl
  obtain ⟨wi, he, rfl, w0, w6, h0, h6, q⟩ := h
  refine ⟨_, pss_cons (ps_set (i := 2) scLayer.nd rfl (.inl rfl) (pe_lst pa_nil))
    (pss_cons (ps_for PassesOwn.never rfl (pi_range1 (by rfl) mr (pa_cons (pv 1) pa_nil)) (pg_name (i := 3) scLayer.nd rfl (.inr rfl))
      (pss_one (ps_expr (pe_bm PySem.F.plainAttrs_list PySem.F.slot_list_extend PySem.F.type_list_extend mt_extend (pv 2) (pa_cons
        (pe_lc (own := [("x", 4)]) (g := gName 4) (by rfl) scLayer.nd (pi_range1 (by rfl) mr (pa_cons (pv 0) pa_nil))
          (blkOk_by (own := [("x", 4)]) (N := ["width", "height", "squares", "y", "x"]) (sc := defScope sLayer) (by decide +kernel))
          (fun _ _ _ _ _ => pg_name (i := 4) scLayer.nd rfl (Or.inl rfl)) (fun _ _ _ _ _ => pts_nil)
          (fun _ _ _ _ _ => pe_tup (pa_cons (pv 4) (pa_cons (pv 3) pa_nil)))) pa_nil)))))
    (pss_one (ps_ret (pv 2)))), ?_⟩
  refine ⟨(by show 0 ≤ sizeLine; decide), fun S nS => ?_⟩
  refine ⟨_, rfl, he, rfl, by omega, by omega, ?_⟩
  refine for_range (lo := 0) (n := he.toNat) (fun i σ H' => ∃ (vy vx : Option V) (us : List V), σ = [some (.int wi), some (.int he), some (.ref S), vy, vx] ∧ Same H H' ∧ H' S = some (.lst us) ∧ Sqs H' us ((List.range i).flatMap (rowSq wi)))
    ⟨none, none, [], rfl, same_upd nS, upd_same, .nil⟩ ?_ ?_
  · rintro i σ H1 hi ⟨vy, vx, us, rfl, sm, hS, hU⟩
    rw [show (0 : Int) + (i : Int) = (i : Int) by omega]
    refine ⟨_, rfl, .inl ⟨rfl, _, SqL.of hS⟩, ?_⟩
    refine ⟨_, rfl, wi, rfl, by omega, by omega, fun D nD => ?_⟩
    refine lc_range (lo := 0) (n := wi.toNat) (fun j H' => Same H1 H' ∧ ∃ us', H' D = some (.lst us') ∧ Sqs H' us' ((List.range j).map fun (x : Nat) => ((x : Int), (i : Int))))
      ⟨same_upd nD, [], upd_same, .nil⟩ ?_ ?_
    · rintro j H' hj ⟨sm2, us', hD, hD2⟩
      refine ⟨rfl, ?_⟩
      refine ⟨_, rfl, _, rfl, (by show 2 ≤ sizeLine; decide), fun T nT => ?_⟩
      rw [show (0 : Int) + (j : Int) = (j : Int) by omega]
      obtain ⟨a1, a2, a3⟩ := sqs_more (s := ((j : Int), (i : Int))) nD sm2 hD hD2 nT
      refine ⟨us', a1, ?_, a2, _, upd_same, ?_⟩
      · rw [hD2.len, List.length_map, List.length_range]
        exact small1000 (by omega)
      · rw [range_more]
        exact a3
    · rintro H' ⟨sm2, us', hD, hD2⟩
      have hS' := sm2 _ _ hS
      have hU' := hU.same sm2
      have l1 := hU'.len
      have l2 := hD2.len
      rw [List.length_map, List.length_range] at l2
      have l3 := rows_len wi i
      have l4 : i * wi.toNat ≤ 6 * 6 := Nat.mul_le_mul (by omega) (by omega)
      refine ⟨S, D, us, us', rfl, rfl, hS', hD, Nat.le_of_lt (small1000 (by omega)), ?_⟩
      refine ⟨_, _, us ++ us', rfl, same_upd2 nS (sm.trans sm2), upd_same, ?_⟩
      have e : (List.range (i + 1)).flatMap (rowSq wi) = (List.range i).flatMap (rowSq wi) ++ (List.range wi.toNat).map fun (x : Nat) => ((x : Int), (i : Int)) := by
        rw [List.range_succ, List.flatMap_append, List.flatMap_cons, List.flatMap_nil, List.append_nil]
        rfl
      rw [e]
      exact Sqs.put hS' (hU'.app hD2)
  · rintro σ H1 ⟨vy, vx, us, rfl, sm, hS, hU⟩
    exact ⟨_, rfl, q H1 S us sm hS hU⟩
theorem ok_count {f : Addr} {fd : FuncData} (F : Fun K "count_colours" "count_colours" sCount f fd) : FnOk P w K mg base CX0 1 f fd ["squares", "length"] spCount := by
  refine F.ok scCount (fun vs H Q E h => ?_) (fun cdv A outer s H vs Q E hr h => ?_)
  · obtain ⟨a, us, ss, n, rfl, _⟩ := h
    rfl
  obtain ⟨a, us, ss, n, rfl, hA, hS, n1, n6, q⟩ := h
  refine ⟨_, pss_cons (ps_set (i := 2) scCount.nd rfl (.inl rfl) (pe_op op_rep (pe_lst (pa_cons pe_int pa_nil)) (pv 1)))
    (pss_cons (ps_for PassesOwn.never rfl (pi_list (pv 0)) (pg_name (i := 3) scCount.nd rfl (.inl rfl))
      (pss_one (ps_augS (pv 2) (pe_op op_modN (pe_op op_add (pe_ix ix_tup (pv 3) pe_int (fun _ _ => rfl)) (pe_ix ix_tup (pv 3) pe_int (fun _ _ => rfl))) (pv 1)) get_list pe_int ip_add set_list)))
    (pss_one (ps_ret (pv 2)))), ?_⟩
  refine ⟨(by show 1 ≤ sizeLine; decide), fun Z nZ => ?_⟩
  have hA0 := (same_upd (o := .lst [V.int 0]) nZ) _ _ hA
  have hS0 := hS.same (same_upd (o := .lst [V.int 0]) nZ)
  have smZ := same_upd (o := .lst [V.int 0]) nZ
  have hZ : (upd H Z (.lst [V.int 0])) Z = some (.lst [V.int 0]) := upd_same
  generalize (upd H Z (.lst [V.int 0])) = H0 at hA0 hS0 smZ hZ ⊢
  refine ⟨_, rfl, Z, n, _, rfl, rfl, hZ, by omega, by omega, ?_, fun C nC => ?_⟩
  · show 1 * n.toNat ≤ sizeLine
    exact Nat.le_of_lt (small1000 (by omega))
  have e0 : (List.replicate n.toNat [V.int 0]).flatten = (cntV n []).map V.int := by
    rw [cntV_nil, List.map_replicate]
    generalize n.toNat = k
    induction k with
    | zero => rfl
    | succ k ih => rw [List.replicate_succ, List.replicate_succ, List.flatten_cons, ih]; rfl
  rw [e0]
  have smC := smZ.trans (same_upd (o := .lst ((cntV n []).map V.int)) nC)
  have hA1 := smC _ _ hA
  refine ⟨_, rfl, a, rfl, ⟨_, SqL.of hA1⟩, ?_⟩
  refine for_list (K := K) (a := a) (xs := us) (fun i σ H' => ∃ v3 : Option V, σ = [some (.ref a), some (.int n), some (.ref C), v3] ∧ Same H H' ∧ H' C = some (.lst ((cntV n (ss.take i)).map V.int)))
    ⟨none, rfl, smC, upd_same⟩ (fun i σ H' _ ⟨_, _, z, _⟩ => SqL.of (z _ _ hA)) ?_ ?_
  · rintro i x σ H1 hx ⟨v3, rfl, sm, hC⟩
    obtain ⟨T, s, rfl, hs, hT⟩ := hS.at hx
    have hT' := sm _ _ hT
    have lt := colN_lt (n := n) (by omega) s
    refine ⟨_, rfl, _, rfl, T, _, 0, _, rfl, rfl, SqT.of hT', atI_nat (j := 0) rfl, _, rfl, T, _, 1, _, rfl, rfl, SqT.of hT', atI_nat (j := 1) rfl, _, _, rfl, rfl, _, rfl, _, _, rfl, rfl, (by omega), ?_⟩
    have ec : V.int ((s.1 + s.2).fmod n) = V.int ((colN n s : Nat) : Int) := congrArg V.int (colN_eq (by omega) s)
    have e1 : ((cntV n (ss.take i)).map V.int)[colN n s]? = some (V.int ((cnt n (ss.take i) (colN n s) : Nat) : Int)) := by
      rw [List.getElem?_map, cntV_at _ lt]
      rfl
    refine ⟨C, _, _, _, rfl, ec, SqL.of hC, atI_nat e1, _, _, rfl, rfl, C, _, _, colN n s, rfl, ec, hC, ?_, ?_⟩
    · rw [List.length_map, cntV_len]
      unfold ixN
      rw [if_pos (by omega), if_pos (by omega), Int.toNat_natCast]
    · refine ⟨_, rfl, ?_, ?_⟩
      · exact same_upd2 (smZ.free nC) sm
      · have e2 : ((cntV n (ss.take i)).map V.int).set (colN n s) (V.int (((cnt n (ss.take i) (colN n s) : Nat) : Int) + 1)) = (cntV n (ss.take (i + 1))).map V.int := by
          rw [← List.map_set, cntV_step, take_more hs]
        rw [e2]
        exact upd_same
  · rintro σ H1 ⟨v3, rfl, sm, hC⟩
    rw [hS.len, List.take_of_length_le (Nat.le_refl _)] at hC
    exact ⟨_, rfl, q H1 C sm hC⟩
theorem fdiv_small {a n : Int} (a0 : 0 ≤ a) (a6 : a ≤ 6) (n1 : 1 ≤ n) : 0 ≤ a.fdiv n ∧ a.fdiv n ≤ 6 := by
  rw [Int.fdiv_eq_ediv_of_nonneg _ (by omega)]
  exact ⟨Int.ediv_nonneg a0 (by omega), Int.le_trans (Int.ediv_le_self _ a0) a6⟩
theorem ok_rows {f : Addr} {fd : FuncData} (F : Fun K "bars_in_rows" "bars_in_rows" sRows f fd) : FnOk P w K mg base CX0 1 f fd ["along", "across", "length"] spRows := by
  refine F.ok scRows (fun vs H Q E h => ?_) (fun cdv A outer s H vs Q E hr h => ?_)
  · obtain ⟨a, b, n, rfl, _⟩ := h
    rfl
  obtain ⟨a, b, n, rfl, a0, a6, b0, b6, n1, n6, q⟩ := h
  have d1 := fdiv_small a0 a6 n1
  have d2 := fdiv_small b0 b6 n1
  refine ⟨_, pss_one (ps_ret (pe_op op_add (pe_op op_mul (pe_op op_fdivN (pv 0) (pv 2)) (pv 1)) (pe_op op_mul (pe_op op_fdivN (pv 1) (pv 2)) (pe_op op_modN (pv 0) (pv 2))))), ?_⟩
  refine ⟨_, rfl, _, rfl, _, _, rfl, rfl, ⟨by omega, by omega⟩, _, rfl, _, _, rfl, rfl, .inl ⟨?_, ?_⟩, _, rfl, _, rfl, _, _, rfl, rfl, ⟨by omega, by omega⟩, _, rfl, _, rfl, _, _, rfl, rfl, (by omega), _, _, rfl, rfl, .inl ⟨?_, ?_⟩, _, _, rfl, rfl, ?_⟩
  · exact Int.lt_of_lt_of_le (by decide) d1.1
  · exact Int.lt_of_le_of_lt d1.2 (by decide)
  · exact Int.lt_of_lt_of_le (by decide) d2.1
  · exact Int.lt_of_le_of_lt d2.2 (by decide)
  · exact q H (Same.refl H)
theorem ok_bounds {f fZ fC fL fR : Addr} {fd fdZ fdC fdL fdR : FuncData} {tO : Tok} (F : Fun K "bounds" "bounds" sBounds f fd) (GZ : FnOk P w K mg base CX0 1 fZ fdZ ["width", "height", "length"] spSizes) (bZ : Binds K fdZ ["width", "height", "length"] []) (kZ : PySem.W.keepIn K (.ref fZ) = true)
    (mZ : mg "sizes_in_range" = some (.ref fZ)) (GC : FnOk P w K mg base CX0 1 fC fdC ["squares", "length"] spCount) (bC : Binds K fdC ["squares", "length"] []) (kC : PySem.W.keepIn K (.ref fC) = true) (mC : mg "count_colours" = some (.ref fC))
    (GL : FnOk P w K mg base CX0 1 fL fdL ["width", "height"] spLayer) (bL : Binds K fdL ["width", "height"] []) (kL : PySem.W.keepIn K (.ref fL) = true) (mL : mg "layer_squares" = some (.ref fL))
    (GR : FnOk P w K mg base CX0 1 fR fdR ["along", "across", "length"] spRows) (bR : Binds K fdR ["along", "across", "length"] []) (kR : PySem.W.keepIn K (.ref fR) = true) (mR : mg "bars_in_rows" = some (.ref fR))
    (mO : mg "OUT_OF_RANGE" = some (.int (-22) tO)) (mn : mg "min" = none) (mx : mg "max" = none) : FnOk P w K mg base CX0 2 f fd ["width", "height", "length"] spBounds := by
  refine F.ok scBounds (fun vs H Q E h => ?_) (fun cdv A outer s H vs Q E hr h => ?_)
  · obtain ⟨a, b, c, rfl, _⟩ := h
    rfl
  obtain ⟨a, b, c, rfl, ha, hb, hc, q⟩ := h
  refine ⟨_, pss_cons (ps_if (pt_not (pt_val (pe_call GZ hr rfl mZ kZ bZ .nil pass0 (pa_cons (pv 0) (pa_cons (pv 1) (pa_cons (pv 2) pa_nil)))))) (pss_one (ps_ret (pe_lst (pa_cons (pe_glob (v := .int (-22)) rfl mO ⟨_, rfl⟩) pa_nil)))) pss_nil)
    (pss_cons (ps_set (i := 3) scBounds.nd rfl (.inl rfl) (pe_callB (cr_min rfl) (by rfl) mn (by decide +kernel) (pa_cons (pe_call GC hr rfl mC kC bC .nil pass0 (pa_cons (pe_call GL hr rfl mL kL bL .nil pass0 (pa_cons (pv 0) (pa_cons (pv 1) pa_nil))) (pa_cons (pv 2) pa_nil))) pa_nil)))
    (pss_cons (ps_set (i := 4) scBounds.nd rfl (.inl rfl) (pe_callB (call_max2 rfl) (by rfl) mx (by decide +kernel) (pa_cons (pe_call GR hr rfl mR kR bR .nil pass0 (pa_cons (pv 0) (pa_cons (pv 1) (pa_cons (pv 2) pa_nil)))) (pa_cons (pe_call GR hr rfl mR kR bR .nil pass0 (pa_cons (pv 1) (pa_cons (pv 0) (pa_cons (pv 2) pa_nil)))) pa_nil))))
    (pss_one (ps_ret (pe_lst (pa_cons (pv 3) (pa_cons (pv 4) pa_nil))))))), ?_⟩
  refine ⟨_, rfl, _, rfl, _, rfl, a, b, c, rfl, fun H1 sm1 => ?_⟩
  refine ⟨_, rfl, ?_⟩
  cases e : okAll a b c with
  | false =>
    refine iteT ⟨(by show 1 ≤ sizeLine; decide), fun p _ => q _ p ?_⟩
    rw [upd_same, bounds_out ha hb hc e]
    rfl
  | true =>
    obtain ⟨⟨w1, w6⟩, ⟨h1, h6⟩, n1, n6⟩ := okAll_true e
    have e2 := bounds_in e
    refine iteF ?_
    refine ⟨_, rfl, _, rfl, a, b, rfl, ha, w6, hb, h6, fun H2 p us sm2 hp hS => ?_⟩
    refine ⟨_, rfl, p, us, _, c, rfl, hp, hS, n1, n6, fun H3 r sm3 hr3 => ?_⟩
    refine ⟨r, _, rfl, SqL.of hr3, (by rw [cntV_len]; omega), fun m hm hle => ?_⟩
    refine ⟨_, rfl, _, rfl, _, rfl, a, b, c, rfl, ha, w6, hb, h6, n1, n6, fun H4 sm4 => ?_⟩
    refine ⟨_, rfl, _, rfl, _, rfl, b, a, c, rfl, hb, h6, ha, w6, n1, n6, fun H5 sm5 => ?_⟩
    refine ⟨_, _, rfl, ?_⟩
    refine ⟨_, rfl, _, rfl, (by show 2 ≤ sizeLine; decide), fun M nM => q _ M ?_⟩
    rw [upd_same, e2, ← minC_is w1 h1 hm hle, ← rowP_is]
    rfl
end
/-! ### the end -/
theorem all_mk {P : Program} {w : World} {K : PySem.W.Frag} {h : Heap} {mg : Str → Option Value} {fa f1 f2 f3 f4 f5 : Addr} {t1 t2 : Tok} (X : K.In h) (G : h.Ns mainGlobals mg) (hfa : mg "bounds" = some (.ref fa))
    {od1 an1 od2 an2 od3 an3 od4 an4 od5 an5 : Option Addr} {sl1 sl2 sl3 sl4 sl5 : Array (Option Value)} {oc1 kV1 dc1 pm1 cd1 ct1 oc2 kV2 dc2 pm2 cd2 ct2 oc3 kV3 dc3 pm3 cd3 ct3 oc4 kV4 dc4 pm4 cd4 ct4 oc5 kV5 dc5 pm5 cd5 ct5 : Value}
    (a1 : PySem.W.nsIn K mainGlobals "bounds" = some (some (.ref f1))) (l1 : K.lookup f1 = some ⟨oc1, od1, .func (PySem.W.fnOf "bounds" "bounds" (defArgs sBounds) (defBody sBounds) (defScope sBounds) .none kV1 dc1 pm1 an1 cd1 ct1), sl1⟩) (c1 : PySem.W.codeIn K cd1 "bounds" = true) (k1 : PySem.W.keepIn K (.ref f1) = true)
    (a2 : PySem.W.nsIn K mainGlobals "sizes_in_range" = some (some (.ref f2))) (l2 : K.lookup f2 = some ⟨oc2, od2, .func (PySem.W.fnOf "sizes_in_range" "sizes_in_range" (defArgs sSizes) (defBody sSizes) (defScope sSizes) .none kV2 dc2 pm2 an2 cd2 ct2), sl2⟩) (c2 : PySem.W.codeIn K cd2 "sizes_in_range" = true) (k2 : PySem.W.keepIn K (.ref f2) = true)
    (a3 : PySem.W.nsIn K mainGlobals "layer_squares" = some (some (.ref f3))) (l3 : K.lookup f3 = some ⟨oc3, od3, .func (PySem.W.fnOf "layer_squares" "layer_squares" (defArgs sLayer) (defBody sLayer) (defScope sLayer) .none kV3 dc3 pm3 an3 cd3 ct3), sl3⟩) (c3 : PySem.W.codeIn K cd3 "layer_squares" = true) (k3 : PySem.W.keepIn K (.ref f3) = true)
    (a4 : PySem.W.nsIn K mainGlobals "count_colours" = some (some (.ref f4))) (l4 : K.lookup f4 = some ⟨oc4, od4, .func (PySem.W.fnOf "count_colours" "count_colours" (defArgs sCount) (defBody sCount) (defScope sCount) .none kV4 dc4 pm4 an4 cd4 ct4), sl4⟩) (c4 : PySem.W.codeIn K cd4 "count_colours" = true) (k4 : PySem.W.keepIn K (.ref f4) = true)
    (a5 : PySem.W.nsIn K mainGlobals "bars_in_rows" = some (some (.ref f5))) (l5 : K.lookup f5 = some ⟨oc5, od5, .func (PySem.W.fnOf "bars_in_rows" "bars_in_rows" (defArgs sRows) (defBody sRows) (defScope sRows) .none kV5 dc5 pm5 an5 cd5 ct5), sl5⟩) (c5 : PySem.W.codeIn K cd5 "bars_in_rows" = true) (k5 : PySem.W.keepIn K (.ref f5) = true)
    (g1 : PySem.W.nsIn K mainGlobals "GREATEST_SIZE" = some (some (.int 6 t1))) (g2 : PySem.W.nsIn K mainGlobals "OUT_OF_RANGE" = some (some (.int (-22) t2))) (z1 : PySem.W.nsIn K mainGlobals "all" = some none) (z2 : PySem.W.nsIn K mainGlobals "range" = some none) (z3 : PySem.W.nsIn K mainGlobals "min" = some none) (z4 : PySem.W.nsIn K mainGlobals "max" = some none) :
    ∃ fd : FuncData, (∀ (s : Shared) (us : List Value), us.length = (["width", "height", "length"] : List Str).length → BindsTo s fd ⟨us, []⟩ ((["width", "height", "length"] : List Str).zip us)) ∧
      ∀ base : Heap, K.In base → base.Ns mainGlobals mg → FnOk P w K mg base CX0 2 fa fd ["width", "height", "length"] spBounds := by
  have e := hfa.symm.trans (PySem.W.mg_of X G a1)
  cases e
  have F1 := fun_mk (st := sBounds) l1 c1 k1
  have F2 := fun_mk (st := sSizes) l2 c2 k2
  have F3 := fun_mk (st := sLayer) l3 c3 k3
  have F4 := fun_mk (st := sCount) l4 c4 k4
  have F5 := fun_mk (st := sRows) l5 c5 k5
  have b2 := F2.binds (ps := ["width", "height", "length"]) fun _ _ _ _ _ _ us hl => match us, hl with | [_, _, _], _ => rfl
  have b3 := F3.binds (ps := ["width", "height"]) fun _ _ _ _ _ _ us hl => match us, hl with | [_, _], _ => rfl
  have b4 := F4.binds (ps := ["squares", "length"]) fun _ _ _ _ _ _ us hl => match us, hl with | [_, _], _ => rfl
  have b5 := F5.binds (ps := ["along", "across", "length"]) fun _ _ _ _ _ _ us hl => match us, hl with | [_, _, _], _ => rfl
  refine ⟨PySem.W.fnOf "bounds" "bounds" (defArgs sBounds) (defBody sBounds) (defScope sBounds) .none kV1 dc1 pm1 an1 cd1 ct1, fun s us hu => match us, hu with | [_, _, _], _ => .of_eq rfl, fun base _ _ => ?_⟩
  have ma := PySem.W.mg_none_of X G z1
  have mr := PySem.W.mg_none_of X G z2
  have mn := PySem.W.mg_none_of X G z3
  have mx := PySem.W.mg_none_of X G z4
  have GZ := ok_sizes (P := P) (w := w) (base := base) F2 ma (PySem.W.mg_of X G g1)
  have GL := ok_layer (P := P) (w := w) (base := base) F3 mr
  have GC := ok_count (P := P) (w := w) (mg := mg) (base := base) F4
  have GR := ok_rows (P := P) (w := w) (mg := mg) (base := base) F5
  exact ok_bounds F1 GZ b2 k2 (PySem.W.mg_of X G a2) GC b4 k4 (PySem.W.mg_of X G a4) GL b3 k3 (PySem.W.mg_of X G a3) GR b5 k5 (PySem.W.mg_of X G a5) (PySem.W.mg_of X G g2) mn mx
end LB
open PySem PySem.W PyProof.Rows
set_option maxRecDepth 100000 in
set_option maxHeartbeats 8000000 in
theorem PySem.Challenge.cw_layerbars_s05_bounds_holds : PySem.Challenge.rw_layerbars_s05_bounds.Holds := by
  w_on; k_headS; (case hw => exact ⟨[.int 1, .int 1, .int 1], by decide +kernel, by decide +kernel⟩)
  k_fillS
  refine L2.walk_specK (r := PySem.Challenge.rw_layerbars_s05_bounds) (k := 2) (CX := L2.CX0) (ps := ["width", "height", "length"]) (sp := fun _ => LB.spBounds) (by decide +kernel) rfl rfl ⟨rfl, by decide, by decide⟩ (fun w h Y => PySem.W.kIn_of Y) ?F ?S (fun _ _ _ _ z => z)
  case F =>
    intro w mg fa h Y KX G hmg
    refine' LB.all_mk KX G hmg ?a1 ?l1 ?c1 ?k1 ?a2 ?l2 ?c2 ?k2 ?a3 ?l3 ?c3 ?k3 ?a4 ?l4 ?c4 ?k4 ?a5 ?l5 ?c5 ?k5 ?g1 ?g2 ?z1 ?z2 ?z3 ?z4
    (case a1 => k_is); (case l1 => k_is); (case c1 => k_is); (case k1 => k_is)
    (case a2 => k_is); (case l2 => k_is); (case c2 => k_is); (case k2 => k_is)
    (case a3 => k_is); (case l3 => k_is); (case c3 => k_is); (case k3 => k_is)
    (case a4 => k_is); (case l4 => k_is); (case c4 => k_is); (case k4 => k_is)
    (case a5 => k_is); (case l5 => k_is); (case c5 => k_is); (case k5 => k_is)
    (case g1 => k_is); (case g2 => k_is); (case z1 => k_is); (case z2 => k_is)
    (case z3 => k_is); (case z4 => k_is)
  case S =>
    intro K H xs a hO hwi hask hx
    obtain ⟨x, y, n, u⟩ := a
    cases hx with
    | cons h1 r1 =>
      cases r1 with
      | cons h2 r2 =>
        cases r2 with
        | cons h3 r3 =>
          cases r3
          cases h1
          cases h2
          cases h3
          have q : (Codec.inInt 0 4294967295 x && (Codec.inInt 0 4294967295 y && (Codec.inInt 0 4294967295 n && true))) = true := hwi
          simp only [Bool.and_eq_true, Codec.inInt, decide_eq_true_eq] at q
          exact ⟨x, y, n, rfl, q.1.1, q.2.1.1, q.2.2.1.1, fun H' p hp => .lst (L2.SqL.of hp) (L2.dw_ints _)⟩
#print axioms PySem.Challenge.cw_layerbars_s05_bounds_holds
