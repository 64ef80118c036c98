import PyProof.Rows.All
import Wide.All
import OpenK.AllK
import Wide.FinOn
import Open.SpecLaws
import KE.OsGo
import HandS.ForSpec
import HandS.Comp
import HandS.Iter
import HandS.Deep
import KE.KRevSl
import PySem.Challenge.RW_layerbars_s01_fill
set_option Elab.async false
set_option maxRecDepth 100000
set_option maxHeartbeats 2000000
namespace LB
open PySem PySem.Spec PyProof.Rows L2
open PySem.W (Codec)
/-! ### the mathematics: sizes and squares -/
def okSize (i : Int) : Bool := decide (1 ≤ i) && decide (i ≤ 6)
def okAll (w h n : Int) : Bool := [w, h, n].all okSize
theorem okAll_true {w h n : Int} (q : okAll w h n = true) : (1 ≤ w ∧ w ≤ 6) ∧ (1 ≤ h ∧ h ≤ 6) ∧ (1 ≤ n ∧ n ≤ 6) := by
  simp only [okAll, okSize, List.all_cons, List.all_nil, Bool.and_true, Bool.and_eq_true, decide_eq_true_eq] at q
  exact q
theorem okAll_layer {w h n : Int} (hw : 0 ≤ w) (hh : 0 ≤ h) (hn : 0 ≤ n) : Kbe4.validLayer w.toNat h.toNat n.toNat = okAll w h n := by
  have e : ∀ i : Int, 0 ≤ i → (decide (1 ≤ i.toNat) && decide (i.toNat ≤ 6)) = okSize i := fun i hi => by
    unfold okSize
    rw [decide_eq_decide.mpr (show 1 ≤ i.toNat ↔ 1 ≤ i by omega), decide_eq_decide.mpr (show i.toNat ≤ 6 ↔ i ≤ 6 by omega)]
  show (((((decide (1 ≤ w.toNat) && decide (w.toNat ≤ 6)) && decide (1 ≤ h.toNat)) && decide (h.toNat ≤ 6)) && decide (1 ≤ n.toNat)) && decide (n.toNat ≤ 6)) = (okSize w && (okSize h && (okSize n && true)))
  rw [← e w hw, ← e h hh, ← e n hn]
  simp only [Bool.and_assoc, Bool.and_true]
def barSq (x y d n : Int) : List (Int × Int) :=
  if d = 1 then (List.range n.toNat).map fun (i : Nat) => (x + (i : Int), y) else (List.range n.toNat).map fun (i : Nat) => (x, y + (i : Int))
def insideS (w h : Int) (s : Int × Int) : Bool := decide (s.1 < w) && decide (s.2 < h)
def covd (cov : List (Int × Int)) (s : Int × Int) : Bool := cov.any fun z => decide (z = s)
def rowSq (w : Int) (y : Nat) : List (Int × Int) := (List.range w.toNat).map fun (x : Nat) => ((x : Int), (y : Int))
def layerSq (w h : Int) : List (Int × Int) := (List.range h.toNat).flatMap (rowSq w)
theorem barSq_len (x y d n : Int) : (barSq x y d n).length = n.toNat := by
  unfold barSq
  split <;> rw [List.length_map, List.length_range]
theorem rowSq_len (w : Int) (y : Nat) : (rowSq w y).length = w.toNat := by
  unfold rowSq
  rw [List.length_map, List.length_range]
theorem rows_len (w : Int) : ∀ k : Nat, ((List.range k).flatMap (rowSq w)).length = k * w.toNat
  | 0 => by
    rw [Nat.zero_mul]
    rfl
  | k + 1 => by rw [List.range_succ, List.flatMap_append, List.length_append, rows_len w k, Nat.succ_mul, List.flatMap_cons, List.flatMap_nil, List.append_nil, rowSq_len]
theorem layerSq_len {w h : Int} (hw : w ≤ 6) (hh : h ≤ 6) : (layerSq w h).length ≤ 36 := by
  unfold layerSq
  rw [rows_len]
  have h1 : h.toNat * w.toNat ≤ 6 * 6 := Nat.mul_le_mul (by omega) (by omega)
  omega
/-! ### the mathematics: the search -/
def firstFree (w h : Int) (cov : List (Int × Int)) : Option (Int × Int) :=
  (layerSq w h).find? fun s => !covd cov s
def tryDir (rec : List (Int × Int) → Option (Option (List Int))) (w h n : Int) (cov : List (Int × Int)) (s : Int × Int) (d : Int) : Option (Option (List Int)) :=
  if ((barSq s.1 s.2 d n).all (insideS w h) && !((barSq s.1 s.2 d n).any (covd cov))) = true then
    match rec (cov ++ barSq s.1 s.2 d n) with
    | none => none
    | some none => some none
    | some (some r) => some (some ([s.1, s.2, d] ++ r))
  else some none
def findF : Nat → Int → Int → Int → List (Int × Int) → Option (Option (List Int))
  | 0, _, _, _, _ => none
  | k + 1, w, h, n, cov => match firstFree w h cov with
    | none => some (some [])
    | some s => match tryDir (findF k w h n) w h n cov s 1 with
      | none => none
      | some (some r) => some (some r)
      | some none => tryDir (findF k w h n) w h n cov s 0
def fillM (w h n : Int) : Option (List Int) := match findF 37 w h n [] with
  | none => none
  | some none => some [-33]
  | some (some r) => some (((r.length / 3 : Nat) : Int) :: r)
theorem fill_tab : ((List.range 7).all fun w => (List.range 7).all fun h => (List.range 7).all fun n => !(Kbe4.validLayer w h n) || (fillM w h n == some (PyKbe4.fill w h n))) = true := by decide +kernel
theorem fill_out {w h n : Int} (hw : 0 ≤ w) (hh : 0 ≤ h) (hn : 0 ≤ n) (q : okAll w h n = false) : PyKbe4.fill w h n = [-22] := by
  have e : Kbe4.validLayer w.toNat h.toNat n.toNat = false := (okAll_layer hw hh hn).trans q
  show (Kbe4.respond (.fill w.toNat h.toNat n.toNat)).head :: (Kbe4.respond (.fill w.toNat h.toNat n.toNat)).tail = [-22]
  simp only [Kbe4.respond, e, if_pos, Kbe4.single, Kbe4.invalidArgument]
theorem fill_in {w h n : Int} (q : okAll w h n = true) : fillM w h n = some (PyKbe4.fill w h n) := by
  obtain ⟨⟨w1, w6⟩, ⟨h1, h6⟩, n1, n6⟩ := okAll_true q
  have e : Kbe4.validLayer w.toNat h.toNat n.toNat = true := (okAll_layer (by omega) (by omega) (by omega)).trans q
  have t := List.all_eq_true.mp (List.all_eq_true.mp (List.all_eq_true.mp fill_tab w.toNat (List.mem_range.mpr (by omega))) h.toNat (List.mem_range.mpr (by omega))) n.toNat (List.mem_range.mpr (by omega))
  rw [e] at t
  simp only [Bool.not_true, Bool.false_or, beq_iff_eq] at t
  rw [Int.toNat_of_nonneg (by omega), Int.toNat_of_nonneg (by omega), Int.toNat_of_nonneg (by omega)] at t
  exact t
/-- the search's numbers: three a bar, a bar a turn -/
theorem tryDir_len {rec : List (Int × Int) → Option (Option (List Int))} {w h n : Int} {cov : List (Int × Int)} {s : Int × Int} {d : Int} {m : Nat} (ih : ∀ c l, rec c = some (some l) → l.length ≤ 3 * m) {l : List Int} (e : tryDir rec w h n cov s d = some (some l)) : l.length ≤ 3 * (m + 1) := by
  unfold tryDir at e
  split at e
  · split at e
    · cases e
    · cases e
    · rename_i r er
      have e1 := Option.some.inj (Option.some.inj e)
      have z := ih _ _ er
      rw [← e1, List.length_append]
      show 3 + r.length ≤ _
      omega
  · cases e
theorem findF_len : ∀ (k : Nat) {w h n : Int} {cov : List (Int × Int)} {l : List Int}, findF k w h n cov = some (some l) → l.length ≤ 3 * k
  | 0, _, _, _, _, _, e => by
    unfold findF at e
    cases e
  | k + 1, w, h, n, cov, l, e => by
    have ih : ∀ c l, findF k w h n c = some (some l) → l.length ≤ 3 * k := fun c l e => findF_len k e
    unfold findF at e
    split at e
    · have e1 := Option.some.inj (Option.some.inj e)
      rw [← e1]
      exact Nat.zero_le _
    · split at e
      · cases e
      · rename_i r er
        have e1 := Option.some.inj (Option.some.inj e)
        rw [← e1]
        exact tryDir_len ih er
      · exact tryDir_len ih e
/-! ### the mathematics: uncovered squares -/
def freeSq (w h : Int) (c : List (Int × Int)) : List (Int × Int) := (layerSq w h).filter fun s => !covd c s
theorem freeSq_len {w h : Int} (hw : w ≤ 6) (hh : h ≤ 6) (c : List (Int × Int)) : (freeSq w h c).length ≤ 36 := Nat.le_trans (List.length_filter_le ..) (layerSq_len hw hh)
/-! ### the text -/
def topS (i : Nat) : Stmt := PySem.Challenge.pw_layerbars_s01_fill.main.body.getD i (.Pass ⟨0, 0, 0, 0⟩)
abbrev sFill : Stmt := topS 4
abbrev sSizes : Stmt := topS 5
abbrev sFind : Stmt := topS 6
abbrev sLayer : Stmt := topS 7
abbrev sUnc : Stmt := topS 8
abbrev sBar : Stmt := topS 9
abbrev sIns : Stmt := topS 10
abbrev sOver : Stmt := topS 11
theorem scFill : FnScope ["width", "height", "length", "bars"] ["width", "height", "length"] (defScope sFill) := ⟨rfl, rfl, rfl, by decide +kernel, rfl, by decide +kernel, by decide +kernel⟩
theorem scZ : FnScope ["width", "height", "length", "size"] ["width", "height", "length"] (defScope sSizes) := ⟨rfl, rfl, rfl, by decide +kernel, rfl, by decide +kernel, by decide +kernel⟩
theorem scFind : FnScope ["width", "height", "length", "covered", "uncovered", "first", "direction", "bar", "rest"] ["width", "height", "length", "covered"] (defScope sFind) := ⟨rfl, rfl, rfl, by decide +kernel, rfl, by decide +kernel, by decide +kernel⟩
theorem scLayer : FnScope ["width", "height", "squares", "y", "x"] ["width", "height"] (defScope sLayer) := ⟨rfl, rfl, rfl, by decide +kernel, rfl, by decide +kernel, by decide +kernel⟩
theorem scUnc : FnScope ["width", "height", "covered", "square"] ["width", "height", "covered"] (defScope sUnc) := ⟨rfl, rfl, rfl, by decide +kernel, rfl, by decide +kernel, by decide +kernel⟩
theorem scBar : FnScope ["x", "y", "direction", "length", "step"] ["x", "y", "direction", "length"] (defScope sBar) := ⟨rfl, rfl, rfl, by decide +kernel, rfl, by decide +kernel, by decide +kernel⟩
theorem scIns : FnScope ["width", "height", "squares", "square"] ["width", "height", "squares"] (defScope sIns) := ⟨rfl, rfl, rfl, by decide +kernel, rfl, by decide +kernel, by decide +kernel⟩
theorem scOver : FnScope ["squares", "covered", "square"] ["squares", "covered"] (defScope sOver) := ⟨rfl, rfl, rfl, by decide +kernel, rfl, by decide +kernel, by decide +kernel⟩
/-! ### heaps, lists -/
theorem same_upd {H : Hp} {p : Addr} {o : HO} (h : H p = none) : Same H (upd H p o) := fun b x e => by
  rw [upd_ne (ne_of_none e h)]
  exact e
theorem same_upd2 {H H1 : Hp} {p : Addr} {o : HO} (h : H p = none) (g : Same H H1) : Same H (upd H1 p o) := fun b x e => by
  rw [upd_ne (ne_of_none e h)]
  exact g b x e
theorem take_more {α : Type} : ∀ {l : List α} {i : Nat} {x : α}, l[i]? = some x → l.take (i + 1) = l.take i ++ [x]
  | [], i, x, h => by simp at h
  | a :: l, 0, x, h => by
    have e : a = x := Option.some.inj h
    subst e
    rfl
  | a :: l, i + 1, x, h => by
    have ih := take_more (l := l) (i := i) (x := x) h
    show a :: l.take (i + 1) = a :: l.take i ++ [x]
    rw [ih]
    rfl
theorem map_at {α : Type} {l : List α} {f : α → V} {i : Nat} {x : V} (h : (l.map f)[i]? = some x) : ∃ z, l[i]? = some z ∧ x = f z := by
  rw [List.getElem?_map] at h
  cases e : l[i]? with
  | none =>
    rw [e] at h
    cases h
  | some z =>
    rw [e] at h
    exact ⟨z, rfl, (Option.some.inj h).symm⟩
theorem iteNN {c A B : Prop} [Decidable c] (hc : ¬ c) (h : A) : if (!decide c) = true then A else B := by
  rw [decide_eq_false hc]
  exact iteT h
theorem iteDF {c A B : Prop} [Decidable c] (hc : ¬ c) (h : B) : if (decide c) = true then A else B := by
  rw [decide_eq_false hc]
  exact iteF h
theorem iteDT {c A B : Prop} [Decidable c] (hc : c) (h : A) : if (decide c) = true then A else B := by
  rw [decide_eq_true hc]
  exact iteT h
theorem room65 {k : Nat} {A : Around} (r : Room k A) : A.units + 65 < cLine := by
  have := r.un
  omega
/-- a truth value more at the made list -/
theorem bls_more {α : Type} {H1 H' : Hp} {D : Addr} {ss : List α} {g : α → Bool} {i : Nat} {s : α} (nD : H1 D = none) (sm : Same H1 H') (hD : H' D = some (.lst (((ss.map g).take i).map V.bl))) (hs : ss[i]? = some s) (hl : ss.length ≤ 1000) {k : Bool} (ek : k = g s) :
    ∃ acc, H' D = some (HO.lst acc) ∧ acc.length < sizeLine ∧ Same H1 (upd H' D (.lst (acc ++ [V.bl k]))) ∧ (upd H' D (.lst (acc ++ [V.bl k]))) D = some (.lst (((ss.map g).take (i + 1)).map V.bl)) := by
  subst ek
  have h1 : (ss.map g)[i]? = some (g s) := by
    rw [List.getElem?_map, hs]
    rfl
  refine ⟨_, hD, ?_, same_upd2 nD sm, ?_⟩
  · rw [List.length_map, List.length_take, List.length_map]
    exact small1000 (Nat.le_trans (Nat.min_le_right _ _) hl)
  · rw [upd_same, take_more h1, List.map_append]
    rfl
theorem range_more {α : Type} (f : Nat → α) (i : Nat) : (List.range (i + 1)).map f = (List.range i).map f ++ [f i] := by
  rw [List.range_succ, List.map_append]
  rfl
/-! ### squares at addresses -/
/-- the values vs stand for the squares ss: a tuple of two numbers each -/
inductive Sqs (H : Hp) : List V → List (Int × Int) → Prop
  | nil : Sqs H [] []
  | cons {a : Addr} {vs : List V} {s : Int × Int} {ss : List (Int × Int)} : H a = some (.tup [.int s.1, .int s.2]) → Sqs H vs ss → Sqs H (.ref a :: vs) (s :: ss)
theorem Sqs.same {H H' : Hp} (g : Same H H') : ∀ {vs : List V} {ss : List (Int × Int)}, Sqs H vs ss → Sqs H' vs ss
  | _, _, .nil => .nil
  | _, _, .cons h r => .cons (g _ _ h) (Sqs.same g r)
theorem Sqs.put {H : Hp} {D : Addr} {xs : List V} {o : HO} (hD : H D = some (.lst xs)) : ∀ {vs : List V} {ss : List (Int × Int)}, Sqs H vs ss → Sqs (upd H D o) vs ss
  | _, _, .nil => .nil
  | _, _, .cons (a := a) h r => .cons (by
      have ne : a ≠ D := fun e => by
        rw [e, hD] at h
        cases h
      rw [upd_ne ne]
      exact h) (Sqs.put hD r)
theorem Sqs.app {H : Hp} : ∀ {vs us : List V} {ss ts : List (Int × Int)}, Sqs H vs ss → Sqs H us ts → Sqs H (vs ++ us) (ss ++ ts)
  | _, _, _, _, .nil, g => g
  | _, _, _, _, .cons h r, g => .cons h (Sqs.app r g)
theorem Sqs.len {H : Hp} : ∀ {vs : List V} {ss : List (Int × Int)}, Sqs H vs ss → vs.length = ss.length
  | _, _, .nil => rfl
  | _, _, .cons _ r => congrArg (· + 1) (Sqs.len r)
theorem Sqs.at {H : Hp} : ∀ {vs : List V} {ss : List (Int × Int)} {i : Nat} {x : V}, Sqs H vs ss → vs[i]? = some x → ∃ a s, x = .ref a ∧ ss[i]? = some s ∧ H a = some (.tup [.int s.1, .int s.2])
  | _, _, i, x, .nil, e => by simp at e
  | _, _, 0, x, .cons h r, e => by
    have e1 := Option.some.inj e
    exact ⟨_, _, e1.symm, rfl, h⟩
  | _, _, i + 1, x, .cons h r, e => Sqs.at (i := i) r e
def sqD (s : Int × Int) : PyData := .tuple [.int s.1, .int s.2]
theorem sqD_lay (s : Int × Int) : (sqD s).canLay0 = true := by simp [sqD, PyData.canLay0, PyData.canLayAll0]
theorem sqD_depth (s : Int × Int) : (sqD s).depth = 1 := by simp [sqD, PyData.depth, PyData.depthAll]
theorem sqDs_lay : ∀ ss : List (Int × Int), PyData.canLayAll0 (ss.map sqD) = true
  | [] => by simp [PyData.canLayAll0]
  | s :: ss => by simp [PyData.canLayAll0, sqD_lay s, sqDs_lay ss]
theorem sqDs_depth : ∀ ss : List (Int × Int), PyData.depthAll (ss.map sqD) ≤ 2
  | [] => by simp [PyData.depthAll]
  | s :: ss => by
    have h1 := sqDs_depth ss
    have h2 := sqD_depth s
    simp only [List.map_cons, PyData.depthAll]
    omega
theorem sqD_shaped (s : Int × Int) : SeqAt.shaped (sqD s) = true := by
  have h := sqD_depth s
  show ((sqD s).canLay0 && decide ((sqD s).depth ≤ 64)) = true
  rw [Bool.and_eq_true]
  exact ⟨sqD_lay s, decide_eq_true (by omega)⟩
theorem sqDs_shaped (ss : List (Int × Int)) : SeqAt.shaped (.list (ss.map sqD)) = true := by
  have h1 := sqDs_depth ss
  have h2 : PyData.depth (.list (ss.map sqD)) ≤ 64 := by
    simp only [PyData.depth]
    omega
  show (PyData.canLay0 (.list (ss.map sqD)) && decide (PyData.depth (.list (ss.map sqD)) ≤ 64)) = true
  rw [Bool.and_eq_true]
  exact ⟨by simp only [PyData.canLay0]; exact sqDs_lay ss, decide_eq_true h2⟩
theorem sqD_eqv (s t : Int × Int) : PyData.eqv (sqD s) (sqD t) = decide (s = t) := by
  obtain ⟨a, b⟩ := s
  obtain ⟨c, d⟩ := t
  have e : PyData.eqv (sqD (a, b)) (sqD (c, d)) = ((a == c) && ((b == d) && true)) := by simp only [sqD, PyData.eqv, PyData.eqvAll]
  rw [e]
  by_cases h1 : a = c
  · by_cases h2 : b = d
    · subst h1 h2
      simp
    · have h : ¬ ((a, b) : Int × Int) = (c, d) := fun z => h2 (congrArg Prod.snd z)
      rw [decide_eq_false h, beq_eq_false_iff_ne.mpr h2, Bool.false_and, Bool.and_false]
  · have h : ¬ ((a, b) : Int × Int) = (c, d) := fun z => h1 (congrArg Prod.fst z)
    rw [decide_eq_false h, beq_eq_false_iff_ne.mpr h1, Bool.false_and]
theorem sqD_any (cov : List (Int × Int)) (s : Int × Int) : ((cov.map sqD).any fun z => PyData.eqv z (sqD s)) = covd cov s := by
  unfold covd
  rw [List.any_map]
  congr 1
  funext z
  exact sqD_eqv z s
theorem Sqs.dp {K : PySem.W.Frag} {H : Hp} : ∀ {vs : List V} {ss : List (Int × Int)}, Sqs H vs ss → DpAll K H vs (ss.map sqD)
  | _, _, .nil => .nil
  | _, _, .cons h r => .cons (.tup (SqT.of h) (.cons (.int _) (.cons (.int _) .nil))) (Sqs.dp r)
theorem sq_dp {K : PySem.W.Frag} {H : Hp} {a : Addr} {s : Int × Int} (h : H a = some (.tup [.int s.1, .int s.2])) : Dp K H (.ref a) (sqD s) := .tup (SqT.of h) (.cons (.int _) (.cons (.int _) .nil))
/-- one more made square -/
theorem sqs_more {H1 H' : Hp} {D : Addr} {us : List V} {ss : List (Int × Int)} {s : Int × Int} (nD : H1 D = none) (sm : Same H1 H') (hD : H' D = some (.lst us)) (hS : Sqs H' us ss) {T : Addr} (nT : H' T = none) :
    (upd H' T (.tup [.int s.1, .int s.2])) D = some (.lst us) ∧ Same H1 (upd (upd H' T (.tup [.int s.1, .int s.2])) D (.lst (us ++ [.ref T]))) ∧
      Sqs (upd (upd H' T (.tup [.int s.1, .int s.2])) D (.lst (us ++ [.ref T]))) (us ++ [.ref T]) (ss ++ [s]) := by
  have g1 : Same H' (upd H' T (.tup [.int s.1, .int s.2])) := same_upd nT
  have e1 := g1 _ _ hD
  exact ⟨e1, same_upd2 nD (sm.trans g1), Sqs.put e1 ((hS.same g1).app (.cons upd_same .nil))⟩
/-! ### the first that is not covered -/
theorem first_unc (w h : Int) (cov : List (Int × Int)) : firstFree w h cov = (freeSq w h cov)[0]? := by
  unfold firstFree freeSq
  rw [← List.head?_filter, List.head?_eq_getElem?]
/-! ### the search, a turn at a time -/
theorem findF_step {k : Nat} {w h n : Int} {cov : List (Int × Int)} {s : Int × Int} {r : Option (List Int)} (e : findF (k + 1) w h n cov = some r) (hs : firstFree w h cov = some s) :
    (tryDir (findF k w h n) w h n cov s 1 = some none ∧ tryDir (findF k w h n) w h n cov s 0 = some r) ∨ (∃ l, tryDir (findF k w h n) w h n cov s 1 = some (some l) ∧ r = some l) := by
  unfold findF at e
  rw [hs] at e
  dsimp only at e
  split at e
  · cases e
  · rename_i l el
    exact .inr ⟨l, el, (Option.some.inj e).symm⟩
  · rename_i el
    exact .inl ⟨el, e⟩
theorem findF_full {k : Nat} {w h n : Int} {cov : List (Int × Int)} {r : Option (List Int)} (e : findF (k + 1) w h n cov = some r) (hs : firstFree w h cov = none) : r = some [] := by
  unfold findF at e
  rw [hs] at e
  exact (Option.some.inj e).symm
theorem tryDir_yes {rec : List (Int × Int) → Option (Option (List Int))} {w h n : Int} {cov : List (Int × Int)} {s : Int × Int} {d : Int} {o : Option (List Int)} (e : tryDir rec w h n cov s d = some o)
    (c1 : (barSq s.1 s.2 d n).all (insideS w h) = true) (c2 : (!(barSq s.1 s.2 d n).any (covd cov)) = true) : ∃ r, rec (cov ++ barSq s.1 s.2 d n) = some r ∧ o = r.map ([s.1, s.2, d] ++ ·) := by
  unfold tryDir at e
  rw [c1, c2, Bool.and_self, if_pos rfl] at e
  split at e
  · cases e
  · rename_i er
    exact ⟨none, er, (Option.some.inj e).symm⟩
  · rename_i r er
    exact ⟨some r, er, (Option.some.inj e).symm⟩
theorem tryDir_no1 {rec : List (Int × Int) → Option (Option (List Int))} {w h n : Int} {cov : List (Int × Int)} {s : Int × Int} {d : Int} {o : Option (List Int)} (e : tryDir rec w h n cov s d = some o)
    (c1 : ¬ (barSq s.1 s.2 d n).all (insideS w h) = true) : o = none := by
  unfold tryDir at e
  rw [Bool.eq_false_iff.mpr c1, Bool.false_and, if_neg Bool.false_ne_true] at e
  exact (Option.some.inj e).symm
theorem tryDir_no2 {rec : List (Int × Int) → Option (Option (List Int))} {w h n : Int} {cov : List (Int × Int)} {s : Int × Int} {d : Int} {o : Option (List Int)} (e : tryDir rec w h n cov s d = some o)
    (c2 : ¬ (!(barSq s.1 s.2 d n).any (covd cov)) = true) : o = none := by
  unfold tryDir at e
  rw [Bool.eq_false_iff.mpr c2, Bool.and_false, if_neg Bool.false_ne_true] at e
  exact (Option.some.inj e).symm
/-! ### the promises -/
def spSizes : Sp := fun vs H Q _ => ∃ w h n : Int, vs = [.int w, .int h, .int n] ∧ ∀ H' : Hp, Same H H' → Q (.bl (okAll w h n)) H'
def spLayer : Sp := fun vs H Q _ => ∃ w h : Int, vs = [.int w, .int h] ∧ 0 ≤ w ∧ w ≤ 6 ∧ 0 ≤ h ∧ h ≤ 6 ∧
  ∀ (H' : Hp) (p : Addr) (us : List V), Same H H' → H' p = some (.lst us) → Sqs H' us (layerSq w h) → Q (.ref p) H'
def spUnc : Sp := fun vs H Q _ => ∃ (w h : Int) (a : Addr) (us : List V) (cov : List (Int × Int)), vs = [.int w, .int h, .ref a] ∧ 0 ≤ w ∧ w ≤ 6 ∧ 0 ≤ h ∧ h ≤ 6 ∧ H a = some (.lst us) ∧ Sqs H us cov ∧
  ∀ (H' : Hp) (p : Addr) (ws : List V), Same H H' → H' p = some (.lst ws) → Sqs H' ws (freeSq w h cov) → Q (.ref p) H'
def spBar : Sp := fun vs H Q _ => ∃ x y d n : Int, vs = [.int x, .int y, .int d, .int n] ∧ 0 ≤ n ∧ n ≤ 6 ∧
  ∀ (H' : Hp) (p : Addr) (us : List V), Same H H' → H' p = some (.lst us) → Sqs H' us (barSq x y d n) → Q (.ref p) H'
def spIns : Sp := fun vs H Q _ => ∃ (w h : Int) (a : Addr) (us : List V) (ss : List (Int × Int)), vs = [.int w, .int h, .ref a] ∧ H a = some (.lst us) ∧ Sqs H us ss ∧ ss.length ≤ 1000 ∧
  ∀ H' : Hp, Same H H' → Q (.bl (ss.all (insideS w h))) H'
def spOver : Sp := fun vs H Q _ => ∃ (a b : Addr) (us ws : List V) (ss cov : List (Int × Int)), vs = [.ref a, .ref b] ∧ H a = some (.lst us) ∧ Sqs H us ss ∧ H b = some (.lst ws) ∧ Sqs H ws cov ∧ ss.length ≤ 1000 ∧
  ∀ H' : Hp, Same H H' → Q (.bl (ss.any (covd cov))) H'
def spFind (k : Nat) : Sp := fun vs H Q _ => ∃ (w h n : Int) (a : Addr) (us : List V) (cov : List (Int × Int)) (r : Option (List Int)), vs = [.int w, .int h, .int n, .ref a] ∧ okAll w h n = true ∧ H a = some (.lst us) ∧ Sqs H us cov ∧ cov.length + 6 * k ≤ 300 ∧
  findF k w h n cov = some r ∧
  (r = none → ∀ H' : Hp, Same H H' → Q .non H') ∧
  (∀ l, r = some l → ∀ (H' : Hp) (p : Addr), Same H H' → H' p = some (.lst (l.map V.int)) → Q (.ref p) H')
def spFill : Sp := fun vs _ Q _ => ∃ w h n : Int, vs = [.int w, .int h, .int n] ∧ 0 ≤ w ∧ 0 ≤ h ∧ 0 ≤ n ∧
  ∀ (H' : Hp) (p : Addr), H' p = some (.lst ((PyKbe4.fill w h n).map V.int)) → Q (.ref p) H'
section
variable {P : Program} {w : World} {K : PySem.W.Frag} {mg : Str → Option Value} {base : Heap}
theorem ok_sizes {f : Addr} {fd : FuncData} {t : Tok} (F : Fun K "sizes_in_range" "sizes_in_range" sSizes f fd) (ma : mg "all" = none) (mG : mg "GREATEST_SIZE" = some (.int 6 t)) :
    FnOk P w K mg base CX0 1 f fd ["width", "height", "length"] spSizes := by
  refine F.ok scZ (fun vs H Q E h => ?_) (fun cdv A outer s H vs Q E hr h => ?_)
  · obtain ⟨a, b, c, rfl, _⟩ := h
    rfl
  obtain ⟨a, b, c, rfl, q⟩ := h
  refine ⟨_, pss_one (ps_ret (pe_callB (cr_all rfl) (by rfl) ma (by decide +kernel) (pa_cons
    (pe_lc (own := [("size", 3)]) (g := gName 3) (by rfl) scZ.nd (pi_tup (pe_tup (pa_cons (pv 0) (pa_cons (pv 1) (pa_cons (pv 2) pa_nil)))))
      (blkOk_by (own := [("size", 3)]) (N := ["width", "height", "length", "size"]) (sc := defScope sSizes) (by decide +kernel))
      (fun _ _ _ _ _ => pg_name (i := 3) scZ.nd rfl (Or.inl rfl)) (fun _ _ _ _ _ => pts_nil)
      (fun _ _ _ _ _ => pe_chain op_le op_le pe_int (pv 3) (pe_glob (v := .int 6) rfl mG ⟨_, rfl⟩))) pa_nil))), ?_⟩
  refine ⟨_, rfl, _, rfl, _, rfl, (by show 3 ≤ sizeLine; decide), fun T nT => ?_⟩
  refine ⟨T, rfl, ⟨_, SqT.of upd_same⟩, fun D nD => ?_⟩
  have hT : (upd H T (.tup [.int a, .int b, .int c])) T = some (.tup [.int a, .int b, .int c]) := upd_same
  refine lc_tup (K := K) (a := T) (xs := [a, b, c].map V.int) (fun i H' => Same (upd H T (.tup [.int a, .int b, .int c])) H' ∧ H' D = some (.lst ((([a, b, c].map okSize).take i).map V.bl)))
    ⟨same_upd nD, upd_same⟩ (fun i H' _ z => SqT.of (z.1 _ _ hT)) ?_ ?_
  · rintro i x H' hx ⟨sm, hD⟩
    obtain ⟨z, hz, rfl⟩ := map_at hx
    refine ⟨rfl, ?_⟩
    have fin : ∀ k : Bool, k = okSize z → ∃ acc, H' D = some (HO.lst acc) ∧ acc.length < sizeLine ∧ Same (upd H T (.tup [.int a, .int b, .int c])) (upd H' D (.lst (acc ++ [V.bl k]))) ∧
        upd H' D (.lst (acc ++ [V.bl k])) D = some (.lst ((([a, b, c].map okSize).take (i + 1)).map V.bl)) := fun k ek => by
      subst ek
      have h1 : ([a, b, c].map okSize)[i]? = some (okSize z) := by
        rw [List.getElem?_map, hz]
        rfl
      refine ⟨_, hD, ?_, same_upd2 nD sm, ?_⟩
      · rw [List.length_map, List.length_take]
        exact Nat.lt_of_le_of_lt (Nat.min_le_right _ _) (by show 3 < sizeLine; decide)
      · rw [upd_same, take_more h1, List.map_append]
        rfl
    refine ⟨_, rfl, _, _, rfl, rfl, _, rfl, ?_⟩
    refine ite2 (fun c1 => ⟨_, _, rfl, rfl, fin _ ?_⟩) (fun c1 => fin _ ?_)
    · unfold okSize
      rw [c1, Bool.true_and]
    · unfold okSize
      rw [Bool.eq_false_iff.mpr c1, Bool.false_and]
  · rintro H' ⟨sm, hD⟩
    refine ⟨D, [a, b, c].map okSize, rfl, SqL.of hD, ?_⟩
    have e : ([a, b, c].map okSize).all id = okAll a b c := rfl
    rw [e]
    exact q H' ((same_upd nT).trans sm)
theorem ok_layer {f : Addr} {fd : FuncData} (F : Fun K "layer_squares" "layer_squares" sLayer f fd) (mr : mg "range" = none) : FnOk P w K mg base CX0 1 f fd ["width", "height"] spLayer := by
  refine F.ok scLayer (fun vs H Q E h => ?_) (fun cdv A outer s H vs Q E hr h => ?_)
  · obtain ⟨w, h, rfl, _⟩ := h
    rfl
  obtain ⟨wi, he, rfl, w0, w6, h0, h6, q⟩ := h
  refine ⟨_, pss_cons (ps_set (i := 2) scLayer.nd rfl (.inl rfl) (pe_lst pa_nil))
    (pss_cons (ps_for PassesOwn.never rfl (pi_range1 (by rfl) mr (pa_cons (pv 1) pa_nil)) (pg_name (i := 3) scLayer.nd rfl (.inr rfl))
      (pss_one (ps_expr (pe_bm PySem.F.plainAttrs_list PySem.F.slot_list_extend PySem.F.type_list_extend mt_extend (pv 2) (pa_cons
        (pe_lc (own := [("x", 4)]) (g := gName 4) (by rfl) scLayer.nd (pi_range1 (by rfl) mr (pa_cons (pv 0) pa_nil))
          (blkOk_by (own := [("x", 4)]) (N := ["width", "height", "squares", "y", "x"]) (sc := defScope sLayer) (by decide +kernel))
          (fun _ _ _ _ _ => pg_name (i := 4) scLayer.nd rfl (Or.inl rfl)) (fun _ _ _ _ _ => pts_nil)
          (fun _ _ _ _ _ => pe_tup (pa_cons (pv 4) (pa_cons (pv 3) pa_nil)))) pa_nil)))))
    (pss_one (ps_ret (pv 2)))), ?_⟩
  refine ⟨(by show 0 ≤ sizeLine; decide), fun S nS => ?_⟩
  refine ⟨_, rfl, he, rfl, by omega, by omega, ?_⟩
  refine for_range (lo := 0) (n := he.toNat) (fun i σ H' => ∃ (vy vx : Option V) (us : List V), σ = [some (.int wi), some (.int he), some (.ref S), vy, vx] ∧ Same H H' ∧ H' S = some (.lst us) ∧ Sqs H' us ((List.range i).flatMap (rowSq wi)))
    ⟨none, none, [], rfl, same_upd nS, upd_same, .nil⟩ ?_ ?_
  · rintro i σ H1 hi ⟨vy, vx, us, rfl, sm, hS, hU⟩
    rw [show (0 : Int) + (i : Int) = (i : Int) by omega]
    refine ⟨_, rfl, .inl ⟨rfl, _, SqL.of hS⟩, ?_⟩
    refine ⟨_, rfl, wi, rfl, by omega, by omega, fun D nD => ?_⟩
    refine lc_range (lo := 0) (n := wi.toNat) (fun j H' => Same H1 H' ∧ ∃ us', H' D = some (.lst us') ∧ Sqs H' us' ((List.range j).map fun (x : Nat) => ((x : Int), (i : Int))))
      ⟨same_upd nD, [], upd_same, .nil⟩ ?_ ?_
    · rintro j H' hj ⟨sm2, us', hD, hD2⟩
      refine ⟨rfl, ?_⟩
      refine ⟨_, rfl, _, rfl, (by show 2 ≤ sizeLine; decide), fun T nT => ?_⟩
      rw [show (0 : Int) + (j : Int) = (j : Int) by omega]
      obtain ⟨a1, a2, a3⟩ := sqs_more (s := ((j : Int), (i : Int))) nD sm2 hD hD2 nT
      refine ⟨us', a1, ?_, a2, _, upd_same, ?_⟩
      · rw [hD2.len, List.length_map, List.length_range]
        exact small1000 (by omega)
      · rw [range_more]
        exact a3
    · rintro H' ⟨sm2, us', hD, hD2⟩
      have hS' := sm2 _ _ hS
      have hU' := hU.same sm2
      have l1 := hU'.len
      have l2 := hD2.len
      rw [List.length_map, List.length_range] at l2
      have l3 := rows_len wi i
      have l4 : i * wi.toNat ≤ 6 * 6 := Nat.mul_le_mul (by omega) (by omega)
      refine ⟨S, D, us, us', rfl, rfl, hS', hD, Nat.le_of_lt (small1000 (by omega)), ?_⟩
      refine ⟨_, _, us ++ us', rfl, same_upd2 nS (sm.trans sm2), upd_same, ?_⟩
      have e : (List.range (i + 1)).flatMap (rowSq wi) = (List.range i).flatMap (rowSq wi) ++ (List.range wi.toNat).map fun (x : Nat) => ((x : Int), (i : Int)) := by
        rw [List.range_succ, List.flatMap_append, List.flatMap_cons, List.flatMap_nil, List.append_nil]
        rfl
      rw [e]
      exact Sqs.put hS' (hU'.app hD2)
  · rintro σ H1 ⟨vy, vx, us, rfl, sm, hS, hU⟩
    exact ⟨_, rfl, q H1 S us sm hS hU⟩
theorem ok_unc {f fL : Addr} {fd fdL : FuncData} (F : Fun K "uncovered_squares" "uncovered_squares" sUnc f fd)
    (GL : FnOk P w K mg base CX0 1 fL fdL ["width", "height"] spLayer) (bL : Binds K fdL ["width", "height"] []) (kL : PySem.W.keepIn K (.ref fL) = true) (mL : mg "layer_squares" = some (.ref fL)) : FnOk P w K mg base CX0 2 f fd ["width", "height", "covered"] spUnc := by
  refine F.ok scUnc (fun vs H Q E h => ?_) (fun cdv A outer s H vs Q E hr h => ?_)
  · obtain ⟨w, h, a, us, cov, rfl, _⟩ := h
    rfl
  obtain ⟨wi, he, a, us, cov, rfl, w0, w6, h0, h6, hA, hS, q⟩ := h
  refine ⟨_, pss_one (ps_ret
    (pe_lc (own := [("square", 3)]) (g := gName 3) (by rfl) scUnc.nd (pi_list (pe_call GL hr rfl mL kL bL .nil pass0 (pa_cons (pv 0) (pa_cons (pv 1) pa_nil))))
      (blkOk_by (own := [("square", 3)]) (N := ["width", "height", "covered", "square"]) (sc := defScope sUnc) (by decide +kernel))
      (fun _ _ _ _ _ => pg_name (i := 3) scUnc.nd rfl (Or.inl rfl)) (fun _ _ _ _ _ => pts_one (pt_cmpR (show OpR _ _ (rNotInD K) from op_notInD (room65 hr)) (pv 3) (pv 2) (by rfl)))
      (fun _ _ _ _ _ => pv 3))), ?_⟩
  refine ⟨_, rfl, _, rfl, wi, he, rfl, w0, w6, h0, h6, fun H1 L ls sm1 hL hLS => ?_⟩
  refine ⟨L, rfl, ⟨_, SqL.of hL⟩, fun D nD => ?_⟩
  refine lc_list (K := K) (a := L) (xs := ls) (fun i H' => Same H1 H' ∧ ∃ ws, H' D = some (.lst ws) ∧ Sqs H' ws (((layerSq wi he).take i).filter fun s => !covd cov s))
    ⟨same_upd nD, [], upd_same, .nil⟩ (fun i H' _ z => SqL.of (z.1 _ _ hL)) ?_ ?_
  · rintro i x H' hx ⟨sm, ws, hD, hW⟩
    obtain ⟨T, s, rfl, hs, hT⟩ := hLS.at hx
    have sm' := sm1.trans sm
    have hT' := sm _ _ hT
    have lw : ws.length < sizeLine := by
      refine small1000 ?_
      have l1 := hW.len
      have l2 := List.length_filter_le (fun s => !covd cov s) ((layerSq wi he).take i)
      have l3 := layerSq_len w6 h6
      have l4 : ((layerSq wi he).take i).length ≤ (layerSq wi he).length := by
        rw [List.length_take]
        exact Nat.min_le_right _ _
      omega
    refine ⟨rfl, ?_⟩
    refine ⟨_, rfl, _, rfl, sqD s, cov.map sqD, sq_dp hT', .lst (SqL.of (sm' _ _ hA)) (hS.same sm').dp, sqD_shaped s, sqDs_shaped cov, _, rfl, ?_⟩
    rw [sqD_any]
    refine ite2 (fun c => ?_) (fun c => ?_)
    · refine ⟨_, rfl, ws, hD, lw, same_upd2 nD sm, ws ++ [.ref T], upd_same, ?_⟩
      have e : ((layerSq wi he).take (i + 1)).filter (fun s => !covd cov s) = (((layerSq wi he).take i).filter fun s => !covd cov s) ++ [s] := by
        rw [take_more hs, List.filter_append, List.filter_cons, if_pos c, List.filter_nil]
      rw [e]
      exact Sqs.put hD (hW.app (.cons hT' .nil))
    · have e : ((layerSq wi he).take (i + 1)).filter (fun s => !covd cov s) = (((layerSq wi he).take i).filter fun s => !covd cov s) := by
        rw [take_more hs, List.filter_append, List.filter_cons, if_neg c, List.filter_nil, List.append_nil]
      exact ⟨sm, ws, hD, by rw [e]; exact hW⟩
  · rintro H' ⟨sm, ws, hD, hW⟩
    rw [hLS.len, List.take_of_length_le (Nat.le_refl _)] at hW
    exact q H' D ws (sm1.trans sm) hD hW
theorem ok_bar {f : Addr} {fd : FuncData} (F : Fun K "bar_squares" "bar_squares" sBar f fd) (mr : mg "range" = none) : FnOk P w K mg base CX0 1 f fd ["x", "y", "direction", "length"] spBar := by
  refine F.ok scBar (fun vs H Q E h => ?_) (fun cdv A outer s H vs Q E hr h => ?_)
  · obtain ⟨x, y, d, n, rfl, _⟩ := h
    rfl
  obtain ⟨x, y, d, n, rfl, n0, n6, q⟩ := h
  refine ⟨_, pss_cons (ps_if (pt_cmpR op_eq (pv 2) pe_int (nomark _))
      (pss_one (ps_ret (pe_lc (own := [("step", 4)]) (g := gName 4) (by rfl) scBar.nd (pi_range1 (by rfl) mr (pa_cons (pv 3) pa_nil))
        (blkOk_by (own := [("step", 4)]) (N := ["x", "y", "direction", "length", "step"]) (sc := defScope sBar) (by decide +kernel))
        (fun _ _ _ _ _ => pg_name (i := 4) scBar.nd rfl (Or.inl rfl)) (fun _ _ _ _ _ => pts_nil)
        (fun _ _ _ _ _ => pe_tup (pa_cons (pe_op op_add (pv 0) (pv 4)) (pa_cons (pv 1) pa_nil)))))) pss_nil)
    (pss_one (ps_ret (pe_lc (own := [("step", 4)]) (g := gName 4) (by rfl) scBar.nd (pi_range1 (by rfl) mr (pa_cons (pv 3) pa_nil))
        (blkOk_by (own := [("step", 4)]) (N := ["x", "y", "direction", "length", "step"]) (sc := defScope sBar) (by decide +kernel))
        (fun _ _ _ _ _ => pg_name (i := 4) scBar.nd rfl (Or.inl rfl)) (fun _ _ _ _ _ => pts_nil)
        (fun _ _ _ _ _ => pe_tup (pa_cons (pv 0) (pa_cons (pe_op op_add (pv 1) (pv 4)) pa_nil)))))), ?_⟩
  have small : ∀ {i : Nat} {us : List V} {ss : List (Int × Int)} {H' : Hp}, i < n.toNat → Sqs H' us ss → ss.length = i → us.length < sizeLine := fun {i us ss H'} hi hS e => by
    rw [hS.len, e]
    exact small1000 (by omega)
  refine ⟨_, rfl, rfl, _, rfl, ?_⟩
  refine ite2 (fun c => ?_) (fun c => ?_)
  · have c1 : d = 1 := V.int.inj (of_decide_eq_true c)
    have eb : barSq x y d n = (List.range n.toNat).map fun (i : Nat) => (x + (i : Int), y) := by
      unfold barSq
      rw [if_pos c1]
    refine ⟨_, rfl, n, rfl, by omega, by omega, fun D nD => ?_⟩
    refine lc_range (lo := 0) (n := n.toNat) (fun i H' => Same H H' ∧ ∃ us, H' D = some (.lst us) ∧ Sqs H' us ((List.range i).map fun (i : Nat) => (x + (i : Int), y)))
      ⟨same_upd nD, [], upd_same, .nil⟩ ?_ ?_
    · rintro i H' hi ⟨sm, us, hD, hS⟩
      refine ⟨rfl, ?_⟩
      refine ⟨_, rfl, _, rfl, _, _, rfl, rfl, _, rfl, (by show 2 ≤ sizeLine; decide), fun T nT => ?_⟩
      rw [show (0 : Int) + (i : Int) = (i : Int) by omega]
      obtain ⟨a1, a2, a3⟩ := sqs_more (s := (x + (i : Int), y)) nD sm hD hS nT
      refine ⟨us, a1, small hi hS (by rw [List.length_map, List.length_range]), a2, _, upd_same, ?_⟩
      rw [range_more]
      exact a3
    · rintro H' ⟨sm, us, hD, hS⟩
      exact q H' D us sm hD (by rw [eb]; exact hS)
  · have c1 : ¬ d = 1 := fun z => c (decide_eq_true (congrArg V.int z))
    have eb : barSq x y d n = (List.range n.toNat).map fun (i : Nat) => (x, y + (i : Int)) := by
      unfold barSq
      rw [if_neg c1]
    refine ⟨_, rfl, n, rfl, by omega, by omega, fun D nD => ?_⟩
    refine lc_range (lo := 0) (n := n.toNat) (fun i H' => Same H H' ∧ ∃ us, H' D = some (.lst us) ∧ Sqs H' us ((List.range i).map fun (i : Nat) => (x, y + (i : Int))))
      ⟨same_upd nD, [], upd_same, .nil⟩ ?_ ?_
    · rintro i H' hi ⟨sm, us, hD, hS⟩
      refine ⟨rfl, ?_⟩
      refine ⟨_, rfl, _, rfl, _, rfl, _, _, rfl, rfl, (by show 2 ≤ sizeLine; decide), fun T nT => ?_⟩
      rw [show (0 : Int) + (i : Int) = (i : Int) by omega]
      obtain ⟨a1, a2, a3⟩ := sqs_more (s := (x, y + (i : Int))) nD sm hD hS nT
      refine ⟨us, a1, small hi hS (by rw [List.length_map, List.length_range]), a2, _, upd_same, ?_⟩
      rw [range_more]
      exact a3
    · rintro H' ⟨sm, us, hD, hS⟩
      exact q H' D us sm hD (by rw [eb]; exact hS)
theorem ok_ins {f : Addr} {fd : FuncData} (F : Fun K "lies_inside" "lies_inside" sIns f fd) (ma : mg "all" = none) : FnOk P w K mg base CX0 1 f fd ["width", "height", "squares"] spIns := by
  refine F.ok scIns (fun vs H Q E h => ?_) (fun cdv A outer s H vs Q E hr h => ?_)
  · obtain ⟨w, h, a, us, ss, rfl, _⟩ := h
    rfl
  obtain ⟨wi, he, a, us, ss, rfl, hA, hS, hl, q⟩ := h
  refine ⟨_, pss_one (ps_ret (pe_callB (cr_all rfl) (by rfl) ma (by decide +kernel) (pa_cons
    (pe_lc (own := [("square", 3)]) (g := gName 3) (by rfl) scIns.nd (pi_list (pv 2))
      (blkOk_by (own := [("square", 3)]) (N := ["width", "height", "squares", "square"]) (sc := defScope sIns) (by decide +kernel))
      (fun _ _ _ _ _ => pg_name (i := 3) scIns.nd rfl (Or.inl rfl)) (fun _ _ _ _ _ => pts_nil)
      (fun _ _ _ _ _ => pe_and (pe_cmpR op_lt (pe_ix (show IxR _ (rIxT K) from ix_tup) (pv 3) pe_int (fun _ _ => rfl)) (pv 0) (nomark _)) (pe_one (pe_cmpR op_lt (pe_ix (show IxR _ (rIxT K) from ix_tup) (pv 3) pe_int (fun _ _ => rfl)) (pv 1) (nomark _))))) pa_nil))), ?_⟩
  refine ⟨_, rfl, a, rfl, ⟨_, SqL.of hA⟩, fun D nD => ?_⟩
  refine lc_list (K := K) (a := a) (xs := us) (fun i H' => Same H H' ∧ H' D = some (.lst (((ss.map (insideS wi he)).take i).map V.bl)))
    ⟨same_upd nD, upd_same⟩ (fun i H' _ z => SqL.of (z.1 _ _ hA)) ?_ ?_
  · rintro i x H' hx ⟨sm, hD⟩
    obtain ⟨T, z, rfl, hz, hT⟩ := hS.at hx
    have hT' := sm _ _ hT
    refine ⟨rfl, ?_⟩
    refine ⟨_, rfl, T, _, 0, _, rfl, rfl, SqT.of hT', atI_nat (j := 0) rfl, _, rfl, _, _, rfl, rfl, _, rfl, ?_⟩
    refine ite2 (fun c1 => ?_) (fun c1 => bls_more nD sm hD hz hl ?_)
    · refine ⟨_, rfl, T, _, 1, _, rfl, rfl, SqT.of hT', atI_nat (j := 1) rfl, _, rfl, _, _, rfl, rfl, bls_more nD sm hD hz hl ?_⟩
      unfold insideS
      rw [c1, Bool.true_and]
    · unfold insideS
      rw [Bool.eq_false_iff.mpr c1, Bool.false_and]
  · rintro H' ⟨sm, hD⟩
    refine ⟨D, ss.map (insideS wi he), rfl, SqL.of ?_, ?_⟩
    · rw [hD, hS.len, List.take_of_length_le (by rw [List.length_map]; exact Nat.le_refl _)]
    · rw [List.all_map]
      exact q H' sm
theorem ok_over {f : Addr} {fd : FuncData} (F : Fun K "overlaps" "overlaps" sOver f fd) (ma : mg "any" = none) : FnOk P w K mg base CX0 1 f fd ["squares", "covered"] spOver := by
  refine F.ok scOver (fun vs H Q E h => ?_) (fun cdv A outer s H vs Q E hr h => ?_)
  · obtain ⟨a, b, us, ws, ss, cov, rfl, _⟩ := h
    rfl
  obtain ⟨a, b, us, ws, ss, cov, rfl, hA, hS, hB, hC, hl, q⟩ := h
  refine ⟨_, pss_one (ps_ret (pe_callB (cr_any rfl) (by rfl) ma (by decide +kernel) (pa_cons
    (pe_lc (own := [("square", 2)]) (g := gName 2) (by rfl) scOver.nd (pi_list (pv 0))
      (blkOk_by (own := [("square", 2)]) (N := ["squares", "covered", "square"]) (sc := defScope sOver) (by decide +kernel))
      (fun _ _ _ _ _ => pg_name (i := 2) scOver.nd rfl (Or.inl rfl)) (fun _ _ _ _ _ => pts_nil)
      (fun _ _ _ _ _ => pe_cmpR (show OpR _ _ (rInD K) from op_inD (room65 hr)) (pv 2) (pv 1) (by rfl))) pa_nil))), ?_⟩
  refine ⟨_, rfl, a, rfl, ⟨_, SqL.of hA⟩, fun D nD => ?_⟩
  refine lc_list (K := K) (a := a) (xs := us) (fun i H' => Same H H' ∧ H' D = some (.lst (((ss.map (covd cov)).take i).map V.bl)))
    ⟨same_upd nD, upd_same⟩ (fun i H' _ z => SqL.of (z.1 _ _ hA)) ?_ ?_
  · rintro i x H' hx ⟨sm, hD⟩
    obtain ⟨T, z, rfl, hz, hT⟩ := hS.at hx
    have hT' := sm _ _ hT
    refine ⟨rfl, ?_⟩
    refine ⟨_, rfl, _, rfl, sqD z, cov.map sqD, sq_dp hT', .lst (SqL.of (sm _ _ hB)) ((hC.same sm).dp), sqD_shaped z, sqDs_shaped cov, bls_more nD sm hD hz hl (sqD_any cov z)⟩
  · rintro H' ⟨sm, hD⟩
    refine ⟨D, ss.map (covd cov), rfl, SqL.of ?_, ?_⟩
    · rw [hD, hS.len, List.take_of_length_le (by rw [List.length_map]; exact Nat.le_refl _)]
    · rw [List.any_map]
      exact q H' sm
theorem ok_find {k : Nat} {f fF fB fI fO : Addr} {fd fdF fdB fdI fdO : FuncData} (F : Fun K "find_filling" "find_filling" sFind f fd) (bR : Binds K fd ["width", "height", "length", "covered"] []) (mR : mg "find_filling" = some (.ref f))
    (GR : FnOk P w K mg base CX0 (k + 2) f fd ["width", "height", "length", "covered"] (spFind k))
    (ml : mg "len" = none) (GF : FnOk P w K mg base CX0 2 fF fdF ["width", "height", "covered"] spUnc) (bF : Binds K fdF ["width", "height", "covered"] []) (kF : PySem.W.keepIn K (.ref fF) = true) (mF : mg "uncovered_squares" = some (.ref fF))
    (GB : FnOk P w K mg base CX0 1 fB fdB ["x", "y", "direction", "length"] spBar) (bB : Binds K fdB ["x", "y", "direction", "length"] []) (kB : PySem.W.keepIn K (.ref fB) = true) (mB : mg "bar_squares" = some (.ref fB))
    (GI : FnOk P w K mg base CX0 1 fI fdI ["width", "height", "squares"] spIns) (bI : Binds K fdI ["width", "height", "squares"] []) (kI : PySem.W.keepIn K (.ref fI) = true) (mI : mg "lies_inside" = some (.ref fI))
    (GO : FnOk P w K mg base CX0 1 fO fdO ["squares", "covered"] spOver) (bO : Binds K fdO ["squares", "covered"] []) (kO : PySem.W.keepIn K (.ref fO) = true) (mO : mg "overlaps" = some (.ref fO)) :
    FnOk P w K mg base CX0 (k + 2 + 1) f fd ["width", "height", "length", "covered"] (spFind (k + 1)) := by
  refine F.ok scFind (fun vs H Q E h => ?_) (fun cdv A outer s H vs Q E hr h => ?_)
  · obtain ⟨w, h, n, a, us, cov, r, rfl, _⟩ := h
    rfl
  obtain ⟨wi, he, n, a, us, cov, r, rfl, ok, hA, hS, hlen, hf, qN, qS⟩ := h
  obtain ⟨⟨w1, w6⟩, ⟨h1, h6⟩, n1, n6⟩ := okAll_true ok
  have hr1 : Room 1 _ := hr.mono (by omega)
  have hr2 : Room 2 _ := hr.mono (by omega)
  refine ⟨_, pss_cons (ps_set (i := 4) scFind.nd rfl (.inl rfl) (pe_call GF hr2 rfl mF kF bF .nil pass0 (pa_cons (pv 0) (pa_cons (pv 1) (pa_cons (pv 3) pa_nil)))))
    (pss_cons (ps_if (pt_cmpR op_eq (pe_callB call_len_seq (by rfl) ml PySem.boot_len (pa_cons (pv 4) pa_nil)) pe_int (nomark _)) (pss_one (ps_ret (pe_lst pa_nil))) pss_nil)
    (pss_cons (ps_set (i := 5) scFind.nd rfl (.inl rfl) (pe_ix ix_list (pv 4) pe_int (fun _ _ => rfl)))
    (pss_cons (ps_for PassesOwn.never rfl (pi_tup (pe_tup (pa_cons pe_int (pa_cons pe_int pa_nil)))) (pg_name (i := 6) scFind.nd rfl (.inl rfl))
      (pss_cons (ps_set (i := 7) scFind.nd rfl (.inl rfl) (pe_call GB hr1 rfl mB kB bB .nil pass0 (pa_cons (pe_ix ix_tup (pv 5) pe_int (fun _ _ => rfl)) (pa_cons (pe_ix ix_tup (pv 5) pe_int (fun _ _ => rfl)) (pa_cons (pv 6) (pa_cons (pv 2) pa_nil))))))
      (pss_one (ps_if (PW.pt (pw_and (pt_val (pe_call GI hr1 rfl mI kI bI .nil pass0 (pa_cons (pv 0) (pa_cons (pv 1) (pa_cons (pv 7) pa_nil))))) (pw_and1 (pt_not (pt_val (pe_call GO hr1 rfl mO kO bO .nil pass0 (pa_cons (pv 7) (pa_cons (pv 3) pa_nil))))))))
        (pss_cons (ps_set (i := 8) scFind.nd rfl (.inl rfl) (pe_call GR hr rfl mR F.kp bR .nil pass0 (pa_cons (pv 0) (pa_cons (pv 1) (pa_cons (pv 2) (pa_cons (pe_op op_cat (pv 3) (pv 7)) pa_nil))))))
        (pss_one (ps_if (pt_cmpR op_notN (pv 8) pe_non (nomark _)) (pss_one (ps_ret (pe_op op_cat (pe_lst (pa_cons (pe_ix ix_tup (pv 5) pe_int (fun _ _ => rfl)) (pa_cons (pe_ix ix_tup (pv 5) pe_int (fun _ _ => rfl)) (pa_cons (pv 6) pa_nil)))) (pv 8)))) pss_nil)))
        pss_nil))))
    (pss_one (ps_ret pe_non))))), ?_⟩
  -- uncovered = uncovered_squares(width, height, covered)
  refine ⟨_, rfl, _, rfl, _, rfl, wi, he, a, us, cov, rfl, by omega, w6, by omega, h6, hA, hS, fun H1 U ws sm1 hU hW => ?_⟩
  refine ⟨_, rfl, U, _, rfl, .inl (SqL.of hU), rfl, _, rfl, ?_⟩
  have e1 := first_unc wi he cov
  have lW := hW.len
  cases e2 : freeSq wi he cov with
  | nil =>
    -- nothing is free
    rw [e2] at e1 lW
    have er := findF_full hf e1
    rw [lW]
    refine iteDT rfl ?_
    refine ⟨(by show 0 ≤ sizeLine; decide), fun p np => ?_⟩
    exact qS [] er _ p (sm1.trans (same_upd np)) upd_same
  | cons sq rest =>
  rw [e2] at e1 lW hW
  have e0 : firstFree wi he cov = some sq := e1
  rw [lW]
  refine iteDF (fun z => by have z1 := V.int.inj z; rw [List.length_cons] at z1; omega) ?_
  -- first = uncovered[0]
  obtain ⟨ps, ws', rfl, hps⟩ : ∃ ps ws', ws = .ref ps :: ws' ∧ H1 ps = some (.tup [.int sq.1, .int sq.2]) := by
    cases hW with
    | cons h r => exact ⟨_, _, rfl, h⟩
  refine ⟨_, rfl, U, _, 0, _, rfl, rfl, SqL.of hU, atI_nat (j := 0) rfl, ?_⟩
  have st := findF_step hf e0
  -- for direction in (1, 0)
  refine ⟨(by show 2 ≤ sizeLine; decide), fun T nT => ?_⟩
  have smT := sm1.trans (same_upd (o := .tup [.int 1, .int 0]) nT)
  have hT : (upd H1 T (.tup [.int 1, .int 0])) T = some (.tup [.int 1, .int 0]) := upd_same
  have hps' := (same_upd (o := .tup [.int 1, .int 0]) nT) _ _ hps
  generalize (upd H1 T (.tup [.int 1, .int 0])) = H2 at smT hT hps' ⊢
  refine ⟨T, rfl, ⟨_, SqT.of hT⟩, ?_⟩
  refine for_tup (K := K) (a := T) (xs := ([1, 0] : List Int).map V.int) (fun i σ H' => ∃ v5 v6 v7 : Option V, σ = [some (.int wi), some (.int he), some (.int n), some (.ref a), some (.ref U), some (.ref ps), v5, v6, v7] ∧ Same H2 H' ∧
      ∀ d ∈ ([1, 0] : List Int).take i, tryDir (findF k wi he n) wi he n cov sq d = some none)
    ⟨none, none, none, rfl, Same.refl _, fun d hd => by simp at hd⟩ (fun i σ H' _ ⟨_, _, _, _, z, _⟩ => SqT.of (z _ _ hT)) ?_ ?_
  · rintro i x σ H3 hx ⟨v5, v6, v7, rfl, sm3, tried⟩
    obtain ⟨d, hd, rfl⟩ := map_at hx
    -- what this direction gives
    obtain ⟨o, ho, oS, oN⟩ : ∃ o, tryDir (findF k wi he n) wi he n cov sq d = some o ∧ (∀ l, o = some l → r = some l) ∧ (o = none → ∀ d ∈ ([1, 0] : List Int).take (i + 1), tryDir (findF k wi he n) wi he n cov sq d = some none) := by
      have more : tryDir (findF k wi he n) wi he n cov sq d = some none → ∀ d ∈ ([1, 0] : List Int).take (i + 1), tryDir (findF k wi he n) wi he n cov sq d = some none := fun z y hy => by
        rw [take_more hd] at hy
        rcases List.mem_append.mp hy with m | m
        · exact tried y m
        · rw [List.mem_singleton.mp m]
          exact z
      match i, hd with
      | 0, hd =>
        have ed : (1 : Int) = d := Option.some.inj hd
        subst ed
        rcases st with ⟨t1, t0⟩ | ⟨l, t1, er⟩
        · exact ⟨none, t1, fun l z => (by cases z), fun _ => more t1⟩
        · exact ⟨some l, t1, fun l' z => (by cases z; exact er), fun z => by cases z⟩
      | 1, hd =>
        have ed : (0 : Int) = d := Option.some.inj hd
        subst ed
        have t1' := tried 1 (by simp)
        rcases st with ⟨t1, t0⟩ | ⟨l, t1, er⟩
        · exact ⟨r, t0, fun l z => z, fun z => more (by rw [← z]; exact t0)⟩
        · rw [t1] at t1'
          cases t1'
      | i + 2, hd => cases hd
    have hps3 := sm3 _ _ hps'
    -- bar = bar_squares(square[0], square[1], direction, length)
    refine ⟨_, rfl, ps, _, 0, _, rfl, rfl, SqT.of hps3, atI_nat (j := 0) rfl, _, rfl, ps, _, 1, _, rfl, rfl, SqT.of hps3, atI_nat (j := 1) rfl, _, rfl, _, rfl, sq.1, sq.2, d, n, rfl, by omega, n6, fun H4 b bs sm4 hB hBS => ?_⟩
    have bl : (barSq sq.1 sq.2 d n).length ≤ 6 := by
      rw [barSq_len]
      omega
    -- if lies_inside(..) and not overlaps(..)
    refine ⟨_, rfl, _, rfl, _, rfl, wi, he, b, bs, _, rfl, hB, hBS, by omega, fun H5 sm5 => ⟨_, rfl, ?_⟩⟩
    have sm25 : Same H2 H5 := sm3.trans (sm4.trans sm5)
    refine ite2 (fun c1 => ?_) (fun c1 => ?_)
    · have hA5 := sm25 _ _ (smT _ _ hA)
      have hS5 := (hS.same smT).same sm25
      refine ⟨_, rfl, _, rfl, b, a, bs, us, _, cov, rfl, sm5 _ _ hB, hBS.same sm5, hA5, hS5, by omega, fun H6 sm6 => ⟨_, rfl, ?_⟩⟩
      refine ite2 (fun c2 => ?_) (fun c2 => ?_)
      · obtain ⟨r2, hr2, eo⟩ := tryDir_yes ho c1 c2
        have l1 := (hS.len)
        have l2 := (hBS.len)
        have sm26 := sm25.trans sm6
        have hA6 := sm6 _ _ hA5
        have hB6 := sm6 _ _ (sm5 _ _ hB)
        -- rest = find_filling(width, height, length, covered + bar)
        refine ⟨_, rfl, _, rfl, _, rfl, _, rfl, _, rfl, a, b, us, bs, rfl, rfl, hA6, hB6, Nat.le_of_lt (small1000 (by omega)), fun c nc => ?_⟩
        have gc := same_upd (o := .lst (us ++ bs)) nc
        refine ⟨wi, he, n, c, us ++ bs, cov ++ barSq sq.1 sq.2 d n, r2, rfl, ok, upd_same, ((hS5.same sm6).app ((hBS.same sm5).same sm6)).same gc, by rw [List.length_append]; omega, hr2, fun er H7 sm7 => ?_, fun l er H7 p sm7 hp => ?_⟩
        · refine ⟨_, rfl, rfl, _, rfl, ?_⟩
          refine iteNS rfl ?_
          refine ⟨_, _, _, rfl, sm26.trans (gc.trans sm7), oN ?_⟩
          rw [eo, er]
          rfl
        · refine ⟨_, rfl, rfl, _, rfl, ?_⟩
          refine iteNN (fun z => by cases z) ?_
          have sm27 := sm26.trans (gc.trans sm7)
          have hps7 := sm27 _ _ hps'
          refine ⟨_, rfl, ps, _, 0, _, rfl, rfl, SqT.of hps7, atI_nat (j := 0) rfl, _, rfl, ps, _, 1, _, rfl, rfl, SqT.of hps7, atI_nat (j := 1) rfl, _, rfl, (by show 3 ≤ sizeLine; decide), fun L nL => ?_⟩
          have gL := same_upd (o := .lst [.int sq.1, .int sq.2, .int d]) nL
          have hl : l.length ≤ 3 * k := findF_len k (by rw [hr2, er])
          refine ⟨_, rfl, L, p, _, _, rfl, rfl, upd_same, gL _ _ hp, Nat.le_of_lt (small1000 (by rw [List.length_map]; show 3 + l.length ≤ 1000; omega)), fun M nM => ?_⟩
          refine qS ([sq.1, sq.2, d] ++ l) (oS _ (by rw [eo, er]; rfl)) _ M (smT.trans (sm27.trans (gL.trans (same_upd nM)))) ?_
          rw [upd_same]
          rfl
      · exact ⟨_, _, _, rfl, sm25.trans sm6, oN (tryDir_no2 ho c2)⟩
    · exact ⟨_, _, _, rfl, sm25, oN (tryDir_no1 ho c1)⟩
  · rintro σ H3 ⟨v5, v6, v7, rfl, sm3, tried⟩
    have t1 := tried 1 (by simp)
    have t0 := tried 0 (by simp)
    refine qN ?_ _ (smT.trans sm3)
    rcases st with ⟨_, e⟩ | ⟨l, e, _⟩
    · rw [t0] at e
      exact (Option.some.inj e).symm
    · rw [t1] at e
      cases e
/-! ### fill -/
theorem none_left {f : Addr} {fd : FuncData} : FnOk P w K mg base CX0 2 f fd ["width", "height", "length", "covered"] (spFind 0) := by
  have no : ∀ vs H Q E, ¬ spFind 0 vs H Q E := fun vs H Q E h => by
    obtain ⟨_, _, _, _, _, _, _, _, _, _, _, _, e, _⟩ := h
    unfold findF at e
    cases e
  exact ⟨fun vs H Q E h => absurd h (no vs H Q E), fun A outer s H args us vs Q E _ _ _ _ h => absurd h (no vs H Q E)⟩
theorem ok_fill {f fZ fR : Addr} {fd fdZ fdR : FuncData} {tO tC : Tok} (F : Fun K "fill" "fill" sFill f fd) (GZ : FnOk P w K mg base CX0 1 fZ fdZ ["width", "height", "length"] spSizes) (bZ : Binds K fdZ ["width", "height", "length"] []) (kZ : PySem.W.keepIn K (.ref fZ) = true)
    (mZ : mg "sizes_in_range" = some (.ref fZ)) (GR : FnOk P w K mg base CX0 39 fR fdR ["width", "height", "length", "covered"] (spFind 37)) (bR : Binds K fdR ["width", "height", "length", "covered"] []) (kR : PySem.W.keepIn K (.ref fR) = true) (mR : mg "find_filling" = some (.ref fR))
    (mO : mg "OUT_OF_RANGE" = some (.int (-22) tO)) (mC : mg "NO_VALID_ARRANGEMENT" = some (.int (-33) tC)) (ml : mg "len" = none) : FnOk P w K mg base CX0 40 f fd ["width", "height", "length"] spFill := by
  refine F.ok scFill (fun vs H Q E h => ?_) (fun cdv A outer s H vs Q E hr h => ?_)
  · obtain ⟨a, b, c, rfl, _⟩ := h
    rfl
  obtain ⟨a, b, c, rfl, ha, hb, hc, q⟩ := h
  have hr1 : Room 1 _ := hr.mono (by omega)
  refine ⟨_, pss_cons (ps_if (pt_not (pt_val (pe_call GZ hr1 rfl mZ kZ bZ .nil pass0 (pa_cons (pv 0) (pa_cons (pv 1) (pa_cons (pv 2) pa_nil)))))) (pss_one (ps_ret (pe_lst (pa_cons (pe_glob (v := .int (-22)) rfl mO ⟨_, rfl⟩) pa_nil)))) pss_nil)
    (pss_cons (ps_set (i := 3) scFill.nd rfl (.inl rfl) (pe_call GR hr rfl mR kR bR .nil pass0 (pa_cons (pv 0) (pa_cons (pv 1) (pa_cons (pv 2) (pa_cons (pe_lst pa_nil) pa_nil))))))
    (pss_cons (ps_if (pt_cmpR op_isN (pv 3) pe_non (nomark _)) (pss_one (ps_ret (pe_lst (pa_cons (pe_glob (v := .int (-33)) rfl mC ⟨_, rfl⟩) pa_nil)))) pss_nil)
    (pss_one (ps_ret (pe_op op_cat (pe_lst (pa_cons (pe_op op_fdiv (pe_callB call_len_seq rfl ml PySem.boot_len (pa_cons (pv 3) pa_nil)) pe_int) pa_nil)) (pv 3)))))), ?_⟩
  refine ⟨_, rfl, _, rfl, _, rfl, a, b, c, rfl, fun H1 sm1 => ?_⟩
  refine ⟨_, rfl, ?_⟩
  cases e : okAll a b c with
  | false =>
    refine iteT ⟨(by show 1 ≤ sizeLine; decide), fun p _ => q _ p ?_⟩
    rw [upd_same, fill_out ha hb hc e]
    rfl
  | true =>
    have e2 := fill_in e
    refine iteF ⟨_, rfl, _, rfl, _, rfl, (by show 0 ≤ sizeLine; decide), fun v nv => ?_⟩
    obtain ⟨r, er⟩ : ∃ r, findF 37 a b c [] = some r := by
      unfold fillM at e2
      cases x : findF 37 a b c [] with
      | none =>
        rw [x] at e2
        cases e2
      | some r => exact ⟨r, rfl⟩
    unfold fillM at e2
    rw [er] at e2
    refine ⟨a, b, c, v, [], [], r, rfl, e, upd_same, .nil, (by decide), er, fun en H2 sm2 => ?_, fun l el H2 p sm2 hp => ?_⟩
    · subst en
      refine ⟨_, rfl, rfl, _, rfl, ?_⟩
      refine iteDT rfl ?_
      refine ⟨(by show 1 ≤ sizeLine; decide), fun p _ => q _ p ?_⟩
      rw [upd_same, ← Option.some.inj e2]
      rfl
    · subst el
      refine ⟨_, rfl, rfl, _, rfl, ?_⟩
      refine iteDF (fun z => by cases z) ?_
      have hl : l.length ≤ 3 * 37 := findF_len 37 er
      refine ⟨_, rfl, p, _, rfl, .inl (SqL.of hp), _, _, rfl, rfl, ⟨by decide, by decide⟩, (by show 1 ≤ sizeLine; decide), fun L nL => ?_⟩
      refine ⟨_, rfl, L, p, _, _, rfl, rfl, upd_same, (same_upd nL) _ _ hp, Nat.le_of_lt (small1000 (by rw [List.length_map]; show 1 + l.length ≤ 1000; omega)), fun M nM => q _ M ?_⟩
      rw [upd_same, ← Option.some.inj e2, List.length_map]
      rfl
end
/-! ### the end -/
theorem all_mk {P : Program} {w : World} {K : PySem.W.Frag} {h : Heap} {mg : Str → Option Value} {fa f1 f2 f3 f4 f5 f6 f7 f8 : Addr} {t1 t2 t3 : Tok} (X : K.In h) (G : h.Ns mainGlobals mg) (hfa : mg "fill" = some (.ref fa))
    {od1 an1 od2 an2 od3 an3 od4 an4 od5 an5 od6 an6 od7 an7 od8 an8 : Option Addr} {sl1 sl2 sl3 sl4 sl5 sl6 sl7 sl8 : Array (Option Value)} {oc1 kV1 dc1 pm1 cd1 ct1 oc2 kV2 dc2 pm2 cd2 ct2 oc3 kV3 dc3 pm3 cd3 ct3 oc4 kV4 dc4 pm4 cd4 ct4 oc5 kV5 dc5 pm5 cd5 ct5 oc6 kV6 dc6 pm6 cd6 ct6 oc7 kV7 dc7 pm7 cd7 ct7 oc8 kV8 dc8 pm8 cd8 ct8 : Value}
    (a1 : PySem.W.nsIn K mainGlobals "fill" = some (some (.ref f1))) (l1 : K.lookup f1 = some ⟨oc1, od1, .func (PySem.W.fnOf "fill" "fill" (defArgs sFill) (defBody sFill) (defScope sFill) .none kV1 dc1 pm1 an1 cd1 ct1), sl1⟩) (c1 : PySem.W.codeIn K cd1 "fill" = true) (k1 : PySem.W.keepIn K (.ref f1) = true)
    (a2 : PySem.W.nsIn K mainGlobals "sizes_in_range" = some (some (.ref f2))) (l2 : K.lookup f2 = some ⟨oc2, od2, .func (PySem.W.fnOf "sizes_in_range" "sizes_in_range" (defArgs sSizes) (defBody sSizes) (defScope sSizes) .none kV2 dc2 pm2 an2 cd2 ct2), sl2⟩) (c2 : PySem.W.codeIn K cd2 "sizes_in_range" = true) (k2 : PySem.W.keepIn K (.ref f2) = true)
    (a3 : PySem.W.nsIn K mainGlobals "find_filling" = some (some (.ref f3))) (l3 : K.lookup f3 = some ⟨oc3, od3, .func (PySem.W.fnOf "find_filling" "find_filling" (defArgs sFind) (defBody sFind) (defScope sFind) .none kV3 dc3 pm3 an3 cd3 ct3), sl3⟩) (c3 : PySem.W.codeIn K cd3 "find_filling" = true) (k3 : PySem.W.keepIn K (.ref f3) = true)
    (a4 : PySem.W.nsIn K mainGlobals "layer_squares" = some (some (.ref f4))) (l4 : K.lookup f4 = some ⟨oc4, od4, .func (PySem.W.fnOf "layer_squares" "layer_squares" (defArgs sLayer) (defBody sLayer) (defScope sLayer) .none kV4 dc4 pm4 an4 cd4 ct4), sl4⟩) (c4 : PySem.W.codeIn K cd4 "layer_squares" = true) (k4 : PySem.W.keepIn K (.ref f4) = true)
    (a5 : PySem.W.nsIn K mainGlobals "uncovered_squares" = some (some (.ref f5))) (l5 : K.lookup f5 = some ⟨oc5, od5, .func (PySem.W.fnOf "uncovered_squares" "uncovered_squares" (defArgs sUnc) (defBody sUnc) (defScope sUnc) .none kV5 dc5 pm5 an5 cd5 ct5), sl5⟩) (c5 : PySem.W.codeIn K cd5 "uncovered_squares" = true) (k5 : PySem.W.keepIn K (.ref f5) = true)
    (a6 : PySem.W.nsIn K mainGlobals "bar_squares" = some (some (.ref f6))) (l6 : K.lookup f6 = some ⟨oc6, od6, .func (PySem.W.fnOf "bar_squares" "bar_squares" (defArgs sBar) (defBody sBar) (defScope sBar) .none kV6 dc6 pm6 an6 cd6 ct6), sl6⟩) (c6 : PySem.W.codeIn K cd6 "bar_squares" = true) (k6 : PySem.W.keepIn K (.ref f6) = true)
    (a7 : PySem.W.nsIn K mainGlobals "lies_inside" = some (some (.ref f7))) (l7 : K.lookup f7 = some ⟨oc7, od7, .func (PySem.W.fnOf "lies_inside" "lies_inside" (defArgs sIns) (defBody sIns) (defScope sIns) .none kV7 dc7 pm7 an7 cd7 ct7), sl7⟩) (c7 : PySem.W.codeIn K cd7 "lies_inside" = true) (k7 : PySem.W.keepIn K (.ref f7) = true)
    (a8 : PySem.W.nsIn K mainGlobals "overlaps" = some (some (.ref f8))) (l8 : K.lookup f8 = some ⟨oc8, od8, .func (PySem.W.fnOf "overlaps" "overlaps" (defArgs sOver) (defBody sOver) (defScope sOver) .none kV8 dc8 pm8 an8 cd8 ct8), sl8⟩) (c8 : PySem.W.codeIn K cd8 "overlaps" = true) (k8 : PySem.W.keepIn K (.ref f8) = true)
    (g1 : PySem.W.nsIn K mainGlobals "GREATEST_SIZE" = some (some (.int 6 t1))) (g2 : PySem.W.nsIn K mainGlobals "OUT_OF_RANGE" = some (some (.int (-22) t2))) (g3 : PySem.W.nsIn K mainGlobals "NO_VALID_ARRANGEMENT" = some (some (.int (-33) t3))) (z1 : PySem.W.nsIn K mainGlobals "len" = some none) (z2 : PySem.W.nsIn K mainGlobals "all" = some none) (z3 : PySem.W.nsIn K mainGlobals "any" = some none) (z4 : PySem.W.nsIn K mainGlobals "range" = some none) :
    ∃ fd : FuncData, (∀ (s : Shared) (us : List Value), us.length = (["width", "height", "length"] : List Str).length → BindsTo s fd ⟨us, []⟩ ((["width", "height", "length"] : List Str).zip us)) ∧
      ∀ base : Heap, K.In base → base.Ns mainGlobals mg → FnOk P w K mg base CX0 40 fa fd ["width", "height", "length"] spFill := by
  have e := hfa.symm.trans (PySem.W.mg_of X G a1)
  cases e
  have F1 := fun_mk (st := sFill) l1 c1 k1
  have F2 := fun_mk (st := sSizes) l2 c2 k2
  have F3 := fun_mk (st := sFind) l3 c3 k3
  have F4 := fun_mk (st := sLayer) l4 c4 k4
  have F5 := fun_mk (st := sUnc) l5 c5 k5
  have F6 := fun_mk (st := sBar) l6 c6 k6
  have F7 := fun_mk (st := sIns) l7 c7 k7
  have F8 := fun_mk (st := sOver) l8 c8 k8
  have b2 := F2.binds (ps := ["width", "height", "length"]) fun _ _ _ _ _ _ us hl => match us, hl with | [_, _, _], _ => rfl
  have b3 := F3.binds (ps := ["width", "height", "length", "covered"]) fun _ _ _ _ _ _ us hl => match us, hl with | [_, _, _, _], _ => rfl
  have b4 := F4.binds (ps := ["width", "height"]) fun _ _ _ _ _ _ us hl => match us, hl with | [_, _], _ => rfl
  have b5 := F5.binds (ps := ["width", "height", "covered"]) fun _ _ _ _ _ _ us hl => match us, hl with | [_, _, _], _ => rfl
  have b6 := F6.binds (ps := ["x", "y", "direction", "length"]) fun _ _ _ _ _ _ us hl => match us, hl with | [_, _, _, _], _ => rfl
  have b7 := F7.binds (ps := ["width", "height", "squares"]) fun _ _ _ _ _ _ us hl => match us, hl with | [_, _, _], _ => rfl
  have b8 := F8.binds (ps := ["squares", "covered"]) fun _ _ _ _ _ _ us hl => match us, hl with | [_, _], _ => rfl
  refine ⟨PySem.W.fnOf "fill" "fill" (defArgs sFill) (defBody sFill) (defScope sFill) .none kV1 dc1 pm1 an1 cd1 ct1, fun s us hu => match us, hu with | [_, _, _], _ => .of_eq rfl, fun base _ _ => ?_⟩
  have ml := PySem.W.mg_none_of X G z1
  have ma := PySem.W.mg_none_of X G z2
  have mn := PySem.W.mg_none_of X G z3
  have mr := PySem.W.mg_none_of X G z4
  have GZ := ok_sizes (P := P) (w := w) (base := base) F2 ma (PySem.W.mg_of X G g1)
  have GL := ok_layer (P := P) (w := w) (base := base) F4 mr
  have GU := ok_unc (P := P) (w := w) (base := base) F5 GL b4 k4 (PySem.W.mg_of X G a4)
  have GB := ok_bar (P := P) (w := w) (base := base) F6 mr
  have GI := ok_ins (P := P) (w := w) (base := base) F7 ma
  have GO := ok_over (P := P) (w := w) (base := base) F8 mn
  have GR : ∀ k : Nat, FnOk P w K mg base CX0 (k + 2) f3 _ ["width", "height", "length", "covered"] (spFind k) := fun k => by
    induction k with
    | zero => exact none_left
    | succ k ih => exact ok_find F3 b3 (PySem.W.mg_of X G a3) ih ml GU b5 k5 (PySem.W.mg_of X G a5) GB b6 k6 (PySem.W.mg_of X G a6) GI b7 k7 (PySem.W.mg_of X G a7) GO b8 k8 (PySem.W.mg_of X G a8)
  exact ok_fill F1 GZ b2 k2 (PySem.W.mg_of X G a2) (GR 37) b3 k3 (PySem.W.mg_of X G a3) (PySem.W.mg_of X G g2) (PySem.W.mg_of X G g3) ml
end LB
open PySem PySem.W PyProof.Rows
set_option maxRecDepth 100000 in
set_option maxHeartbeats 8000000 in
theorem PySem.Challenge.cw_layerbars_s01_fill_holds : PySem.Challenge.rw_layerbars_s01_fill.Holds := by
  w_on; k_headS; (case hw => exact ⟨[.int 1, .int 1, .int 1], by decide +kernel, by decide +kernel⟩)
  k_fillS
  refine L2.walk_specK (r := PySem.Challenge.rw_layerbars_s01_fill) (k := 40) (CX := L2.CX0) (ps := ["width", "height", "length"]) (sp := fun _ => LB.spFill) (by decide +kernel) rfl rfl ⟨rfl, by decide, by decide⟩ (fun w h Y => PySem.W.kIn_of Y) ?F ?S (fun _ _ _ _ z => z)
  case F =>
    intro w mg fa h Y KX G hmg
    refine' LB.all_mk KX G hmg ?a1 ?l1 ?c1 ?k1 ?a2 ?l2 ?c2 ?k2 ?a3 ?l3 ?c3 ?k3 ?a4 ?l4 ?c4 ?k4 ?a5 ?l5 ?c5 ?k5 ?a6 ?l6 ?c6 ?k6 ?a7 ?l7 ?c7 ?k7 ?a8 ?l8 ?c8 ?k8 ?g1 ?g2 ?g3 ?z1 ?z2 ?z3 ?z4
    (case a1 => k_is); (case l1 => k_is); (case c1 => k_is); (case k1 => k_is)
    (case a2 => k_is); (case l2 => k_is); (case c2 => k_is); (case k2 => k_is)
    (case a3 => k_is); (case l3 => k_is); (case c3 => k_is); (case k3 => k_is)
    (case a4 => k_is); (case l4 => k_is); (case c4 => k_is); (case k4 => k_is)
    (case a5 => k_is); (case l5 => k_is); (case c5 => k_is); (case k5 => k_is)
    (case a6 => k_is); (case l6 => k_is); (case c6 => k_is); (case k6 => k_is)
    (case a7 => k_is); (case l7 => k_is); (case c7 => k_is); (case k7 => k_is)
    (case a8 => k_is); (case l8 => k_is); (case c8 => k_is); (case k8 => k_is)
    (case g1 => k_is); (case g2 => k_is); (case g3 => k_is); (case z1 => k_is)
    (case z2 => k_is); (case z3 => k_is); (case z4 => k_is)
  case S =>
    intro K H xs a hO hwi hask hx
    obtain ⟨x, y, n, u⟩ := a
    cases hx with
    | cons h1 r1 =>
      cases r1 with
      | cons h2 r2 =>
        cases r2 with
        | cons h3 r3 =>
          cases r3
          cases h1
          cases h2
          cases h3
          have q : (Codec.inInt 0 4294967295 x && (Codec.inInt 0 4294967295 y && (Codec.inInt 0 4294967295 n && true))) = true := hwi
          simp only [Bool.and_eq_true, Codec.inInt, decide_eq_true_eq] at q
          exact ⟨x, y, n, rfl, q.1.1, q.2.1.1, q.2.2.1.1, fun H' p hp => .lst (L2.SqL.of hp) (L2.dw_ints _)⟩
#print axioms PySem.Challenge.cw_layerbars_s01_fill_holds
