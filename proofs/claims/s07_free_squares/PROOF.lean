import PyProof.Rows.All
import Wide.All
import OpenK.AllK
import Wide.FinOn
import Open.SpecLaws
import KE.OsGo
import HandS.ForSpec
import HandS.Comp
import HandS.Iter
import HandS.Deep
import KE.KRevSl
import PySem.Challenge.RW_layerbars_s07_free_squares
set_option Elab.async false
set_option maxRecDepth 100000
set_option maxHeartbeats 2000000
namespace LB
open PySem PySem.Spec PyProof.Rows L2
open PySem.W (Codec)
/-! ### the mathematics: sizes and squares -/
def okSize (i : Int) : Bool := decide (1 ≤ i) && decide (i ≤ 6)
def okAll (w h n : Int) : Bool := [w, h, n].all okSize
theorem okAll_true {w h n : Int} (q : okAll w h n = true) : (1 ≤ w ∧ w ≤ 6) ∧ (1 ≤ h ∧ h ≤ 6) ∧ (1 ≤ n ∧ n ≤ 6) := by
  simp only [okAll, okSize, List.all_cons, List.all_nil, Bool.and_true, Bool.and_eq_true, decide_eq_true_eq] at q
  exact q
theorem okAll_layer {w h n : Int} (hw : 0 ≤ w) (hh : 0 ≤ h) (hn : 0 ≤ n) : Kbe4.validLayer w.toNat h.toNat n.toNat = okAll w h n := by
  have e : ∀ i : Int, 0 ≤ i → (decide (1 ≤ i.toNat) && decide (i.toNat ≤ 6)) = okSize i := fun i hi => by
    unfold okSize
    rw [decide_eq_decide.mpr (show 1 ≤ i.toNat ↔ 1 ≤ i by omega), decide_eq_decide.mpr (show i.toNat ≤ 6 ↔ i ≤ 6 by omega)]
  show (((((decide (1 ≤ w.toNat) && decide (w.toNat ≤ 6)) && decide (1 ≤ h.toNat)) && decide (h.toNat ≤ 6)) && decide (1 ≤ n.toNat)) && decide (n.toNat ≤ 6)) = (okSize w && (okSize h && (okSize n && true)))
  rw [← e w hw, ← e h hh, ← e n hn]
  simp only [Bool.and_assoc, Bool.and_true]
def barSq (x y d n : Int) : List (Int × Int) :=
  if d = 1 then (List.range n.toNat).map fun (i : Nat) => (x + (i : Int), y) else (List.range n.toNat).map fun (i : Nat) => (x, y + (i : Int))
def insideS (w h : Int) (s : Int × Int) : Bool := decide (s.1 < w) && decide (s.2 < h)
def covd (cov : List (Int × Int)) (s : Int × Int) : Bool := cov.any fun z => decide (z = s)
def rowSq (w : Int) (y : Nat) : List (Int × Int) := (List.range w.toNat).map fun (x : Nat) => ((x : Int), (y : Int))
def layerSq (w h : Int) : List (Int × Int) := (List.range h.toNat).flatMap (rowSq w)
theorem barSq_len (x y d n : Int) : (barSq x y d n).length = n.toNat := by
  unfold barSq
  split <;> rw [List.length_map, List.length_range]
theorem rowSq_len (w : Int) (y : Nat) : (rowSq w y).length = w.toNat := by
  unfold rowSq
  rw [List.length_map, List.length_range]
theorem rows_len (w : Int) : ∀ k : Nat, ((List.range k).flatMap (rowSq w)).length = k * w.toNat
  | 0 => by
    rw [Nat.zero_mul]
    rfl
  | k + 1 => by rw [List.range_succ, List.flatMap_append, List.length_append, rows_len w k, Nat.succ_mul, List.flatMap_cons, List.flatMap_nil, List.append_nil, rowSq_len]
theorem layerSq_len {w h : Int} (hw : w ≤ 6) (hh : h ≤ 6) : (layerSq w h).length ≤ 36 := by
  unfold layerSq
  rw [rows_len]
  have h1 : h.toNat * w.toNat ≤ 6 * 6 := Nat.mul_le_mul (by omega) (by omega)
  omega
/-! ### the mathematics: bars -/
abbrev Tri := Int × Int × Int
def flatT (ts : List Tri) : List Int := ts.flatMap fun t => [t.1, t.2.1, t.2.2]
theorem flatT_len : ∀ ts : List Tri, (flatT ts).length = 3 * ts.length
  | [] => rfl
  | t :: ts => by
    show ([t.1, t.2.1, t.2.2] ++ flatT ts).length = _
    rw [List.length_append, flatT_len ts]
    show 3 + 3 * ts.length = 3 * (ts.length + 1)
    omega
theorem flatT_at : ∀ {ts : List Tri} {i : Nat} {t : Tri}, ts[i]? = some t → (flatT ts)[3 * i]? = some t.1 ∧ (flatT ts)[3 * i + 1]? = some t.2.1 ∧ (flatT ts)[3 * i + 2]? = some t.2.2
  | [], i, t, h => by simp at h
  | a :: ts, 0, t, h => by
    have e : a = t := Option.some.inj h
    subst e
    exact ⟨rfl, rfl, rfl⟩
  | a :: ts, i + 1, t, h => by
    obtain ⟨h1, h2, h3⟩ := flatT_at (ts := ts) (i := i) (t := t) h
    have e : ∀ j, (flatT (a :: ts))[j + 3]? = (flatT ts)[j]? := fun j => rfl
    refine ⟨?_, ?_, ?_⟩
    · rw [show 3 * (i + 1) = 3 * i + 3 by omega, e]
      exact h1
    · rw [show 3 * (i + 1) + 1 = 3 * i + 1 + 3 by omega, e]
      exact h2
    · rw [show 3 * (i + 1) + 2 = 3 * i + 2 + 3 by omega, e]
      exact h3
/-- a list whose length three divides -/
theorem flatT_of : ∀ (k : Nat) (ns : List Int), ns.length = 3 * k → ∃ ts : List Tri, ns = flatT ts ∧ ts.length = k
  | 0, ns, h => ⟨[], List.eq_nil_of_length_eq_zero (by omega), rfl⟩
  | k + 1, x :: y :: d :: r, h => by
    obtain ⟨ts, e, l⟩ := flatT_of k r (by simp only [List.length_cons] at h; omega)
    exact ⟨(x, y, d) :: ts, by rw [e]; rfl, by rw [List.length_cons, l]⟩
  | k + 1, [], h => by simp at h
  | k + 1, [x], h => by simp at h; omega
  | k + 1, [x, y], h => by simp at h; omega
def okCo (i : Int) : Bool := decide (0 ≤ i) && decide (i ≤ 7)
def okDir (i : Int) : Bool := decide (i = 0) || decide (i = 1)
def formT (ts : List Tri) : Bool := (ts.map (·.1) ++ ts.map (·.2.1)).all okCo && (ts.map (·.2.2)).all okDir
def toBar (t : Tri) : Kbe4.Bar := ⟨t.1.toNat, t.2.1.toNat, t.2.2.toNat == 1⟩
theorem formT_cons (t : Tri) (ts : List Tri) : formT (t :: ts) = (okCo t.1 && okCo t.2.1 && okDir t.2.2 && formT ts) := by
  simp only [formT, List.map_cons, List.cons_append, List.all_cons, List.all_append]
  cases okCo t.1 <;> cases okCo t.2.1 <;> cases okDir t.2.2 <;> simp
theorem parse_flat : ∀ (ts : List Tri), (∀ i ∈ flatT ts, 0 ≤ i) → Kbe4.parseBars ((flatT ts).map Int.toNat) = if formT ts = true then some (ts.map toBar) else none
  | [], _ => rfl
  | (x, y, d) :: ts, h => by
    have ih := parse_flat ts fun i hi => h i (by
      show i ∈ [x, y, d] ++ flatT ts
      exact List.mem_append_right _ hi)
    have hx : 0 ≤ x := h x (by show x ∈ [x, y, d] ++ flatT ts; simp)
    have hy : 0 ≤ y := h y (by show y ∈ [x, y, d] ++ flatT ts; simp)
    have hd : 0 ≤ d := h d (by show d ∈ [x, y, d] ++ flatT ts; simp)
    show Kbe4.parseBars (x.toNat :: y.toNat :: d.toNat :: (flatT ts).map Int.toNat) = _
    unfold Kbe4.parseBars
    rw [ih, formT_cons]
    by_cases c : 7 < x.toNat ∨ 7 < y.toNat ∨ 1 < d.toNat
    · rw [if_pos c]
      have e : (okCo x && okCo y && okDir d) = false := by
        rw [Bool.eq_false_iff]
        intro z
        simp only [okCo, okDir, Bool.and_eq_true, Bool.or_eq_true, decide_eq_true_eq] at z
        omega
      show none = if (okCo x && okCo y && okDir d && formT ts) = true then _ else _
      rw [e, Bool.false_and, if_neg Bool.false_ne_true]
    · rw [if_neg c]
      have e : (okCo x && okCo y && okDir d) = true := by
        simp only [okCo, okDir, Bool.and_eq_true, Bool.or_eq_true, decide_eq_true_eq]
        omega
      show _ = if (okCo x && okCo y && okDir d && formT ts) = true then _ else _
      rw [e, Bool.true_and]
      by_cases g : formT ts = true
      · rw [if_pos g, if_pos g]
        rfl
      · rw [if_neg g, if_neg g]
        rfl
theorem parse_odd : ∀ ns : List Nat, ns.length % 3 ≠ 0 → Kbe4.parseBars ns = none
  | [], h => absurd rfl h
  | [_], _ => rfl
  | [_, _], _ => rfl
  | x :: y :: d :: r, h => by
    have ih := parse_odd r (by simp only [List.length_cons] at h; omega)
    unfold Kbe4.parseBars
    rw [ih]
    by_cases c : 7 < x ∨ 7 < y ∨ 1 < d
    · rw [if_pos c]
    · rw [if_neg c]
      rfl
/-- the walk over the bars -/
def triSq (n : Int) (t : Tri) : List (Int × Int) := barSq t.1 t.2.1 t.2.2 n
def arrF (w h n : Int) : List Tri → List (Int × Int) → Option (List (Int × Int))
  | [], cov => some cov
  | t :: ts, cov => if (!(triSq n t).all (insideS w h) || (triSq n t).any (covd cov)) = true then none else arrF w h n ts (cov ++ triSq n t)
theorem nodup_map {α β : Type} {f : α → β} (hf : ∀ a b, f a = f b → a = b) {l : List α} : (l.map f).Nodup ↔ l.Nodup := by
  unfold List.Nodup
  rw [List.pairwise_map]
  constructor
  · exact fun h => h.imp fun z e => z (congrArg f e)
  · exact fun h => h.imp fun z e => z (hf _ _ e)
theorem triSq_nodup (n : Int) (t : Tri) : (triSq n t).Nodup := by
  unfold triSq barSq
  split
  · refine (nodup_map fun a b e => ?_).mpr List.nodup_range
    have := congrArg Prod.fst e
    simp only at this
    omega
  · refine (nodup_map fun a b e => ?_).mpr List.nodup_range
    have := congrArg Prod.snd e
    simp only at this
    omega
theorem covd_any {cov ss : List (Int × Int)} : ss.any (covd cov) = true ↔ ∃ s ∈ ss, s ∈ cov := by
  simp only [List.any_eq_true, covd, decide_eq_true_eq]
  constructor
  · rintro ⟨s, hs, z, hz, rfl⟩
    exact ⟨z, hs, hz⟩
  · rintro ⟨s, hs, hz⟩
    exact ⟨s, hs, s, hz, rfl⟩
theorem arrF_some {w h n : Int} : ∀ {ts : List Tri} {cov c : List (Int × Int)}, arrF w h n ts cov = some c → c = cov ++ ts.flatMap (triSq n)
  | [], cov, c, e => by
    rw [List.flatMap_nil, List.append_nil]
    exact (Option.some.inj e).symm
  | t :: ts, cov, c, e => by
    unfold arrF at e
    split at e
    · cases e
    · rw [arrF_some e, List.flatMap_cons, List.append_assoc]
theorem arrF_iff {w h n : Int} : ∀ {ts : List Tri} {cov : List (Int × Int)}, cov.Nodup → ((arrF w h n ts cov).isSome = true ↔ (ts.flatMap (triSq n)).all (insideS w h) = true ∧ (cov ++ ts.flatMap (triSq n)).Nodup)
  | [], cov, nd => by
    rw [List.flatMap_nil, List.append_nil]
    exact ⟨fun _ => ⟨rfl, nd⟩, fun _ => rfl⟩
  | t :: ts, cov, nd => by
    unfold arrF
    rw [List.flatMap_cons, List.all_append, ← List.append_assoc, Bool.and_eq_true]
    by_cases c1 : (triSq n t).all (insideS w h) = true
    · by_cases c2 : (triSq n t).any (covd cov) = true
      · rw [c1, c2, Bool.not_true, Bool.false_or, if_pos rfl]
        refine ⟨fun z => (by cases z), fun ⟨_, z⟩ => ?_⟩
        obtain ⟨s, h1, h2⟩ := covd_any.mp c2
        have z1 := (List.nodup_append.mp (List.nodup_append.mp z).1).2.2
        exact absurd rfl (z1 s h2 s h1)
      · rw [c1, Bool.eq_false_iff.mpr c2, Bool.not_true, Bool.or_self, if_neg Bool.false_ne_true]
        have nd' : (cov ++ triSq n t).Nodup := by
          refine List.nodup_append.mpr ⟨nd, triSq_nodup n t, fun a ha b hb e => c2 (covd_any.mpr ⟨b, hb, e ▸ ha⟩)⟩
        rw [arrF_iff nd']
        exact ⟨fun ⟨a, b⟩ => ⟨⟨rfl, a⟩, b⟩, fun ⟨⟨_, a⟩, b⟩ => ⟨a, b⟩⟩
    · rw [Bool.eq_false_iff.mpr c1, Bool.not_false, Bool.true_or, if_pos rfl]
      exact ⟨fun z => (by cases z), fun ⟨⟨z, _⟩, _⟩ => by cases z⟩
/-! ### the specification's squares -/
def up (s : Nat × Nat) : Int × Int := ((s.1 : Int), (s.2 : Int))
theorem up_inj (a b : Nat × Nat) (e : up a = up b) : a = b := by
  obtain ⟨a1, a2⟩ := a
  obtain ⟨b1, b2⟩ := b
  have h1 := congrArg Prod.fst e
  have h2 := congrArg Prod.snd e
  simp only [up] at h1 h2
  rw [show a1 = b1 by omega, show a2 = b2 by omega]
theorem triSq_up {n : Int} {t : Tri} (h1 : 0 ≤ t.1) (h2 : 0 ≤ t.2.1) (h3 : okDir t.2.2 = true) : triSq n t = (Kbe4.coveredBy n.toNat (toBar t)).map up := by
  obtain ⟨x, y, d⟩ := t
  simp only [okDir, Bool.or_eq_true, decide_eq_true_eq] at h3
  have hx : ((x.toNat : Nat) : Int) = x := Int.toNat_of_nonneg h1
  have hy : ((y.toNat : Nat) : Int) = y := Int.toNat_of_nonneg h2
  unfold triSq barSq Kbe4.coveredBy toBar
  rw [List.map_map]
  rcases h3 with h3 | h3
  · subst h3
    rw [if_neg (show ¬ (0 : Int) = 1 by decide)]
    apply List.map_congr_left
    intro i _
    show (x, y + (i : Int)) = up (if ((0 : Nat) == 1) = true then _ else _)
    rw [if_neg (by decide)]
    show _ = (((x.toNat : Nat) : Int), ((y.toNat + i : Nat) : Int))
    rw [Int.natCast_add, hx, hy]
  · subst h3
    rw [if_pos rfl]
    apply List.map_congr_left
    intro i _
    show (x + (i : Int), y) = up (if ((1 : Nat) == 1) = true then _ else _)
    rw [if_pos (by decide)]
    show _ = (((x.toNat + i : Nat) : Int), ((y.toNat : Nat) : Int))
    rw [Int.natCast_add, hx, hy]
theorem formT_mem {ts : List Tri} (h : formT ts = true) : ∀ t ∈ ts, 0 ≤ t.1 ∧ 0 ≤ t.2.1 ∧ okDir t.2.2 = true := by
  intro t ht
  simp only [formT, Bool.and_eq_true, List.all_append, List.all_map, List.all_eq_true] at h
  have a := h.1.1 t ht
  have b := h.1.2 t ht
  have c := h.2 t ht
  simp only [Function.comp, okCo, Bool.and_eq_true, decide_eq_true_eq] at a b
  exact ⟨a.1, b.1, c⟩
theorem trisSq_up {n : Int} : ∀ {ts : List Tri}, (∀ t ∈ ts, 0 ≤ t.1 ∧ 0 ≤ t.2.1 ∧ okDir t.2.2 = true) → ts.flatMap (triSq n) = ((ts.map toBar).flatMap (Kbe4.coveredBy n.toNat)).map up
  | [], _ => rfl
  | t :: ts, h => by
    obtain ⟨a, b, c⟩ := h t (List.mem_cons_self ..)
    rw [List.flatMap_cons, List.map_cons, List.flatMap_cons, List.map_append, triSq_up a b c, trisSq_up fun t ht => h t (List.mem_cons_of_mem _ ht)]
/-- no square stands twice -/
theorem zip_nodup (l : List Kbe4.Square) : (l.zipIdx.all fun e => !(l.take e.2).contains e.1) = true ↔ l.Nodup := by
  unfold List.Nodup
  rw [List.all_eq_true, List.pairwise_iff_getElem]
  constructor
  · intro h i j hi hj hij e
    have m : (l[j], j) ∈ l.zipIdx := List.mk_mem_zipIdx_iff_getElem?.mpr (List.getElem?_eq_getElem hj)
    have z := h _ m
    simp only [Bool.not_eq_true', ← Bool.not_eq_true, List.contains_iff_mem] at z
    refine z ?_
    rw [← e]
    exact List.mem_take_iff_getElem.mpr ⟨i, by omega, rfl⟩
  · rintro h ⟨x, j⟩ m
    have e := List.mk_mem_zipIdx_iff_getElem?.mp m
    obtain ⟨hj, ej⟩ := List.getElem?_eq_some_iff.mp e
    simp only [Bool.not_eq_true', ← Bool.not_eq_true, List.contains_iff_mem]
    intro z
    obtain ⟨i, hi, ei⟩ := List.mem_take_iff_getElem.mp z
    exact h i j (by omega) hj (by omega) (by rw [ei, ej])
theorem valid_arr {w h n : Int} {ts : List Tri} (hw : 0 ≤ w) (hh : 0 ≤ h) (g : formT ts = true) : Kbe4.isValid w.toNat h.toNat n.toNat (ts.map toBar) = (arrF w h n ts []).isSome := by
  have e := trisSq_up (n := n) (formT_mem g)
  rw [Bool.eq_iff_iff, arrF_iff List.nodup_nil, List.nil_append, e, nodup_map up_inj, ← zip_nodup]
  unfold Kbe4.isValid
  rw [Bool.and_eq_true, List.all_map]
  have f : (insideS w h ∘ up) = fun square : Kbe4.Square => decide (square.1 < w.toNat) && decide (square.2 < h.toNat) := by
    funext s
    show (decide ((s.1 : Int) < w) && decide ((s.2 : Int) < h)) = _
    rw [decide_eq_decide.mpr (show (s.1 : Int) < w ↔ s.1 < w.toNat by omega), decide_eq_decide.mpr (show (s.2 : Int) < h ↔ s.2 < h.toNat by omega)]
  rw [f]
/-- what is due of bars: the layer out of range; not in form; else what follows -/
theorem bars_out {w h n : Int} {ns : List Int} (hw : 0 ≤ w) (hh : 0 ≤ h) (hn : 0 ≤ n) (q : okAll w h n = false) (k : List Kbe4.Bar → Kbe4.Response) : Kbe4.withBars w.toNat h.toNat n.toNat (ns.map Int.toNat) k = ⟨-22, []⟩ := by
  have e : Kbe4.validLayer w.toNat h.toNat n.toNat = false := (okAll_layer hw hh hn).trans q
  unfold Kbe4.withBars
  rw [e, if_pos rfl]
  rfl
theorem bars_odd {w h n : Int} {ns : List Int} (q : okAll w h n = true) (ho : ns.length % 3 ≠ 0) (k : List Kbe4.Bar → Kbe4.Response) : Kbe4.withBars w.toNat h.toNat n.toNat (ns.map Int.toNat) k = ⟨-22, []⟩ := by
  obtain ⟨⟨w1, w6⟩, ⟨h1, h6⟩, n1, n6⟩ := okAll_true q
  have e : Kbe4.validLayer w.toNat h.toNat n.toNat = true := (okAll_layer (by omega) (by omega) (by omega)).trans q
  unfold Kbe4.withBars
  rw [e, if_neg (show ¬ true = false by decide), parse_odd _ (by rw [List.length_map]; exact ho)]
  rfl
theorem bars_in {w h n : Int} {ts : List Tri} (q : okAll w h n = true) (nn : ∀ i ∈ flatT ts, 0 ≤ i) (k : List Kbe4.Bar → Kbe4.Response) : Kbe4.withBars w.toNat h.toNat n.toNat ((flatT ts).map Int.toNat) k = if formT ts = true then k (ts.map toBar) else ⟨-22, []⟩ := by
  obtain ⟨⟨w1, w6⟩, ⟨h1, h6⟩, n1, n6⟩ := okAll_true q
  have e : Kbe4.validLayer w.toNat h.toNat n.toNat = true := (okAll_layer (by omega) (by omega) (by omega)).trans q
  unfold Kbe4.withBars
  rw [e, if_neg (show ¬ true = false by decide), parse_flat ts nn]
  by_cases g : formT ts = true
  · rw [if_pos g, if_pos g]
  · rw [if_neg g, if_neg g]
    rfl
theorem valid_due (w h n : Int) (ns : List Int) : PyKbe4.is_valid w h n ns = (Kbe4.withBars w.toNat h.toNat n.toNat (ns.map Int.toNat) fun parsed => Kbe4.single (if Kbe4.isValid w.toNat h.toNat n.toNat parsed then 1 else 0)).head :: (Kbe4.withBars w.toNat h.toNat n.toNat (ns.map Int.toNat) fun parsed => Kbe4.single (if Kbe4.isValid w.toNat h.toNat n.toNat parsed then 1 else 0)).tail := rfl
theorem valid_out {w h n : Int} {ns : List Int} (hw : 0 ≤ w) (hh : 0 ≤ h) (hn : 0 ≤ n) (q : okAll w h n = false) : PyKbe4.is_valid w h n ns = [-22] := by
  rw [valid_due, bars_out hw hh hn q]
theorem valid_odd {w h n : Int} {ns : List Int} (q : okAll w h n = true) (ho : ns.length % 3 ≠ 0) : PyKbe4.is_valid w h n ns = [-22] := by
  rw [valid_due, bars_odd q ho]
theorem valid_in {w h n : Int} {ts : List Tri} (q : okAll w h n = true) (nn : ∀ i ∈ flatT ts, 0 ≤ i) : PyKbe4.is_valid w h n (flatT ts) = if formT ts = true then [if (arrF w h n ts []).isSome = true then 1 else 0] else [-22] := by
  rw [valid_due, bars_in q nn]
  obtain ⟨⟨w1, w6⟩, ⟨h1, h6⟩, n1, n6⟩ := okAll_true q
  by_cases g : formT ts = true
  · rw [if_pos g, if_pos g, valid_arr (by omega) (by omega) g]
    rfl
  · rw [if_neg g, if_neg g]
/-! ### the mathematics: uncovered squares -/
def freeSq (w h : Int) (c : List (Int × Int)) : List (Int × Int) := (layerSq w h).filter fun s => !covd c s
theorem freeSq_len {w h : Int} (hw : w ≤ 6) (hh : h ≤ 6) (c : List (Int × Int)) : (freeSq w h c).length ≤ 36 := Nat.le_trans (List.length_filter_le ..) (layerSq_len hw hh)
/-! ### the mathematics: free squares -/
theorem layer_up {w h : Int} : layerSq w h = (Kbe4.allSquares w.toNat h.toNat).map up := by
  unfold layerSq Kbe4.allSquares rowSq
  rw [List.map_flatMap]
  congr 1
  funext y
  rw [List.map_map]
  rfl
theorem covd_up (l : List (Nat × Nat)) (s : Nat × Nat) : covd (l.map up) (up s) = l.contains s := by
  rw [Bool.eq_iff_iff]
  simp only [covd, List.any_map, List.any_eq_true, Function.comp, decide_eq_true_eq, List.contains_iff_mem]
  constructor
  · rintro ⟨z, hz, e⟩
    exact up_inj _ _ e ▸ hz
  · exact fun hs => ⟨s, hs, rfl⟩
def flatSq (ss : List (Int × Int)) : List Int := ss.flatMap fun s => [s.1, s.2]
theorem flatSq_len : ∀ ss : List (Int × Int), (flatSq ss).length = 2 * ss.length
  | [] => rfl
  | s :: ss => by
    show ([s.1, s.2] ++ flatSq ss).length = _
    rw [List.length_append, flatSq_len ss]
    show 2 + 2 * ss.length = 2 * (ss.length + 1)
    omega
theorem flatSq_up : ∀ l : List (Nat × Nat), flatSq (l.map up) = l.flatMap fun s => [(s.1 : Int), (s.2 : Int)]
  | [] => rfl
  | s :: l => by
    rw [List.flatMap_cons, ← flatSq_up l]
    rfl
theorem free_due (w h n : Int) (ns : List Int) : PyKbe4.free_squares w h n ns = (Kbe4.respond (.freeSquares w.toNat h.toNat n.toNat (ns.map Int.toNat))).head :: (Kbe4.respond (.freeSquares w.toNat h.toNat n.toNat (ns.map Int.toNat))).tail := rfl
theorem free_out {w h n : Int} {ns : List Int} (hw : 0 ≤ w) (hh : 0 ≤ h) (hn : 0 ≤ n) (q : okAll w h n = false) : PyKbe4.free_squares w h n ns = [-22] := by
  rw [free_due, Kbe4.respond, bars_out hw hh hn q]
theorem free_odd {w h n : Int} {ns : List Int} (q : okAll w h n = true) (ho : ns.length % 3 ≠ 0) : PyKbe4.free_squares w h n ns = [-22] := by
  rw [free_due, Kbe4.respond, bars_odd q ho]
theorem free_form {w h n : Int} {ts : List Tri} (q : okAll w h n = true) (nn : ∀ i ∈ flatT ts, 0 ≤ i) (g : formT ts = false) : PyKbe4.free_squares w h n (flatT ts) = [-22] := by
  rw [free_due, Kbe4.respond, bars_in q nn, g, if_neg Bool.false_ne_true]
theorem free_none {w h n : Int} {ts : List Tri} (q : okAll w h n = true) (nn : ∀ i ∈ flatT ts, 0 ≤ i) (g : formT ts = true) (e : arrF w h n ts [] = none) : PyKbe4.free_squares w h n (flatT ts) = [-33] := by
  obtain ⟨⟨w1, w6⟩, ⟨h1, h6⟩, n1, n6⟩ := okAll_true q
  rw [free_due, Kbe4.respond, bars_in q nn, if_pos g, valid_arr (by omega) (by omega) g, e, if_neg (by simp)]
  rfl
theorem free_in {w h n : Int} {ts : List Tri} {c : List (Int × Int)} (q : okAll w h n = true) (nn : ∀ i ∈ flatT ts, 0 ≤ i) (g : formT ts = true) (e : arrF w h n ts [] = some c) : PyKbe4.free_squares w h n (flatT ts) = (((freeSq w h c).length * 2 : Nat) : Int) :: flatSq (freeSq w h c) := by
  obtain ⟨⟨w1, w6⟩, ⟨h1, h6⟩, n1, n6⟩ := okAll_true q
  rw [free_due, Kbe4.respond, bars_in q nn, if_pos g, valid_arr (by omega) (by omega) g, e, if_pos (show (some c).isSome = true from rfl)]
  have ec := arrF_some e
  rw [List.nil_append] at ec
  have eu := trisSq_up (n := n) (formT_mem g)
  have ef : freeSq w h c = ((Kbe4.allSquares w.toNat h.toNat).filter fun square => !((ts.map toBar).flatMap (Kbe4.coveredBy n.toNat)).contains square).map up := by
    unfold freeSq
    rw [layer_up, List.filter_map, ec, eu]
    congr 2
    funext s
    show (!covd _ (up s)) = _
    rw [covd_up]
  rw [ef]
  show ((_ : Nat) : Int) :: _ = _
  rw [List.length_map]
  congr 1
  exact (flatSq_up _).symm
/-! ### the text -/
def topS (i : Nat) : Stmt := PySem.Challenge.pw_layerbars_s07_free_squares.main.body.getD i (.Pass ⟨0, 0, 0, 0⟩)
abbrev sFree : Stmt := topS 5
abbrev sSizes : Stmt := topS 6
abbrev sForm : Stmt := topS 7
abbrev sArr : Stmt := topS 8
abbrev sLayer : Stmt := topS 9
abbrev sUnc : Stmt := topS 10
abbrev sBar : Stmt := topS 11
abbrev sIns : Stmt := topS 12
abbrev sOver : Stmt := topS 13
theorem scFree : FnScope ["width", "height", "length", "bars", "covered", "coordinates", "square"] ["width", "height", "length", "bars"] (defScope sFree) := ⟨rfl, rfl, rfl, by decide +kernel, rfl, by decide +kernel, by decide +kernel⟩
theorem scZ : FnScope ["width", "height", "length", "size"] ["width", "height", "length"] (defScope sSizes) := ⟨rfl, rfl, rfl, by decide +kernel, rfl, by decide +kernel, by decide +kernel⟩
theorem scForm : FnScope ["bars", "coordinates", "coordinate", "direction"] ["bars"] (defScope sForm) := ⟨rfl, rfl, rfl, by decide +kernel, rfl, by decide +kernel, by decide +kernel⟩
theorem scArr : FnScope ["width", "height", "length", "bars", "covered", "start", "bar"] ["width", "height", "length", "bars"] (defScope sArr) := ⟨rfl, rfl, rfl, by decide +kernel, rfl, by decide +kernel, by decide +kernel⟩
theorem scLayer : FnScope ["width", "height", "squares", "y", "x"] ["width", "height"] (defScope sLayer) := ⟨rfl, rfl, rfl, by decide +kernel, rfl, by decide +kernel, by decide +kernel⟩
theorem scUnc : FnScope ["width", "height", "covered", "square"] ["width", "height", "covered"] (defScope sUnc) := ⟨rfl, rfl, rfl, by decide +kernel, rfl, by decide +kernel, by decide +kernel⟩
theorem scBar : FnScope ["x", "y", "direction", "length", "step"] ["x", "y", "direction", "length"] (defScope sBar) := ⟨rfl, rfl, rfl, by decide +kernel, rfl, by decide +kernel, by decide +kernel⟩
theorem scIns : FnScope ["width", "height", "squares", "square"] ["width", "height", "squares"] (defScope sIns) := ⟨rfl, rfl, rfl, by decide +kernel, rfl, by decide +kernel, by decide +kernel⟩
theorem scOver : FnScope ["squares", "covered", "square"] ["squares", "covered"] (defScope sOver) := ⟨rfl, rfl, rfl, by decide +kernel, rfl, by decide +kernel, by decide +kernel⟩
/-! ### heaps, lists -/
theorem same_upd {H : Hp} {p : Addr} {o : HO} (h : H p = none) : Same H (upd H p o) := fun b x e => by
  rw [upd_ne (ne_of_none e h)]
  exact e
theorem same_upd2 {H H1 : Hp} {p : Addr} {o : HO} (h : H p = none) (g : Same H H1) : Same H (upd H1 p o) := fun b x e => by
  rw [upd_ne (ne_of_none e h)]
  exact g b x e
theorem take_more {α : Type} : ∀ {l : List α} {i : Nat} {x : α}, l[i]? = some x → l.take (i + 1) = l.take i ++ [x]
  | [], i, x, h => by simp at h
  | a :: l, 0, x, h => by
    have e : a = x := Option.some.inj h
    subst e
    rfl
  | a :: l, i + 1, x, h => by
    have ih := take_more (l := l) (i := i) (x := x) h
    show a :: l.take (i + 1) = a :: l.take i ++ [x]
    rw [ih]
    rfl
theorem map_at {α : Type} {l : List α} {f : α → V} {i : Nat} {x : V} (h : (l.map f)[i]? = some x) : ∃ z, l[i]? = some z ∧ x = f z := by
  rw [List.getElem?_map] at h
  cases e : l[i]? with
  | none =>
    rw [e] at h
    cases h
  | some z =>
    rw [e] at h
    exact ⟨z, rfl, (Option.some.inj h).symm⟩
theorem iteNN {c A B : Prop} [Decidable c] (hc : ¬ c) (h : A) : if (!decide c) = true then A else B := by
  rw [decide_eq_false hc]
  exact iteT h
theorem iteDF {c A B : Prop} [Decidable c] (hc : ¬ c) (h : B) : if (decide c) = true then A else B := by
  rw [decide_eq_false hc]
  exact iteF h
theorem iteDT {c A B : Prop} [Decidable c] (hc : c) (h : A) : if (decide c) = true then A else B := by
  rw [decide_eq_true hc]
  exact iteT h
theorem room65 {k : Nat} {A : Around} (r : Room k A) : A.units + 65 < cLine := by
  have := r.un
  omega
/-- a truth value more at the made list -/
theorem bls_more {α : Type} {H1 H' : Hp} {D : Addr} {ss : List α} {g : α → Bool} {i : Nat} {s : α} (nD : H1 D = none) (sm : Same H1 H') (hD : H' D = some (.lst (((ss.map g).take i).map V.bl))) (hs : ss[i]? = some s) (hl : ss.length ≤ 1000) {k : Bool} (ek : k = g s) :
    ∃ acc, H' D = some (HO.lst acc) ∧ acc.length < sizeLine ∧ Same H1 (upd H' D (.lst (acc ++ [V.bl k]))) ∧ (upd H' D (.lst (acc ++ [V.bl k]))) D = some (.lst (((ss.map g).take (i + 1)).map V.bl)) := by
  subst ek
  have h1 : (ss.map g)[i]? = some (g s) := by
    rw [List.getElem?_map, hs]
    rfl
  refine ⟨_, hD, ?_, same_upd2 nD sm, ?_⟩
  · rw [List.length_map, List.length_take, List.length_map]
    exact small1000 (Nat.le_trans (Nat.min_le_right _ _) hl)
  · rw [upd_same, take_more h1, List.map_append]
    rfl
theorem range_more {α : Type} (f : Nat → α) (i : Nat) : (List.range (i + 1)).map f = (List.range i).map f ++ [f i] := by
  rw [List.range_succ, List.map_append]
  rfl
/-! ### squares at addresses -/
/-- the values vs stand for the squares ss: a tuple of two numbers each -/
inductive Sqs (H : Hp) : List V → List (Int × Int) → Prop
  | nil : Sqs H [] []
  | cons {a : Addr} {vs : List V} {s : Int × Int} {ss : List (Int × Int)} : H a = some (.tup [.int s.1, .int s.2]) → Sqs H vs ss → Sqs H (.ref a :: vs) (s :: ss)
theorem Sqs.same {H H' : Hp} (g : Same H H') : ∀ {vs : List V} {ss : List (Int × Int)}, Sqs H vs ss → Sqs H' vs ss
  | _, _, .nil => .nil
  | _, _, .cons h r => .cons (g _ _ h) (Sqs.same g r)
theorem Sqs.put {H : Hp} {D : Addr} {xs : List V} {o : HO} (hD : H D = some (.lst xs)) : ∀ {vs : List V} {ss : List (Int × Int)}, Sqs H vs ss → Sqs (upd H D o) vs ss
  | _, _, .nil => .nil
  | _, _, .cons (a := a) h r => .cons (by
      have ne : a ≠ D := fun e => by
        rw [e, hD] at h
        cases h
      rw [upd_ne ne]
      exact h) (Sqs.put hD r)
theorem Sqs.app {H : Hp} : ∀ {vs us : List V} {ss ts : List (Int × Int)}, Sqs H vs ss → Sqs H us ts → Sqs H (vs ++ us) (ss ++ ts)
  | _, _, _, _, .nil, g => g
  | _, _, _, _, .cons h r, g => .cons h (Sqs.app r g)
theorem Sqs.len {H : Hp} : ∀ {vs : List V} {ss : List (Int × Int)}, Sqs H vs ss → vs.length = ss.length
  | _, _, .nil => rfl
  | _, _, .cons _ r => congrArg (· + 1) (Sqs.len r)
theorem Sqs.at {H : Hp} : ∀ {vs : List V} {ss : List (Int × Int)} {i : Nat} {x : V}, Sqs H vs ss → vs[i]? = some x → ∃ a s, x = .ref a ∧ ss[i]? = some s ∧ H a = some (.tup [.int s.1, .int s.2])
  | _, _, i, x, .nil, e => by simp at e
  | _, _, 0, x, .cons h r, e => by
    have e1 := Option.some.inj e
    exact ⟨_, _, e1.symm, rfl, h⟩
  | _, _, i + 1, x, .cons h r, e => Sqs.at (i := i) r e
def sqD (s : Int × Int) : PyData := .tuple [.int s.1, .int s.2]
theorem sqD_lay (s : Int × Int) : (sqD s).canLay0 = true := by simp [sqD, PyData.canLay0, PyData.canLayAll0]
theorem sqD_depth (s : Int × Int) : (sqD s).depth = 1 := by simp [sqD, PyData.depth, PyData.depthAll]
theorem sqDs_lay : ∀ ss : List (Int × Int), PyData.canLayAll0 (ss.map sqD) = true
  | [] => by simp [PyData.canLayAll0]
  | s :: ss => by simp [PyData.canLayAll0, sqD_lay s, sqDs_lay ss]
theorem sqDs_depth : ∀ ss : List (Int × Int), PyData.depthAll (ss.map sqD) ≤ 2
  | [] => by simp [PyData.depthAll]
  | s :: ss => by
    have h1 := sqDs_depth ss
    have h2 := sqD_depth s
    simp only [List.map_cons, PyData.depthAll]
    omega
theorem sqD_shaped (s : Int × Int) : SeqAt.shaped (sqD s) = true := by
  have h := sqD_depth s
  show ((sqD s).canLay0 && decide ((sqD s).depth ≤ 64)) = true
  rw [Bool.and_eq_true]
  exact ⟨sqD_lay s, decide_eq_true (by omega)⟩
theorem sqDs_shaped (ss : List (Int × Int)) : SeqAt.shaped (.list (ss.map sqD)) = true := by
  have h1 := sqDs_depth ss
  have h2 : PyData.depth (.list (ss.map sqD)) ≤ 64 := by
    simp only [PyData.depth]
    omega
  show (PyData.canLay0 (.list (ss.map sqD)) && decide (PyData.depth (.list (ss.map sqD)) ≤ 64)) = true
  rw [Bool.and_eq_true]
  exact ⟨by simp only [PyData.canLay0]; exact sqDs_lay ss, decide_eq_true h2⟩
theorem sqD_eqv (s t : Int × Int) : PyData.eqv (sqD s) (sqD t) = decide (s = t) := by
  obtain ⟨a, b⟩ := s
  obtain ⟨c, d⟩ := t
  have e : PyData.eqv (sqD (a, b)) (sqD (c, d)) = ((a == c) && ((b == d) && true)) := by simp only [sqD, PyData.eqv, PyData.eqvAll]
  rw [e]
  by_cases h1 : a = c
  · by_cases h2 : b = d
    · subst h1 h2
      simp
    · have h : ¬ ((a, b) : Int × Int) = (c, d) := fun z => h2 (congrArg Prod.snd z)
      rw [decide_eq_false h, beq_eq_false_iff_ne.mpr h2, Bool.false_and, Bool.and_false]
  · have h : ¬ ((a, b) : Int × Int) = (c, d) := fun z => h1 (congrArg Prod.fst z)
    rw [decide_eq_false h, beq_eq_false_iff_ne.mpr h1, Bool.false_and]
theorem sqD_any (cov : List (Int × Int)) (s : Int × Int) : ((cov.map sqD).any fun z => PyData.eqv z (sqD s)) = covd cov s := by
  unfold covd
  rw [List.any_map]
  congr 1
  funext z
  exact sqD_eqv z s
theorem Sqs.dp {K : PySem.W.Frag} {H : Hp} : ∀ {vs : List V} {ss : List (Int × Int)}, Sqs H vs ss → DpAll K H vs (ss.map sqD)
  | _, _, .nil => .nil
  | _, _, .cons h r => .cons (.tup (SqT.of h) (.cons (.int _) (.cons (.int _) .nil))) (Sqs.dp r)
theorem sq_dp {K : PySem.W.Frag} {H : Hp} {a : Addr} {s : Int × Int} (h : H a = some (.tup [.int s.1, .int s.2])) : Dp K H (.ref a) (sqD s) := .tup (SqT.of h) (.cons (.int _) (.cons (.int _) .nil))
/-- one more made square -/
theorem sqs_more {H1 H' : Hp} {D : Addr} {us : List V} {ss : List (Int × Int)} {s : Int × Int} (nD : H1 D = none) (sm : Same H1 H') (hD : H' D = some (.lst us)) (hS : Sqs H' us ss) {T : Addr} (nT : H' T = none) :
    (upd H' T (.tup [.int s.1, .int s.2])) D = some (.lst us) ∧ Same H1 (upd (upd H' T (.tup [.int s.1, .int s.2])) D (.lst (us ++ [.ref T]))) ∧
      Sqs (upd (upd H' T (.tup [.int s.1, .int s.2])) D (.lst (us ++ [.ref T]))) (us ++ [.ref T]) (ss ++ [s]) := by
  have g1 : Same H' (upd H' T (.tup [.int s.1, .int s.2])) := same_upd nT
  have e1 := g1 _ _ hD
  exact ⟨e1, same_upd2 nD (sm.trans g1), Sqs.put e1 ((hS.same g1).app (.cons upd_same .nil))⟩
/-! ### two rules of one's own: o[i] read for o[i] op= e; xs[i::k] -/
section
variable {X : Cx}
theorem get_list : PGet X (rIxL X.K) := by
  rintro pins st σ H o i ov iv Q inv ro ri ⟨p, xs, k, v, rfl, rfl, hxs, hat, q⟩
  cases ro
  obtain ⟨tk, rfl⟩ := ri
  obtain ⟨us, rel, here, fits⟩ := inv.list hxs
  obtain ⟨j, seq, item, inside, low, high⟩ := atI_get hat
  obtain ⟨u, hu, ru⟩ := rel.get item
  have size : us.length = xs.length := rel.length.symm
  have line := line63
  have done : EP X pins σ Q u st := ⟨v, H, inv, ru, q⟩
  by_cases pos : 0 ≤ k
  · rw [seqIndex_of pos high] at seq
    obtain rfl := Option.some.inj seq
    exact wpAny_getItem_list here.isList pos (by omega) (by simpa using hu) done
  · rw [seqIndex_neg (by omega) low, ← size] at seq
    have ej : (k + (us.toArray.size : Int)).toNat = j := by
      rw [List.size_toArray]
      exact Option.some.inj seq
    have e2 : us.toArray.size = xs.length := by rw [List.size_toArray, size]
    exact wpAny_getItem_list_neg here.isList (by omega) (by omega) (by omega) (by rw [ej]; simpa using hu) done
/-- the items at the places that a slice names -/
def pickV {α : Type} (xs : List α) (lo hi st : Option Int) : List α :=
  (sliceRange (sliceBounds lo hi st xs.length).1 (sliceBounds lo hi st xs.length).2.1 (sliceBounds lo hi st xs.length).2.2).filterMap (xs[·]?)
theorem vals_pick {xs : List V} {us : List Value} (r : Vals xs us) : ∀ l : List Nat, Vals (l.filterMap (xs[·]?)) (l.filterMap (us[·]?))
  | [] => .nil
  | i :: l => by
    cases e : xs[i]? with
    | none =>
      have e2 := r.none_of e
      rw [List.filterMap_cons, List.filterMap_cons, e, e2]
      exact vals_pick r l
    | some x =>
      obtain ⟨u, e2, rx⟩ := r.get e
      rw [List.filterMap_cons, List.filterMap_cons, e, e2]
      exact .cons rx (vals_pick r l)
theorem pick_vals {its : List Value} {lo hi st : Option Int} : slicePick its.toArray lo hi st = (pickV its lo hi st).toArray := by
  unfold slicePick pickV
  simp only [List.size_toArray, List.getElem?_toArray]
def tSl3 (K : PySem.W.Frag) (te : TE) (tl th ts : TO) : TE := fun σ H Q => te σ H fun x H1 => tl σ H1 fun l H2 => th σ H2 fun u H3 => ts σ H3 fun st H4 => ∃ a xs, x = .ref a ∧ SqL K H4 a xs ∧ st ≠ some 0 ∧
  (pickV xs l u st).length ≤ sizeLine ∧ ∀ p, H4 p = none → Q (.ref p) (upd H4 p (.lst (pickV xs l u st)))
theorem pe_slice3 {e st : Expr} {lo hi : Option Expr} {te : TE} {tl th ts : TO} {p2 pos : Pos} (he : PE X e te) (hl : PO X lo tl) (hu : PO X hi th) (hs : PO X (some st) ts) : PE X (.Subscript e (.Slice lo hi (some st) p2) pos) (tSl3 X.K te tl th ts) := by
  constructor
  intro pins sa σ Ha Q inv0 want
  apply Subscript_
  refine thn (he.run pins sa σ Ha _ inv0 want) ?_
  rintro v sb ⟨x, Hb, inv1, rel, want1⟩
  apply wpAny_Slice
  refine thn (hl.run pins sb σ Hb _ inv1 want1) ?_
  rintro v1 sc ⟨first, Hc, inv2, part1, want2⟩
  refine thn (hu.run pins sc σ Hc _ inv2 want2) ?_
  rintro v2 sd ⟨last, Hd, inv3, part2, want3⟩
  refine thn (hs.run pins sd σ Hd _ inv3 want3) ?_
  rintro v3 se ⟨step, He, inv4, part3, a, xs, rfl, hxs, no0, short, q⟩
  cases rel
  let cut : Obj := { cls := .type "slice", data := .fields #[v1, v2, v3] }
  have inv5 : Inv X pins σ He { se with heap := se.heap.push cut } := inv4.kept (t' := se.toks) fun _ _ z => Heap.get?_push_of_some _ z
  obtain ⟨us, vals, here, line⟩ := inv5.list hxs
  have size := vals.length
  have picked : Vals (pickV xs first last step) (pickV us first last step) := by
    unfold pickV
    rw [size]
    exact vals_pick vals _
  have got := wpAny_getItem_list_slice (prog := X.prog) (w := X.w) (A := X.A) (E := X.xe) (Q := EP X pins σ Q) here.isList (Heap.IsSliceOf.new se.heap v1 v2 v3) part1 part2 part3 no0
    (by
      rw [pick_vals]
      refine ⟨.ref _, _, inv5.laid (t' := se.toks) (o := .lst (pickV xs first last step)) (fun _ _ z => Heap.get?_push_of_some _ z) (Nat.le_refl _) ?_, rfl, q _ (inv5.hok.fresh (Nat.le_refl _))⟩
      exact ⟨short, _, 0, picked, Heap.get?_push_size _ rfl⟩)
    (by rw [List.size_toArray]; omega)
  exact tail_any (value := e) (slice := .Slice lo hi (some st) p2) (ops := [.ref a, .ref se.heap.objs.size]) here.isList.typeIs PySem.slot_list_getitem.lookup got (by with_unfolding_all rfl)
end
/-! ### every third number of the bars -/
theorem pick3 {α : Type} {xs : List α} {m r : Nat} (hl : xs.length = 3 * m) (hr : r < 3) : pickV xs (some (r : Int)) none (some 3) = (List.range m).filterMap fun i => xs[3 * i + r]? := by
  unfold pickV
  rw [hl]
  cases m with
  | zero =>
    have e : xs = [] := List.eq_nil_of_length_eq_zero (by omega)
    subst e
    simp
  | succ k =>
    have e : sliceBounds (some (r : Int)) none (some 3) (3 * (k + 1)) = ((r : Int), ((3 * (k + 1) : Nat) : Int), 3) := by
      simp only [sliceBounds, Option.getD_some, show (3 : Int) > 0 by decide, if_true]
      rw [if_neg (by omega)]
      refine Prod.ext ?_ rfl
      show max 0 (min (r : Int) ((3 * (k + 1) : Nat) : Int)) = (r : Int)
      omega
    rw [e]
    show (sliceRange (r : Int) ((3 * (k + 1) : Nat) : Int) 3).filterMap _ = _
    unfold sliceRange
    have c : ((((3 * (k + 1) : Nat) : Int) - (r : Int) + 3 - 1) / 3).toNat = k + 1 := by omega
    simp only [show (3 : Int) > 0 by decide, if_true, show (r : Int) < ((3 * (k + 1) : Nat) : Int) by omega, c, List.filterMap_map]
    congr 1
    funext i
    show xs[((r : Int) + 3 * (i : Int)).toNat]? = xs[3 * i + r]?
    rw [show ((r : Int) + 3 * (i : Int)).toNat = 3 * i + r by omega]
theorem pick_tri {α : Type} (g : Int → α) (c : Tri → Int) (r : Nat) (hr : ∀ t ts, (flatT (t :: ts))[r]? = some (c t)) : ∀ ts : List Tri, ((List.range ts.length).filterMap fun i => ((flatT ts).map g)[3 * i + r]?) = (ts.map c).map g
  | [] => rfl
  | t :: ts => by
    have ih := pick_tri g c r hr ts
    have e0 : ((flatT (t :: ts)).map g)[3 * 0 + r]? = some (g (c t)) := by
      rw [show 3 * 0 + r = r by omega, List.getElem?_map, hr]
      rfl
    rw [List.length_cons, List.range_succ_eq_map, List.filterMap_cons, e0, List.filterMap_map]
    show g (c t) :: _ = g (c t) :: (ts.map c).map g
    rw [← ih]
    refine congrArg (g (c t) :: ·) ?_
    congr 1
    funext i
    show ((flatT (t :: ts)).map g)[3 * (i + 1) + r]? = ((flatT ts).map g)[3 * i + r]?
    rw [show 3 * (i + 1) + r = 3 * i + r + 3 by omega]
    rfl
theorem pick_x {α : Type} (g : Int → α) (ts : List Tri) : pickV ((flatT ts).map g) (some 0) none (some 3) = (ts.map (·.1)).map g :=
  (pick3 (r := 0) (by rw [List.length_map, flatT_len]) (by decide)).trans (pick_tri g (·.1) 0 (fun _ _ => rfl) ts)
theorem pick_y {α : Type} (g : Int → α) (ts : List Tri) : pickV ((flatT ts).map g) (some 1) none (some 3) = (ts.map (·.2.1)).map g :=
  (pick3 (r := 1) (by rw [List.length_map, flatT_len]) (by decide)).trans (pick_tri g (·.2.1) 1 (fun _ _ => rfl) ts)
theorem pick_d {α : Type} (g : Int → α) (ts : List Tri) : pickV ((flatT ts).map g) (some 2) none (some 3) = (ts.map (·.2.2)).map g :=
  (pick3 (r := 2) (by rw [List.length_map, flatT_len]) (by decide)).trans (pick_tri g (·.2.2) 2 (fun _ _ => rfl) ts)
/-! ### a rule of one's own: xs.extend(t), t a tuple -/
theorem extend_by_tuple (D : Addr) (old : List Value) (cap : Nat) (T : Addr) (ob : Obj) (new : List Value) (m : Nat) (isT : ob.cls = .type "tuple") (has : ob.data = .seq new.toArray m) (fits : old.length + new.length ≤ sizeLine) :
    Meets (Builtin.«list.extend» ⟨[.ref D, .ref T], []⟩) (fun _ R s => s.heap.get? D = some { cls := .type "list", data := .seq old.toArray cap } ∧ s.heap.get? T = some ob ∧ R (.ok (.ret .none)) { s with heap := s.heap.update D (Obj.mapSeq (· ++ new.toArray)) }) := by
  rintro P w A R s ⟨atD, atT, fin⟩
  have small : (old.toArray ++ new.toArray).size ≤ sizeLine := by
    rw [Array.size_append, List.size_toArray, List.size_toArray]
    exact fits
  have some_room : (!old.toArray.isEmpty && Builtin.List.listTooLong (old.toArray.size + new.toArray.size)) = false := by
    rw [notLongL (by rw [← Array.size_append]; exact small), Bool.and_false]
  show wpAny _ A.in1 (Builtin.List.listExtendWith (.ref D) (.ref T) .none) _ _ s
  refine wpAny_bind (wpAny_typeOf ⟨ob, atT, isT⟩ ?_)
  have straight : (Builtin.List.listSameRef (.ref D) (.ref T) || Value.type "tuple" == Value.type "list" || Value.type "tuple" == Value.type "tuple") = true := by
    rw [Bool.or_eq_true]
    exact .inr (by decide)
  simp only [straight, if_true, Builtin.List.listItems]
  refine wpAny_bind (wpAny_bind (wpAny_seqItems atT has (wpAny_pure ?_)))
  refine wpAny_bind (wpAny_bind (wpAny_seqItems atD rfl (wpAny_pure ?_)))
  rw [if_neg (by rw [some_room]; exact Bool.false_ne_true)]
  exact wpAny_bind (wpAny_updateSeq (f := (· ++ new.toArray)) atD rfl (wpAny_pure fin) (hz := by rw [List.size_toArray]; omega) (_hz' := Nat.le_succ_of_le small))
section
variable {X : Cx}
def rExtendT (K : PySem.W.Frag) : V → List V → Hp → VK → Prop := fun x vs H Q => ∃ D T xs zs, x = .ref D ∧ vs = [.ref T] ∧ H D = some (.lst xs) ∧ SqT K H T zs ∧ xs.length + zs.length ≤ sizeLine ∧ Q .non (upd H D (.lst (xs ++ zs)))
theorem mt_extendT : MtM X "list.extend" (rExtendT X.K) := by
  rintro pins st σ H x args self given Q inv rself rargs ⟨D, T, xs, zs, rfl, rfl, hD, hT, fits, go⟩
  cases rself
  obtain ⟨item, rfl, ritem⟩ := rargs.one
  cases ritem
  obtain ⟨_, old, cap, vold, lold, atD⟩ := inv.lstM hD
  obtain ⟨new, vnew, ⟨ob, atT, isT, m, has⟩, _⟩ := inv.tuple hT
  have lnew := vnew.length
  refine call_meets F.slot_list_extend ⟨_, atD, rfl⟩ F.entry_list_extend (F.args_list_extend_2 ..) (extend_by_tuple D old cap T ob new m isT has (by omega)) ⟨atD, atT, ?_⟩
  exact ⟨.non, _, inv.lset (its' := old ++ new) (t' := st.toks) hD atD (by simp) (vold.append vnew) (by rw [List.length_append]; exact fits), rfl, go⟩
end
/-! ### the promises -/
def spSizes : Sp := fun vs H Q _ => ∃ w h n : Int, vs = [.int w, .int h, .int n] ∧ ∀ H' : Hp, Same H H' → Q (.bl (okAll w h n)) H'
def spLayer : Sp := fun vs H Q _ => ∃ w h : Int, vs = [.int w, .int h] ∧ 0 ≤ w ∧ w ≤ 6 ∧ 0 ≤ h ∧ h ≤ 6 ∧
  ∀ (H' : Hp) (p : Addr) (us : List V), Same H H' → H' p = some (.lst us) → Sqs H' us (layerSq w h) → Q (.ref p) H'
def spUnc : Sp := fun vs H Q _ => ∃ (w h : Int) (a : Addr) (us : List V) (cov : List (Int × Int)), vs = [.int w, .int h, .ref a] ∧ 0 ≤ w ∧ w ≤ 6 ∧ 0 ≤ h ∧ h ≤ 6 ∧ H a = some (.lst us) ∧ Sqs H us cov ∧
  ∀ (H' : Hp) (p : Addr) (ws : List V), Same H H' → H' p = some (.lst ws) → Sqs H' ws (freeSq w h cov) → Q (.ref p) H'
def spBar : Sp := fun vs H Q _ => ∃ x y d n : Int, vs = [.int x, .int y, .int d, .int n] ∧ 0 ≤ n ∧ n ≤ 6 ∧
  ∀ (H' : Hp) (p : Addr) (us : List V), Same H H' → H' p = some (.lst us) → Sqs H' us (barSq x y d n) → Q (.ref p) H'
def spIns : Sp := fun vs H Q _ => ∃ (w h : Int) (a : Addr) (us : List V) (ss : List (Int × Int)), vs = [.int w, .int h, .ref a] ∧ H a = some (.lst us) ∧ Sqs H us ss ∧ ss.length ≤ 1000 ∧
  ∀ H' : Hp, Same H H' → Q (.bl (ss.all (insideS w h))) H'
def spOver : Sp := fun vs H Q _ => ∃ (a b : Addr) (us ws : List V) (ss cov : List (Int × Int)), vs = [.ref a, .ref b] ∧ H a = some (.lst us) ∧ Sqs H us ss ∧ H b = some (.lst ws) ∧ Sqs H ws cov ∧ ss.length ≤ 1000 ∧
  ∀ H' : Hp, Same H H' → Q (.bl (ss.any (covd cov))) H'
def spForm (K : PySem.W.Frag) : Sp := fun vs H Q _ => ∃ (a : Addr) (ns : List Int), vs = [.ref a] ∧ SqL K H a (ns.map V.int) ∧ ns.length ≤ 60 ∧
  (ns.length % 3 ≠ 0 → ∀ H' : Hp, Same H H' → Q (.bl false) H') ∧ (∀ ts, ns = flatT ts → ∀ H' : Hp, Same H H' → Q (.bl (formT ts)) H')
def spArr (K : PySem.W.Frag) : Sp := fun vs H Q _ => ∃ (w h n : Int) (a : Addr) (ts : List Tri), vs = [.int w, .int h, .int n, .ref a] ∧ okAll w h n = true ∧ SqL K H a ((flatT ts).map V.int) ∧ ts.length ≤ 20 ∧
  (arrF w h n ts [] = none → ∀ H' : Hp, Same H H' → Q .non H') ∧
  (∀ c, arrF w h n ts [] = some c → ∀ (H' : Hp) (p : Addr) (us : List V), Same H H' → H' p = some (.lst us) → Sqs H' us c → Q (.ref p) H')
def spFree (K : PySem.W.Frag) : Sp := fun vs H Q _ => ∃ (w h n : Int) (a : Addr) (ns : List Int), vs = [.int w, .int h, .int n, .ref a] ∧ 0 ≤ w ∧ 0 ≤ h ∧ 0 ≤ n ∧ SqL K H a (ns.map V.int) ∧ ns.length ≤ 60 ∧ (∀ i ∈ ns, 0 ≤ i) ∧
  ∀ (H' : Hp) (p : Addr), H' p = some (.lst ((PyKbe4.free_squares w h n ns).map V.int)) → Q (.ref p) H'
section
variable {P : Program} {w : World} {K : PySem.W.Frag} {mg : Str → Option Value} {base : Heap}
theorem ok_sizes {f : Addr} {fd : FuncData} {t : Tok} (F : Fun K "sizes_in_range" "sizes_in_range" sSizes f fd) (ma : mg "all" = none) (mG : mg "GREATEST_SIZE" = some (.int 6 t)) :
    FnOk P w K mg base CX0 1 f fd ["width", "height", "length"] spSizes := by
  refine F.ok scZ (fun vs H Q E h => ?_) (fun cdv A outer s H vs Q E hr h => ?_)
  · obtain ⟨a, b, c, rfl, _⟩ := h
    rfl
  obtain ⟨a, b, c, rfl, q⟩ := h
  refine ⟨_, pss_one (ps_ret (pe_callB (cr_all rfl) (by rfl) ma (by decide +kernel) (pa_cons
    (pe_lc (own := [("size", 3)]) (g := gName 3) (by rfl) scZ.nd (pi_tup (pe_tup (pa_cons (pv 0) (pa_cons (pv 1) (pa_cons (pv 2) pa_nil)))))
      (blkOk_by (own := [("size", 3)]) (N := ["width", "height", "length", "size"]) (sc := defScope sSizes) (by decide +kernel))
      (fun _ _ _ _ _ => pg_name (i := 3) scZ.nd rfl (Or.inl rfl)) (fun _ _ _ _ _ => pts_nil)
      (fun _ _ _ _ _ => pe_chain op_le op_le pe_int (pv 3) (pe_glob (v := .int 6) rfl mG ⟨_, rfl⟩))) pa_nil))), ?_⟩
  refine ⟨_, rfl, _, rfl, _, rfl, (by show 3 ≤ sizeLine; decide), fun T nT => ?_⟩
  refine ⟨T, rfl, ⟨_, SqT.of upd_same⟩, fun D nD => ?_⟩
  have hT : (upd H T (.tup [.int a, .int b, .int c])) T = some (.tup [.int a, .int b, .int c]) := upd_same
  refine lc_tup (K := K) (a := T) (xs := [a, b, c].map V.int) (fun i H' => Same (upd H T (.tup [.int a, .int b, .int c])) H' ∧ H' D = some (.lst ((([a, b, c].map okSize).take i).map V.bl)))
    ⟨same_upd nD, upd_same⟩ (fun i H' _ z => SqT.of (z.1 _ _ hT)) ?_ ?_
  · rintro i x H' hx ⟨sm, hD⟩
    obtain ⟨z, hz, rfl⟩ := map_at hx
    refine ⟨rfl, ?_⟩
    have fin : ∀ k : Bool, k = okSize z → ∃ acc, H' D = some (HO.lst acc) ∧ acc.length < sizeLine ∧ Same (upd H T (.tup [.int a, .int b, .int c])) (upd H' D (.lst (acc ++ [V.bl k]))) ∧
        upd H' D (.lst (acc ++ [V.bl k])) D = some (.lst ((([a, b, c].map okSize).take (i + 1)).map V.bl)) := fun k ek => by
      subst ek
      have h1 : ([a, b, c].map okSize)[i]? = some (okSize z) := by
        rw [List.getElem?_map, hz]
        rfl
      refine ⟨_, hD, ?_, same_upd2 nD sm, ?_⟩
      · rw [List.length_map, List.length_take]
        exact Nat.lt_of_le_of_lt (Nat.min_le_right _ _) (by show 3 < sizeLine; decide)
      · rw [upd_same, take_more h1, List.map_append]
        rfl
    refine ⟨_, rfl, _, _, rfl, rfl, _, rfl, ?_⟩
    refine ite2 (fun c1 => ⟨_, _, rfl, rfl, fin _ ?_⟩) (fun c1 => fin _ ?_)
    · unfold okSize
      rw [c1, Bool.true_and]
    · unfold okSize
      rw [Bool.eq_false_iff.mpr c1, Bool.false_and]
  · rintro H' ⟨sm, hD⟩
    refine ⟨D, [a, b, c].map okSize, rfl, SqL.of hD, ?_⟩
    have e : ([a, b, c].map okSize).all id = okAll a b c := rfl
    rw [e]
    exact q H' ((same_upd nT).trans sm)
theorem ok_layer {f : Addr} {fd : FuncData} (F : Fun K "layer_squares" "layer_squares" sLayer f fd) (mr : mg "range" = none) : FnOk P w K mg base CX0 1 f fd ["width", "height"] spLayer := by
  refine F.ok scLayer (fun vs H Q E h => ?_) (fun cdv A outer s H vs Q E hr h => ?_)
  · obtain ⟨w, h, rfl, _⟩ := h
    rfl
  obtain ⟨wi, he, rfl, w0, w6, h0, h6, q⟩ := h
  refine ⟨_, pss_cons (ps_set (i := 2) scLayer.nd rfl (.inl rfl) (pe_lst pa_nil))
    (pss_cons (ps_for PassesOwn.never rfl (pi_range1 (by rfl) mr (pa_cons (pv 1) pa_nil)) (pg_name (i := 3) scLayer.nd rfl (.inr rfl))
      (pss_one (ps_expr (pe_bm PySem.F.plainAttrs_list PySem.F.slot_list_extend PySem.F.type_list_extend mt_extend (pv 2) (pa_cons
        (pe_lc (own := [("x", 4)]) (g := gName 4) (by rfl) scLayer.nd (pi_range1 (by rfl) mr (pa_cons (pv 0) pa_nil))
          (blkOk_by (own := [("x", 4)]) (N := ["width", "height", "squares", "y", "x"]) (sc := defScope sLayer) (by decide +kernel))
          (fun _ _ _ _ _ => pg_name (i := 4) scLayer.nd rfl (Or.inl rfl)) (fun _ _ _ _ _ => pts_nil)
          (fun _ _ _ _ _ => pe_tup (pa_cons (pv 4) (pa_cons (pv 3) pa_nil)))) pa_nil)))))
    (pss_one (ps_ret (pv 2)))), ?_⟩
  refine ⟨(by show 0 ≤ sizeLine; decide), fun S nS => ?_⟩
  refine ⟨_, rfl, he, rfl, by omega, by omega, ?_⟩
  refine for_range (lo := 0) (n := he.toNat) (fun i σ H' => ∃ (vy vx : Option V) (us : List V), σ = [some (.int wi), some (.int he), some (.ref S), vy, vx] ∧ Same H H' ∧ H' S = some (.lst us) ∧ Sqs H' us ((List.range i).flatMap (rowSq wi)))
    ⟨none, none, [], rfl, same_upd nS, upd_same, .nil⟩ ?_ ?_
  · rintro i σ H1 hi ⟨vy, vx, us, rfl, sm, hS, hU⟩
    rw [show (0 : Int) + (i : Int) = (i : Int) by omega]
    refine ⟨_, rfl, .inl ⟨rfl, _, SqL.of hS⟩, ?_⟩
    refine ⟨_, rfl, wi, rfl, by omega, by omega, fun D nD => ?_⟩
    refine lc_range (lo := 0) (n := wi.toNat) (fun j H' => Same H1 H' ∧ ∃ us', H' D = some (.lst us') ∧ Sqs H' us' ((List.range j).map fun (x : Nat) => ((x : Int), (i : Int))))
      ⟨same_upd nD, [], upd_same, .nil⟩ ?_ ?_
    · rintro j H' hj ⟨sm2, us', hD, hD2⟩
      refine ⟨rfl, ?_⟩
      refine ⟨_, rfl, _, rfl, (by show 2 ≤ sizeLine; decide), fun T nT => ?_⟩
      rw [show (0 : Int) + (j : Int) = (j : Int) by omega]
      obtain ⟨a1, a2, a3⟩ := sqs_more (s := ((j : Int), (i : Int))) nD sm2 hD hD2 nT
      refine ⟨us', a1, ?_, a2, _, upd_same, ?_⟩
      · rw [hD2.len, List.length_map, List.length_range]
        exact small1000 (by omega)
      · rw [range_more]
        exact a3
    · rintro H' ⟨sm2, us', hD, hD2⟩
      have hS' := sm2 _ _ hS
      have hU' := hU.same sm2
      have l1 := hU'.len
      have l2 := hD2.len
      rw [List.length_map, List.length_range] at l2
      have l3 := rows_len wi i
      have l4 : i * wi.toNat ≤ 6 * 6 := Nat.mul_le_mul (by omega) (by omega)
      refine ⟨S, D, us, us', rfl, rfl, hS', hD, Nat.le_of_lt (small1000 (by omega)), ?_⟩
      refine ⟨_, _, us ++ us', rfl, same_upd2 nS (sm.trans sm2), upd_same, ?_⟩
      have e : (List.range (i + 1)).flatMap (rowSq wi) = (List.range i).flatMap (rowSq wi) ++ (List.range wi.toNat).map fun (x : Nat) => ((x : Int), (i : Int)) := by
        rw [List.range_succ, List.flatMap_append, List.flatMap_cons, List.flatMap_nil, List.append_nil]
        rfl
      rw [e]
      exact Sqs.put hS' (hU'.app hD2)
  · rintro σ H1 ⟨vy, vx, us, rfl, sm, hS, hU⟩
    exact ⟨_, rfl, q H1 S us sm hS hU⟩
theorem ok_unc {f fL : Addr} {fd fdL : FuncData} (F : Fun K "uncovered_squares" "uncovered_squares" sUnc f fd)
    (GL : FnOk P w K mg base CX0 1 fL fdL ["width", "height"] spLayer) (bL : Binds K fdL ["width", "height"] []) (kL : PySem.W.keepIn K (.ref fL) = true) (mL : mg "layer_squares" = some (.ref fL)) : FnOk P w K mg base CX0 2 f fd ["width", "height", "covered"] spUnc := by
  refine F.ok scUnc (fun vs H Q E h => ?_) (fun cdv A outer s H vs Q E hr h => ?_)
  · obtain ⟨w, h, a, us, cov, rfl, _⟩ := h
    rfl
  obtain ⟨wi, he, a, us, cov, rfl, w0, w6, h0, h6, hA, hS, q⟩ := h
  refine ⟨_, pss_one (ps_ret
    (pe_lc (own := [("square", 3)]) (g := gName 3) (by rfl) scUnc.nd (pi_list (pe_call GL hr rfl mL kL bL .nil pass0 (pa_cons (pv 0) (pa_cons (pv 1) pa_nil))))
      (blkOk_by (own := [("square", 3)]) (N := ["width", "height", "covered", "square"]) (sc := defScope sUnc) (by decide +kernel))
      (fun _ _ _ _ _ => pg_name (i := 3) scUnc.nd rfl (Or.inl rfl)) (fun _ _ _ _ _ => pts_one (pt_cmpR (show OpR _ _ (rNotInD K) from op_notInD (room65 hr)) (pv 3) (pv 2) (by rfl)))
      (fun _ _ _ _ _ => pv 3))), ?_⟩
  refine ⟨_, rfl, _, rfl, wi, he, rfl, w0, w6, h0, h6, fun H1 L ls sm1 hL hLS => ?_⟩
  refine ⟨L, rfl, ⟨_, SqL.of hL⟩, fun D nD => ?_⟩
  refine lc_list (K := K) (a := L) (xs := ls) (fun i H' => Same H1 H' ∧ ∃ ws, H' D = some (.lst ws) ∧ Sqs H' ws (((layerSq wi he).take i).filter fun s => !covd cov s))
    ⟨same_upd nD, [], upd_same, .nil⟩ (fun i H' _ z => SqL.of (z.1 _ _ hL)) ?_ ?_
  · rintro i x H' hx ⟨sm, ws, hD, hW⟩
    obtain ⟨T, s, rfl, hs, hT⟩ := hLS.at hx
    have sm' := sm1.trans sm
    have hT' := sm _ _ hT
    have lw : ws.length < sizeLine := by
      refine small1000 ?_
      have l1 := hW.len
      have l2 := List.length_filter_le (fun s => !covd cov s) ((layerSq wi he).take i)
      have l3 := layerSq_len w6 h6
      have l4 : ((layerSq wi he).take i).length ≤ (layerSq wi he).length := by
        rw [List.length_take]
        exact Nat.min_le_right _ _
      omega
    refine ⟨rfl, ?_⟩
    refine ⟨_, rfl, _, rfl, sqD s, cov.map sqD, sq_dp hT', .lst (SqL.of (sm' _ _ hA)) (hS.same sm').dp, sqD_shaped s, sqDs_shaped cov, _, rfl, ?_⟩
    rw [sqD_any]
    refine ite2 (fun c => ?_) (fun c => ?_)
    · refine ⟨_, rfl, ws, hD, lw, same_upd2 nD sm, ws ++ [.ref T], upd_same, ?_⟩
      have e : ((layerSq wi he).take (i + 1)).filter (fun s => !covd cov s) = (((layerSq wi he).take i).filter fun s => !covd cov s) ++ [s] := by
        rw [take_more hs, List.filter_append, List.filter_cons, if_pos c, List.filter_nil]
      rw [e]
      exact Sqs.put hD (hW.app (.cons hT' .nil))
    · have e : ((layerSq wi he).take (i + 1)).filter (fun s => !covd cov s) = (((layerSq wi he).take i).filter fun s => !covd cov s) := by
        rw [take_more hs, List.filter_append, List.filter_cons, if_neg c, List.filter_nil, List.append_nil]
      exact ⟨sm, ws, hD, by rw [e]; exact hW⟩
  · rintro H' ⟨sm, ws, hD, hW⟩
    rw [hLS.len, List.take_of_length_le (Nat.le_refl _)] at hW
    exact q H' D ws (sm1.trans sm) hD hW
theorem ok_bar {f : Addr} {fd : FuncData} (F : Fun K "bar_squares" "bar_squares" sBar f fd) (mr : mg "range" = none) : FnOk P w K mg base CX0 1 f fd ["x", "y", "direction", "length"] spBar := by
  refine F.ok scBar (fun vs H Q E h => ?_) (fun cdv A outer s H vs Q E hr h => ?_)
  · obtain ⟨x, y, d, n, rfl, _⟩ := h
    rfl
  obtain ⟨x, y, d, n, rfl, n0, n6, q⟩ := h
  refine ⟨_, pss_cons (ps_if (pt_cmpR op_eq (pv 2) pe_int (nomark _))
      (pss_one (ps_ret (pe_lc (own := [("step", 4)]) (g := gName 4) (by rfl) scBar.nd (pi_range1 (by rfl) mr (pa_cons (pv 3) pa_nil))
        (blkOk_by (own := [("step", 4)]) (N := ["x", "y", "direction", "length", "step"]) (sc := defScope sBar) (by decide +kernel))
        (fun _ _ _ _ _ => pg_name (i := 4) scBar.nd rfl (Or.inl rfl)) (fun _ _ _ _ _ => pts_nil)
        (fun _ _ _ _ _ => pe_tup (pa_cons (pe_op op_add (pv 0) (pv 4)) (pa_cons (pv 1) pa_nil)))))) pss_nil)
    (pss_one (ps_ret (pe_lc (own := [("step", 4)]) (g := gName 4) (by rfl) scBar.nd (pi_range1 (by rfl) mr (pa_cons (pv 3) pa_nil))
        (blkOk_by (own := [("step", 4)]) (N := ["x", "y", "direction", "length", "step"]) (sc := defScope sBar) (by decide +kernel))
        (fun _ _ _ _ _ => pg_name (i := 4) scBar.nd rfl (Or.inl rfl)) (fun _ _ _ _ _ => pts_nil)
        (fun _ _ _ _ _ => pe_tup (pa_cons (pv 0) (pa_cons (pe_op op_add (pv 1) (pv 4)) pa_nil)))))), ?_⟩
  have small : ∀ {i : Nat} {us : List V} {ss : List (Int × Int)} {H' : Hp}, i < n.toNat → Sqs H' us ss → ss.length = i → us.length < sizeLine := fun {i us ss H'} hi hS e => by
    rw [hS.len, e]
    exact small1000 (by omega)
  refine ⟨_, rfl, rfl, _, rfl, ?_⟩
  refine ite2 (fun c => ?_) (fun c => ?_)
  · have c1 : d = 1 := V.int.inj (of_decide_eq_true c)
    have eb : barSq x y d n = (List.range n.toNat).map fun (i : Nat) => (x + (i : Int), y) := by
      unfold barSq
      rw [if_pos c1]
    refine ⟨_, rfl, n, rfl, by omega, by omega, fun D nD => ?_⟩
    refine lc_range (lo := 0) (n := n.toNat) (fun i H' => Same H H' ∧ ∃ us, H' D = some (.lst us) ∧ Sqs H' us ((List.range i).map fun (i : Nat) => (x + (i : Int), y)))
      ⟨same_upd nD, [], upd_same, .nil⟩ ?_ ?_
    · rintro i H' hi ⟨sm, us, hD, hS⟩
      refine ⟨rfl, ?_⟩
      refine ⟨_, rfl, _, rfl, _, _, rfl, rfl, _, rfl, (by show 2 ≤ sizeLine; decide), fun T nT => ?_⟩
      rw [show (0 : Int) + (i : Int) = (i : Int) by omega]
      obtain ⟨a1, a2, a3⟩ := sqs_more (s := (x + (i : Int), y)) nD sm hD hS nT
      refine ⟨us, a1, small hi hS (by rw [List.length_map, List.length_range]), a2, _, upd_same, ?_⟩
      rw [range_more]
      exact a3
    · rintro H' ⟨sm, us, hD, hS⟩
      exact q H' D us sm hD (by rw [eb]; exact hS)
  · have c1 : ¬ d = 1 := fun z => c (decide_eq_true (congrArg V.int z))
    have eb : barSq x y d n = (List.range n.toNat).map fun (i : Nat) => (x, y + (i : Int)) := by
      unfold barSq
      rw [if_neg c1]
    refine ⟨_, rfl, n, rfl, by omega, by omega, fun D nD => ?_⟩
    refine lc_range (lo := 0) (n := n.toNat) (fun i H' => Same H H' ∧ ∃ us, H' D = some (.lst us) ∧ Sqs H' us ((List.range i).map fun (i : Nat) => (x, y + (i : Int))))
      ⟨same_upd nD, [], upd_same, .nil⟩ ?_ ?_
    · rintro i H' hi ⟨sm, us, hD, hS⟩
      refine ⟨rfl, ?_⟩
      refine ⟨_, rfl, _, rfl, _, rfl, _, _, rfl, rfl, (by show 2 ≤ sizeLine; decide), fun T nT => ?_⟩
      rw [show (0 : Int) + (i : Int) = (i : Int) by omega]
      obtain ⟨a1, a2, a3⟩ := sqs_more (s := (x, y + (i : Int))) nD sm hD hS nT
      refine ⟨us, a1, small hi hS (by rw [List.length_map, List.length_range]), a2, _, upd_same, ?_⟩
      rw [range_more]
      exact a3
    · rintro H' ⟨sm, us, hD, hS⟩
      exact q H' D us sm hD (by rw [eb]; exact hS)
theorem ok_ins {f : Addr} {fd : FuncData} (F : Fun K "lies_inside" "lies_inside" sIns f fd) (ma : mg "all" = none) : FnOk P w K mg base CX0 1 f fd ["width", "height", "squares"] spIns := by
  refine F.ok scIns (fun vs H Q E h => ?_) (fun cdv A outer s H vs Q E hr h => ?_)
  · obtain ⟨w, h, a, us, ss, rfl, _⟩ := h
    rfl
  obtain ⟨wi, he, a, us, ss, rfl, hA, hS, hl, q⟩ := h
  refine ⟨_, pss_one (ps_ret (pe_callB (cr_all rfl) (by rfl) ma (by decide +kernel) (pa_cons
    (pe_lc (own := [("square", 3)]) (g := gName 3) (by rfl) scIns.nd (pi_list (pv 2))
      (blkOk_by (own := [("square", 3)]) (N := ["width", "height", "squares", "square"]) (sc := defScope sIns) (by decide +kernel))
      (fun _ _ _ _ _ => pg_name (i := 3) scIns.nd rfl (Or.inl rfl)) (fun _ _ _ _ _ => pts_nil)
      (fun _ _ _ _ _ => pe_and (pe_cmpR op_lt (pe_ix (show IxR _ (rIxT K) from ix_tup) (pv 3) pe_int (fun _ _ => rfl)) (pv 0) (nomark _)) (pe_one (pe_cmpR op_lt (pe_ix (show IxR _ (rIxT K) from ix_tup) (pv 3) pe_int (fun _ _ => rfl)) (pv 1) (nomark _))))) pa_nil))), ?_⟩
  refine ⟨_, rfl, a, rfl, ⟨_, SqL.of hA⟩, fun D nD => ?_⟩
  refine lc_list (K := K) (a := a) (xs := us) (fun i H' => Same H H' ∧ H' D = some (.lst (((ss.map (insideS wi he)).take i).map V.bl)))
    ⟨same_upd nD, upd_same⟩ (fun i H' _ z => SqL.of (z.1 _ _ hA)) ?_ ?_
  · rintro i x H' hx ⟨sm, hD⟩
    obtain ⟨T, z, rfl, hz, hT⟩ := hS.at hx
    have hT' := sm _ _ hT
    refine ⟨rfl, ?_⟩
    refine ⟨_, rfl, T, _, 0, _, rfl, rfl, SqT.of hT', atI_nat (j := 0) rfl, _, rfl, _, _, rfl, rfl, _, rfl, ?_⟩
    refine ite2 (fun c1 => ?_) (fun c1 => bls_more nD sm hD hz hl ?_)
    · refine ⟨_, rfl, T, _, 1, _, rfl, rfl, SqT.of hT', atI_nat (j := 1) rfl, _, rfl, _, _, rfl, rfl, bls_more nD sm hD hz hl ?_⟩
      unfold insideS
      rw [c1, Bool.true_and]
    · unfold insideS
      rw [Bool.eq_false_iff.mpr c1, Bool.false_and]
  · rintro H' ⟨sm, hD⟩
    refine ⟨D, ss.map (insideS wi he), rfl, SqL.of ?_, ?_⟩
    · rw [hD, hS.len, List.take_of_length_le (by rw [List.length_map]; exact Nat.le_refl _)]
    · rw [List.all_map]
      exact q H' sm
theorem ok_over {f : Addr} {fd : FuncData} (F : Fun K "overlaps" "overlaps" sOver f fd) (ma : mg "any" = none) : FnOk P w K mg base CX0 1 f fd ["squares", "covered"] spOver := by
  refine F.ok scOver (fun vs H Q E h => ?_) (fun cdv A outer s H vs Q E hr h => ?_)
  · obtain ⟨a, b, us, ws, ss, cov, rfl, _⟩ := h
    rfl
  obtain ⟨a, b, us, ws, ss, cov, rfl, hA, hS, hB, hC, hl, q⟩ := h
  refine ⟨_, pss_one (ps_ret (pe_callB (cr_any rfl) (by rfl) ma (by decide +kernel) (pa_cons
    (pe_lc (own := [("square", 2)]) (g := gName 2) (by rfl) scOver.nd (pi_list (pv 0))
      (blkOk_by (own := [("square", 2)]) (N := ["squares", "covered", "square"]) (sc := defScope sOver) (by decide +kernel))
      (fun _ _ _ _ _ => pg_name (i := 2) scOver.nd rfl (Or.inl rfl)) (fun _ _ _ _ _ => pts_nil)
      (fun _ _ _ _ _ => pe_cmpR (show OpR _ _ (rInD K) from op_inD (room65 hr)) (pv 2) (pv 1) (by rfl))) pa_nil))), ?_⟩
  refine ⟨_, rfl, a, rfl, ⟨_, SqL.of hA⟩, fun D nD => ?_⟩
  refine lc_list (K := K) (a := a) (xs := us) (fun i H' => Same H H' ∧ H' D = some (.lst (((ss.map (covd cov)).take i).map V.bl)))
    ⟨same_upd nD, upd_same⟩ (fun i H' _ z => SqL.of (z.1 _ _ hA)) ?_ ?_
  · rintro i x H' hx ⟨sm, hD⟩
    obtain ⟨T, z, rfl, hz, hT⟩ := hS.at hx
    have hT' := sm _ _ hT
    refine ⟨rfl, ?_⟩
    refine ⟨_, rfl, _, rfl, sqD z, cov.map sqD, sq_dp hT', .lst (SqL.of (sm _ _ hB)) ((hC.same sm).dp), sqD_shaped z, sqDs_shaped cov, bls_more nD sm hD hz hl (sqD_any cov z)⟩
  · rintro H' ⟨sm, hD⟩
    refine ⟨D, ss.map (covd cov), rfl, SqL.of ?_, ?_⟩
    · rw [hD, hS.len, List.take_of_length_le (by rw [List.length_map]; exact Nat.le_refl _)]
    · rw [List.any_map]
      exact q H' sm
theorem dir_in (z : Int) : inV (V.int z) [V.int 0, V.int 1] = okDir z := by
  show (((0 : Int) == z) || (((1 : Int) == z) || false)) = (decide (z = 0) || decide (z = 1))
  rw [Bool.or_false]
  by_cases a : z = 0
  · subst a
    rfl
  · by_cases b : z = 1
    · subst b
      rfl
    · rw [decide_eq_false a, decide_eq_false b, beq_eq_false_iff_ne.mpr (Ne.symm a), beq_eq_false_iff_ne.mpr (Ne.symm b)]
theorem ok_form {f : Addr} {fd : FuncData} {t : Tok} (F : Fun K "bars_in_form" "bars_in_form" sForm f fd) (ml : mg "len" = none) (ma : mg "all" = none) (mC : mg "GREATEST_COORDINATE" = some (.int 7 t)) : FnOk P w K mg base CX0 1 f fd ["bars"] (spForm K) := by
  refine F.ok scForm (fun vs H Q E h => ?_) (fun cdv A outer s H vs Q E hr h => ?_)
  · obtain ⟨a, ns, rfl, _⟩ := h
    rfl
  obtain ⟨a, ns, rfl, hA, hl, qO, qI⟩ := h
  refine ⟨_, pss_cons (ps_if (pt_cmpR op_ne (pe_op op_mod (pe_callB call_len_seq (by rfl) ml PySem.boot_len (pa_cons (pv 0) pa_nil)) pe_int) pe_int (nomark _)) (pss_one (ps_ret pe_bl)) pss_nil)
    (pss_cons (ps_set (i := 1) scForm.nd rfl (.inl rfl) (pe_op op_cat (pe_slice3 (pv 0) (po_some pe_int) po_none (po_some pe_int)) (pe_slice3 (pv 0) (po_some pe_int) po_none (po_some pe_int))))
    (pss_cons (ps_if (pt_not (pt_val (pe_callB (cr_all rfl) (by rfl) ma (by decide +kernel) (pa_cons
        (pe_lc (own := [("coordinate", 2)]) (g := gName 2) (by rfl) scForm.nd (pi_list (pv 1))
          (blkOk_by (own := [("coordinate", 2)]) (N := ["bars", "coordinates", "coordinate", "direction"]) (sc := defScope sForm) (by decide +kernel))
          (fun _ _ _ _ _ => pg_name (i := 2) scForm.nd rfl (Or.inl rfl)) (fun _ _ _ _ _ => pts_nil)
          (fun _ _ _ _ _ => pe_chain op_le op_le pe_int (pv 2) (pe_glob (v := .int 7) rfl mC ⟨_, rfl⟩))) pa_nil)))) (pss_one (ps_ret pe_bl)) pss_nil)
    (pss_one (ps_ret (pe_callB (cr_all rfl) (by rfl) ma (by decide +kernel) (pa_cons
        (pe_lc (own := [("direction", 3)]) (g := gName 3) (by rfl) scForm.nd (pi_list (pe_slice3 (pv 0) (po_some pe_int) po_none (po_some pe_int)))
          (blkOk_by (own := [("direction", 3)]) (N := ["bars", "coordinates", "coordinate", "direction"]) (sc := defScope sForm) (by decide +kernel))
          (fun _ _ _ _ _ => pg_name (i := 3) scForm.nd rfl (Or.inl rfl)) (fun _ _ _ _ _ => pts_nil)
          (fun _ _ _ _ _ => pe_cmpR (show OpR _ _ (rIn K false) from op_in_seq) (pv 3) (pe_tup (pa_cons pe_int (pa_cons pe_int pa_nil))) (by rfl))) pa_nil)))))), ?_⟩
  refine ⟨_, rfl, a, _, rfl, .inl hA, _, _, rfl, rfl, (by show (0 : Int) < 3; decide), rfl, _, rfl, ?_⟩
  rw [List.length_map]
  refine ite2 (fun c => ?_) (fun c => ?_)
  · refine qO (fun z => ?_) H (Same.refl H)
    have z1 : ((ns.length : Nat) : Int) % 3 = 0 := by omega
    have c1 : (!decide (V.int (((ns.length : Nat) : Int) % 3) = V.int 0)) = true := c
    rw [z1] at c1
    simp at c1
  have z0 : ns.length % 3 = 0 := by
    by_cases z : ns.length % 3 = 0
    · exact z
    · refine absurd ?_ c
      have z1 : ¬ V.int (((ns.length : Nat) : Int) % 3) = V.int 0 := fun y => by
        have y1 := V.int.inj y
        omega
      rw [Bool.not_eq_true', decide_eq_false_iff_not]
      exact z1
  obtain ⟨ts, rfl, hk⟩ := flatT_of (ns.length / 3) ns (by omega)
  have l1 : (flatT ts).length = 3 * ts.length := flatT_len ts
  have q := qI ts rfl
  -- coordinates = bars[0::3] + bars[1::3]
  refine ⟨_, rfl, _, rfl, _, rfl, a, _, rfl, hA, (by decide), ?_, fun X1 n1 => ?_⟩
  · rw [pick_x, List.length_map, List.length_map]
    exact Nat.le_of_lt (small1000 (by omega))
  rw [pick_x]
  have s1 : Same H (upd H X1 (.lst ((ts.map (·.1)).map V.int))) := same_upd n1
  have h1 : (upd H X1 (.lst ((ts.map (·.1)).map V.int))) X1 = some (.lst ((ts.map (·.1)).map V.int)) := upd_same
  generalize (upd H X1 (.lst ((ts.map (·.1)).map V.int))) = H1 at s1 h1 ⊢
  refine ⟨_, rfl, _, rfl, _, rfl, a, _, rfl, s1.seq hA, (by decide), ?_, fun X2 n2 => ?_⟩
  · rw [pick_y, List.length_map, List.length_map]
    exact Nat.le_of_lt (small1000 (by omega))
  rw [pick_y]
  have s2 : Same H1 (upd H1 X2 (.lst ((ts.map (·.2.1)).map V.int))) := same_upd n2
  have h2 : (upd H1 X2 (.lst ((ts.map (·.2.1)).map V.int))) X2 = some (.lst ((ts.map (·.2.1)).map V.int)) := upd_same
  generalize (upd H1 X2 (.lst ((ts.map (·.2.1)).map V.int))) = H2 at s2 h2 ⊢
  refine ⟨X1, X2, _, _, rfl, rfl, s2 _ _ h1, h2, ?_, fun X3 n3 => ?_⟩
  · rw [List.length_map, List.length_map, List.length_map, List.length_map]
    exact Nat.le_of_lt (small1000 (by omega))
  rw [← List.map_append]
  have s3 := (s1.trans s2).trans (same_upd (o := .lst ((ts.map (·.1) ++ ts.map (·.2.1)).map V.int)) n3)
  have h3 : (upd H2 X3 (.lst ((ts.map (·.1) ++ ts.map (·.2.1)).map V.int))) X3 = some (.lst ((ts.map (·.1) ++ ts.map (·.2.1)).map V.int)) := upd_same
  have lc : (ts.map (·.1) ++ ts.map (·.2.1)).length ≤ 1000 := by
    rw [List.length_append, List.length_map, List.length_map]
    omega
  have eF : formT ts = ((ts.map (·.1) ++ ts.map (·.2.1)).all okCo && (ts.map (·.2.2)).all okDir) := rfl
  generalize (upd H2 X3 (.lst ((ts.map (·.1) ++ ts.map (·.2.1)).map V.int))) = H3 at s3 h3 ⊢
  generalize (ts.map (·.1) ++ ts.map (·.2.1)) = cs at h3 lc eF ⊢
  -- all of them within 0 .. 7
  refine ⟨_, rfl, X3, rfl, ⟨_, SqL.of h3⟩, fun D nD => ?_⟩
  refine lc_list (K := K) (a := X3) (xs := cs.map V.int) (fun i H' => Same H3 H' ∧ H' D = some (.lst (((cs.map okCo).take i).map V.bl)))
    ⟨same_upd nD, upd_same⟩ (fun i H' _ z => SqL.of (z.1 _ _ h3)) ?_ ?_
  · rintro i x H' hx ⟨sm, hD⟩
    obtain ⟨z, hz, rfl⟩ := map_at hx
    refine ⟨rfl, ?_⟩
    refine ⟨_, rfl, _, _, rfl, rfl, _, rfl, ?_⟩
    refine ite2 (fun c1 => ⟨_, _, rfl, rfl, bls_more nD sm hD hz lc ?_⟩) (fun c1 => bls_more nD sm hD hz lc ?_)
    · unfold okCo
      rw [c1, Bool.true_and]
    · unfold okCo
      rw [Bool.eq_false_iff.mpr c1, Bool.false_and]
  rintro H4 ⟨s4, hD⟩
  refine ⟨D, cs.map okCo, rfl, SqL.of ?_, _, rfl, ?_⟩
  · rw [hD, List.length_map, List.take_of_length_le (by rw [List.length_map]; exact Nat.le_refl _)]
  rw [List.all_map]
  show if (!cs.all okCo) = true then _ else _
  cases e1 : cs.all okCo with
  | false =>
    refine iteT ?_
    rw [e1, Bool.false_and] at eF
    have q1 := q H4 (s3.trans s4)
    rw [eF] at q1
    exact q1
  | true =>
    refine iteF ?_
    rw [e1, Bool.true_and] at eF
    rw [eF] at q
    have s34 := s3.trans s4
    -- all of them 0 or 1
    refine ⟨_, rfl, _, rfl, _, rfl, a, _, rfl, s34.seq hA, (by decide), ?_, fun X5 n5 => ?_⟩
    · rw [pick_d, List.length_map, List.length_map]
      exact Nat.le_of_lt (small1000 (by omega))
    rw [pick_d]
    have s5 := s34.trans (same_upd (o := .lst ((ts.map (·.2.2)).map V.int)) n5)
    have h5 : (upd H4 X5 (.lst ((ts.map (·.2.2)).map V.int))) X5 = some (.lst ((ts.map (·.2.2)).map V.int)) := upd_same
    have ld : (ts.map (·.2.2)).length ≤ 1000 := by
      rw [List.length_map]
      omega
    generalize (upd H4 X5 (.lst ((ts.map (·.2.2)).map V.int))) = H5 at s5 h5 ⊢
    generalize (ts.map (·.2.2)) = ds at h5 ld q ⊢
    refine ⟨X5, rfl, ⟨_, SqL.of h5⟩, fun D2 nD2 => ?_⟩
    refine lc_list (K := K) (a := X5) (xs := ds.map V.int) (fun i H' => Same H5 H' ∧ H' D2 = some (.lst (((ds.map okDir).take i).map V.bl)))
      ⟨same_upd nD2, upd_same⟩ (fun i H' _ z => SqL.of (z.1 _ _ h5)) ?_ ?_
    · rintro i x H' hx ⟨sm, hD'⟩
      obtain ⟨z, hz, rfl⟩ := map_at hx
      refine ⟨rfl, ?_⟩
      refine ⟨_, rfl, (by show 2 ≤ sizeLine; decide), fun T nT => ?_⟩
      have gT : Same H' (upd H' T (.tup [.int 0, .int 1])) := same_upd nT
      exact ⟨T, [.int 0, .int 1], rfl, .inr (SqT.of upd_same), rfl, rfl, bls_more nD2 (sm.trans gT) (gT _ _ hD') hz ld (dir_in z)⟩
    · rintro H6 ⟨s6, hD'⟩
      refine ⟨D2, ds.map okDir, rfl, SqL.of ?_, ?_⟩
      · rw [hD', List.length_map, List.take_of_length_le (by rw [List.length_map]; exact Nat.le_refl _)]
      · rw [List.all_map]
        exact q H6 (s5.trans s6)
theorem rg_tab : ((List.range 21).all fun m => Builtin.Range.small 0 ((3 * m : Nat) : Int) 3 && (Builtin.Range.rangeSize 0 ((3 * m : Nat) : Int) 3 == m)) = true := by decide +kernel
theorem rg3 {m : Nat} (h : m ≤ 20) : RgC 0 ((3 * m : Nat) : Int) 3 m := by
  have z := List.all_eq_true.mp rg_tab m (List.mem_range.mpr (by omega))
  rw [Bool.and_eq_true] at z
  exact ⟨by decide, by decide, z.1, eq_of_beq z.2⟩
theorem arrF_step {w h n : Int} {ts : List Tri} {cov : List (Int × Int)} {i : Nat} {t : Tri} (ht : ts[i]? = some t) : arrF w h n (ts.drop i) cov = if (!(triSq n t).all (insideS w h) || (triSq n t).any (covd cov)) = true then none else arrF w h n (ts.drop (i + 1)) (cov ++ triSq n t) := by
  obtain ⟨hi, e⟩ := List.getElem?_eq_some_iff.mp ht
  rw [List.drop_eq_getElem_cons hi, e, arrF]
theorem ok_arr {f fB fI fO : Addr} {fd fdB fdI fdO : FuncData} (F : Fun K "arrangement_squares" "arrangement_squares" sArr f fd) (mr : mg "range" = none) (ml : mg "len" = none)
    (GB : FnOk P w K mg base CX0 1 fB fdB ["x", "y", "direction", "length"] spBar) (bB : Binds K fdB ["x", "y", "direction", "length"] []) (kB : PySem.W.keepIn K (.ref fB) = true) (mB : mg "bar_squares" = some (.ref fB))
    (GI : FnOk P w K mg base CX0 1 fI fdI ["width", "height", "squares"] spIns) (bI : Binds K fdI ["width", "height", "squares"] []) (kI : PySem.W.keepIn K (.ref fI) = true) (mI : mg "lies_inside" = some (.ref fI))
    (GO : FnOk P w K mg base CX0 1 fO fdO ["squares", "covered"] spOver) (bO : Binds K fdO ["squares", "covered"] []) (kO : PySem.W.keepIn K (.ref fO) = true) (mO : mg "overlaps" = some (.ref fO)) :
    FnOk P w K mg base CX0 2 f fd ["width", "height", "length", "bars"] (spArr K) := by
  refine F.ok scArr (fun vs H Q E h => ?_) (fun cdv A outer s H vs Q E hr h => ?_)
  · obtain ⟨w, h, n, a, ts, rfl, _⟩ := h
    rfl
  obtain ⟨wi, he, n, a, ts, rfl, ok, hA, hl, qN, qS⟩ := h
  obtain ⟨⟨w1, w6⟩, ⟨h1, h6⟩, n1, n6⟩ := okAll_true ok
  refine ⟨_, pss_cons (ps_set (i := 4) scArr.nd rfl (.inl rfl) (pe_lst pa_nil))
    (pss_cons (ps_for PassesOwn.never rfl (pi_range3 (by rfl) mr (pa_cons pe_int (pa_cons (pe_callB call_len_seq (by rfl) ml PySem.boot_len (pa_cons (pv 3) pa_nil)) (pa_cons pe_int pa_nil)))) (pg_name (i := 5) scArr.nd rfl (.inl rfl))
      (pss_cons (ps_set (i := 6) scArr.nd rfl (.inl rfl) (pe_call GB hr rfl mB kB bB .nil pass0 (pa_cons (pe_ix ix_list (pv 3) (pv 5) (fun _ _ => rfl)) (pa_cons (pe_ix ix_list (pv 3) (pe_op op_add (pv 5) pe_int) (fun _ _ => rfl)) (pa_cons (pe_ix ix_list (pv 3) (pe_op op_add (pv 5) pe_int) (fun _ _ => rfl)) (pa_cons (pv 2) pa_nil))))))
      (pss_cons (ps_if (PW.pt (pw_or (pt_not (pt_val (pe_call GI hr rfl mI kI bI .nil pass0 (pa_cons (pv 0) (pa_cons (pv 1) (pa_cons (pv 6) pa_nil)))))) (pw_or1 (pt_val (pe_call GO hr rfl mO kO bO .nil pass0 (pa_cons (pv 6) (pa_cons (pv 4) pa_nil)))))))
        (pss_one (ps_ret pe_non)) pss_nil)
      (pss_one (ps_expr (pe_bm PySem.F.plainAttrs_list PySem.F.slot_list_extend PySem.F.type_list_extend mt_extend (pv 4) (pa_cons (pv 6) pa_nil)))))))
    (pss_one (ps_ret (pv 4)))), ?_⟩
  refine ⟨(by show 0 ≤ sizeLine; decide), fun S nS => ?_⟩
  have sS : Same H (upd H S (.lst [])) := same_upd nS
  have hS0 : (upd H S (.lst [])) S = some (.lst []) := upd_same
  generalize (upd H S (.lst [])) = H0 at sS hS0 ⊢
  refine ⟨_, rfl, a, _, rfl, .inl (sS.seq hA), ?_⟩
  refine ⟨_, _, _, ts.length, rfl, ?_, ?_⟩
  · rw [List.length_map, flatT_len]
    exact rg3 hl
  refine for_rangeC (lo := 0) (c := 3) (n := ts.length) (fun i σ H' => ∃ (v5 v6 : Option V) (us : List V) (cov : List (Int × Int)), σ = [some (.int wi), some (.int he), some (.int n), some (.ref a), some (.ref S), v5, v6] ∧
      Same H H' ∧ H' S = some (.lst us) ∧ Sqs H' us cov ∧ cov.length ≤ 6 * i ∧ arrF wi he n (ts.drop i) cov = arrF wi he n ts [])
    ⟨none, none, [], [], rfl, sS, hS0, .nil, Nat.le_refl _, rfl⟩ ?_ ?_
  · rintro i σ H1 hi ⟨v5, v6, us, cov, rfl, sm, hS, hU, lcov, ea⟩
    rw [show (0 : Int) + (i : Int) * 3 = ((3 * i : Nat) : Int) by omega]
    have ht : ts[i]? = some ts[i] := List.getElem?_eq_getElem hi
    generalize ts[i] = t at ht
    obtain ⟨f1, f2, f3⟩ := flatT_at ht
    have at1 : atI ((flatT ts).map V.int) ((3 * i : Nat) : Int) = some (V.int t.1) := atI_nat (by rw [List.getElem?_map, f1]; rfl)
    have at2 : atI ((flatT ts).map V.int) (((3 * i : Nat) : Int) + 1) = some (V.int t.2.1) := by
      rw [show ((3 * i : Nat) : Int) + 1 = ((3 * i + 1 : Nat) : Int) by omega]
      exact atI_nat (by rw [List.getElem?_map, f2]; rfl)
    have at3 : atI ((flatT ts).map V.int) (((3 * i : Nat) : Int) + 2) = some (V.int t.2.2) := by
      rw [show ((3 * i : Nat) : Int) + 2 = ((3 * i + 2 : Nat) : Int) by omega]
      exact atI_nat (by rw [List.getElem?_map, f3]; rfl)
    have hA1 := sm.seq hA
    have st := arrF_step (w := wi) (h := he) (n := n) (cov := cov) ht
    rw [ea] at st
    -- bar = bar_squares(bars[start], bars[start + 1], bars[start + 2], length)
    refine ⟨_, rfl, _, rfl, a, _, _, _, rfl, rfl, hA1, at1, _, rfl, _, rfl, _, _, rfl, rfl, a, _, _, _, rfl, rfl, hA1, at2, _, rfl, _, rfl, _, _, rfl, rfl, a, _, _, _, rfl, rfl, hA1, at3, _, rfl, ?_⟩
    refine ⟨t.1, t.2.1, t.2.2, n, rfl, by omega, n6, fun H2 b bs sm2 hB hBS => ?_⟩
    have bl : (triSq n t).length = n.toNat := barSq_len t.1 t.2.1 t.2.2 n
    have hBS' : Sqs H2 bs (triSq n t) := hBS
    -- if not lies_inside(..) or overlaps(..)
    refine ⟨_, rfl, _, rfl, _, rfl, wi, he, b, bs, triSq n t, rfl, hB, hBS', by omega, fun H3 sm3 => ⟨_, rfl, ?_⟩⟩
    have sm13 := sm2.trans sm3
    cases c1 : (triSq n t).all (insideS wi he) with
    | false =>
      rw [c1, Bool.not_false, Bool.true_or, if_pos rfl] at st
      exact iteT (iteT (qN st H3 (sm.trans sm13)))
    | true =>
      rw [c1, Bool.not_true, Bool.false_or] at st
      refine iteF ?_
      refine ⟨_, rfl, _, rfl, b, S, bs, us, triSq n t, cov, rfl, sm3 _ _ hB, hBS'.same sm3, sm13 _ _ hS, hU.same sm13, by omega, fun H4 sm4 => ⟨_, rfl, ?_⟩⟩
      have sm14 := sm13.trans sm4
      cases c2 : (triSq n t).any (covd cov) with
      | true =>
        rw [c2, if_pos rfl] at st
        exact iteT (qN st H4 (sm.trans sm14))
      | false =>
        rw [c2, if_neg Bool.false_ne_true] at st
        refine iteF ?_
        have hS4 := sm14 _ _ hS
        have hU4 := hU.same sm14
        have hB4 := sm4 _ _ (sm3 _ _ hB)
        have hBS4 := (hBS'.same sm3).same sm4
        have l1 := hU4.len
        have l2 := hBS4.len
        refine ⟨_, rfl, .inl ⟨rfl, _, SqL.of hS4⟩, _, rfl, S, b, us, bs, rfl, rfl, hS4, hB4, Nat.le_of_lt (small1000 (by omega)), ?_⟩
        refine ⟨_, _, us ++ bs, cov ++ triSq n t, rfl, same_upd2 nS (sm.trans sm14), upd_same, Sqs.put hS4 (hU4.app hBS4), ?_, st.symm⟩
        rw [List.length_append]
        omega
  · rintro σ H1 ⟨v5, v6, us, cov, rfl, sm, hS, hU, lcov, ea⟩
    rw [List.drop_length] at ea
    exact ⟨_, rfl, qS cov ea.symm H1 S us sm hS hU⟩
theorem flatSq_more {ss : List (Int × Int)} {i : Nat} {s : Int × Int} (h : ss[i]? = some s) : (flatSq (ss.take i)).map V.int ++ [V.int s.1, V.int s.2] = (flatSq (ss.take (i + 1))).map V.int := by
  unfold flatSq
  rw [take_more h, List.flatMap_append, List.map_append]
  rfl
theorem ok_free {f fZ fF fA fU : Addr} {fd fdZ fdF fdA fdU : FuncData} {tO tV : Tok} (F : Fun K "free_squares" "free_squares" sFree f fd) (GZ : FnOk P w K mg base CX0 1 fZ fdZ ["width", "height", "length"] spSizes) (bZ : Binds K fdZ ["width", "height", "length"] []) (kZ : PySem.W.keepIn K (.ref fZ) = true)
    (mZ : mg "sizes_in_range" = some (.ref fZ)) (GF : FnOk P w K mg base CX0 1 fF fdF ["bars"] (spForm K)) (bF : Binds K fdF ["bars"] []) (kF : PySem.W.keepIn K (.ref fF) = true) (mF : mg "bars_in_form" = some (.ref fF))
    (GA : FnOk P w K mg base CX0 2 fA fdA ["width", "height", "length", "bars"] (spArr K)) (bA : Binds K fdA ["width", "height", "length", "bars"] []) (kA : PySem.W.keepIn K (.ref fA) = true) (mA : mg "arrangement_squares" = some (.ref fA))
    (GU : FnOk P w K mg base CX0 2 fU fdU ["width", "height", "covered"] spUnc) (bU : Binds K fdU ["width", "height", "covered"] []) (kU : PySem.W.keepIn K (.ref fU) = true) (mU : mg "uncovered_squares" = some (.ref fU))
    (mO : mg "OUT_OF_RANGE" = some (.int (-22) tO)) (mV : mg "NO_VALID_ARRANGEMENT" = some (.int (-33) tV)) (ml : mg "len" = none) : FnOk P w K mg base CX0 3 f fd ["width", "height", "length", "bars"] (spFree K) := by
  refine F.ok scFree (fun vs H Q E h => ?_) (fun cdv A outer s H vs Q E hr h => ?_)
  · obtain ⟨w, h, n, a, ns, rfl, _⟩ := h
    rfl
  obtain ⟨wi, he, n, a, ns, rfl, hw, hh, hn, hA, hl, nn, q⟩ := h
  have hr1 : Room 1 _ := hr.mono (by omega)
  refine ⟨_, pss_cons (ps_if (pt_not (PW.pt (pw_and (pt_val (pe_call GZ hr1 rfl mZ kZ bZ .nil pass0 (pa_cons (pv 0) (pa_cons (pv 1) (pa_cons (pv 2) pa_nil))))) (pw_and1 (pt_val (pe_call GF hr1 rfl mF kF bF .nil pass0 (pa_cons (pv 3) pa_nil))))))) (pss_one (ps_ret (pe_lst (pa_cons (pe_glob (v := .int (-22)) rfl mO ⟨_, rfl⟩) pa_nil)))) pss_nil)
    (pss_cons (ps_set (i := 4) scFree.nd rfl (.inl rfl) (pe_call GA hr rfl mA kA bA .nil pass0 (pa_cons (pv 0) (pa_cons (pv 1) (pa_cons (pv 2) (pa_cons (pv 3) pa_nil))))))
    (pss_cons (ps_if (pt_cmpR op_isN (pv 4) pe_non (nomark _)) (pss_one (ps_ret (pe_lst (pa_cons (pe_glob (v := .int (-33)) rfl mV ⟨_, rfl⟩) pa_nil)))) pss_nil)
    (pss_cons (ps_set (i := 5) scFree.nd rfl (.inl rfl) (pe_lst pa_nil))
    (pss_cons (ps_for PassesOwn.never rfl (pi_list (pe_call GU hr rfl mU kU bU .nil pass0 (pa_cons (pv 0) (pa_cons (pv 1) (pa_cons (pv 4) pa_nil))))) (pg_name (i := 6) scFree.nd rfl (.inl rfl))
      (pss_one (ps_expr (pe_bm PySem.F.plainAttrs_list PySem.F.slot_list_extend PySem.F.type_list_extend mt_extendT (pv 5) (pa_cons (pv 6) pa_nil)))))
    (pss_one (ps_ret (pe_op op_cat (pe_lst (pa_cons (pe_callB call_len_seq (by rfl) ml PySem.boot_len (pa_cons (pv 5) pa_nil)) pa_nil)) (pv 5)))))))), ?_⟩
  have out : PyKbe4.free_squares wi he n ns = [-22] → ∀ H' : Hp, 1 ≤ sizeLine ∧ ∀ p, H' p = none → Q (.ref p) (upd H' p (.lst [V.int (-22)])) := fun e H' => by
    refine ⟨(by show 1 ≤ sizeLine; decide), fun p _ => q _ p ?_⟩
    rw [upd_same, e]
    rfl
  refine ⟨_, rfl, _, rfl, _, rfl, wi, he, n, rfl, fun H1 sm1 => ⟨_, rfl, ?_⟩⟩
  cases e : okAll wi he n with
  | false => exact iteF (iteT (out (free_out hw hh hn e) H1))
  | true =>
    obtain ⟨⟨w1, w6⟩, ⟨h1, h6⟩, n1, n6⟩ := okAll_true e
    refine iteT ?_
    refine ⟨_, rfl, a, ns, rfl, sm1.seq hA, hl, fun ho H2 sm2 => ⟨_, rfl, iteT (out (free_odd e ho) H2)⟩, fun ts et H2 sm2 => ⟨_, rfl, ?_⟩⟩
    subst et
    have l1 := flatT_len ts
    cases g : formT ts with
    | false => exact iteT (out (free_form e nn g) H2)
    | true =>
      refine iteF ?_
      refine ⟨_, rfl, _, rfl, _, rfl, _, rfl, wi, he, n, a, ts, rfl, e, (sm1.trans sm2).seq hA, by omega, fun en H3 sm3 => ?_, fun c ec H3 p us sm3 hp hU => ?_⟩
      · refine ⟨_, rfl, rfl, _, rfl, ?_⟩
        refine iteDT rfl ?_
        refine ⟨(by show 1 ≤ sizeLine; decide), fun p _ => q _ p ?_⟩
        rw [upd_same, free_none e nn g en]
        rfl
      · refine ⟨_, rfl, rfl, _, rfl, ?_⟩
        refine iteDF (fun z => by cases z) ?_
        -- coordinates = []
        refine ⟨(by show 0 ≤ sizeLine; decide), fun C nC => ?_⟩
        have gC := same_upd (o := .lst []) nC
        have hC0 : (upd H3 C (.lst [])) C = some (.lst []) := upd_same
        refine ⟨_, rfl, _, rfl, _, rfl, wi, he, p, us, c, rfl, by omega, w6, by omega, h6, gC _ _ hp, hU.same gC, fun H4 U ws sm4 hF hW => ?_⟩
        refine ⟨U, rfl, ⟨_, SqL.of hF⟩, ?_⟩
        have lF := freeSq_len w6 h6 c
        have lW := hW.len
        have free : ∀ b x, H3 b = some x → H4 b = some x := fun b x z => sm4 _ _ (gC _ _ z)
        refine for_list (K := K) (a := U) (xs := ws) (fun i σ H' => ∃ v6 : Option V, σ = [some (.int wi), some (.int he), some (.int n), some (.ref a), some (.ref p), some (.ref C), v6] ∧ H' U = some (.lst ws) ∧ Sqs H' ws (freeSq wi he c) ∧ H' C = some (.lst ((flatSq ((freeSq wi he c).take i)).map V.int)))
          ⟨none, rfl, hF, hW, sm4 _ _ hC0⟩ (fun i σ H' _ ⟨_, _, z, _⟩ => SqL.of z) ?_ ?_
        · rintro i x σ H5 hx ⟨v6, rfl, hF5, hW5, hC5⟩
          obtain ⟨T, s, rfl, hs, hT⟩ := hW5.at hx
          have lt : (flatSq ((freeSq wi he c).take i)).length ≤ 72 := by
            rw [flatSq_len, List.length_take]
            have := Nat.min_le_right i (freeSq wi he c).length
            omega
          refine ⟨_, rfl, .inl ⟨rfl, _, SqL.of hC5⟩, _, rfl, C, T, _, _, rfl, rfl, hC5, SqT.of hT, Nat.le_of_lt (small1000 ?_), ?_⟩
          · rw [List.length_map]
            show _ + 2 ≤ 1000
            omega
          · refine ⟨_, rfl, ?_, Sqs.put hC5 hW5, ?_⟩
            · have ne : U ≠ C := fun z => by
                rw [z, sm4 _ _ hC0] at hF
                cases hF
                simp at hx
              rw [upd_ne ne]
              exact hF5
            · rw [upd_same, ← flatSq_more hs]
        · rintro σ H5 ⟨v6, rfl, hF5, hW5, hC5⟩
          rw [lW, List.take_of_length_le (Nat.le_refl _)] at hC5
          have lf := flatSq_len (freeSq wi he c)
          refine ⟨_, rfl, C, _, rfl, .inl (SqL.of hC5), (by show 1 ≤ sizeLine; decide), fun L nL => ?_⟩
          refine ⟨_, rfl, L, C, _, _, rfl, rfl, upd_same, (same_upd nL) _ _ hC5, Nat.le_of_lt (small1000 (by rw [List.length_map]; show 1 + (flatSq _).length ≤ 1000; omega)), fun M nM => q _ M ?_⟩
          rw [upd_same, free_in e nn g ec, List.length_map, lf, Nat.mul_comm]
          rfl
end
/-! ### the end -/
theorem all_mk {P : Program} {w : World} {K : PySem.W.Frag} {h : Heap} {mg : Str → Option Value} {fa f1 f2 f3 f4 f5 f6 f7 f8 f9 : Addr} {t1 t2 t3 t4 : Tok} (X : K.In h) (G : h.Ns mainGlobals mg) (hfa : mg "free_squares" = some (.ref fa))
    {od1 an1 od2 an2 od3 an3 od4 an4 od5 an5 od6 an6 od7 an7 od8 an8 od9 an9 : Option Addr} {sl1 sl2 sl3 sl4 sl5 sl6 sl7 sl8 sl9 : Array (Option Value)} {oc1 kV1 dc1 pm1 cd1 ct1 oc2 kV2 dc2 pm2 cd2 ct2 oc3 kV3 dc3 pm3 cd3 ct3 oc4 kV4 dc4 pm4 cd4 ct4 oc5 kV5 dc5 pm5 cd5 ct5 oc6 kV6 dc6 pm6 cd6 ct6 oc7 kV7 dc7 pm7 cd7 ct7 oc8 kV8 dc8 pm8 cd8 ct8 oc9 kV9 dc9 pm9 cd9 ct9 : Value}
    (a1 : PySem.W.nsIn K mainGlobals "free_squares" = some (some (.ref f1))) (l1 : K.lookup f1 = some ⟨oc1, od1, .func (PySem.W.fnOf "free_squares" "free_squares" (defArgs sFree) (defBody sFree) (defScope sFree) .none kV1 dc1 pm1 an1 cd1 ct1), sl1⟩) (c1 : PySem.W.codeIn K cd1 "free_squares" = true) (k1 : PySem.W.keepIn K (.ref f1) = true)
    (a2 : PySem.W.nsIn K mainGlobals "sizes_in_range" = some (some (.ref f2))) (l2 : K.lookup f2 = some ⟨oc2, od2, .func (PySem.W.fnOf "sizes_in_range" "sizes_in_range" (defArgs sSizes) (defBody sSizes) (defScope sSizes) .none kV2 dc2 pm2 an2 cd2 ct2), sl2⟩) (c2 : PySem.W.codeIn K cd2 "sizes_in_range" = true) (k2 : PySem.W.keepIn K (.ref f2) = true)
    (a3 : PySem.W.nsIn K mainGlobals "bars_in_form" = some (some (.ref f3))) (l3 : K.lookup f3 = some ⟨oc3, od3, .func (PySem.W.fnOf "bars_in_form" "bars_in_form" (defArgs sForm) (defBody sForm) (defScope sForm) .none kV3 dc3 pm3 an3 cd3 ct3), sl3⟩) (c3 : PySem.W.codeIn K cd3 "bars_in_form" = true) (k3 : PySem.W.keepIn K (.ref f3) = true)
    (a4 : PySem.W.nsIn K mainGlobals "arrangement_squares" = some (some (.ref f4))) (l4 : K.lookup f4 = some ⟨oc4, od4, .func (PySem.W.fnOf "arrangement_squares" "arrangement_squares" (defArgs sArr) (defBody sArr) (defScope sArr) .none kV4 dc4 pm4 an4 cd4 ct4), sl4⟩) (c4 : PySem.W.codeIn K cd4 "arrangement_squares" = true) (k4 : PySem.W.keepIn K (.ref f4) = true)
    (a5 : PySem.W.nsIn K mainGlobals "layer_squares" = some (some (.ref f5))) (l5 : K.lookup f5 = some ⟨oc5, od5, .func (PySem.W.fnOf "layer_squares" "layer_squares" (defArgs sLayer) (defBody sLayer) (defScope sLayer) .none kV5 dc5 pm5 an5 cd5 ct5), sl5⟩) (c5 : PySem.W.codeIn K cd5 "layer_squares" = true) (k5 : PySem.W.keepIn K (.ref f5) = true)
    (a6 : PySem.W.nsIn K mainGlobals "uncovered_squares" = some (some (.ref f6))) (l6 : K.lookup f6 = some ⟨oc6, od6, .func (PySem.W.fnOf "uncovered_squares" "uncovered_squares" (defArgs sUnc) (defBody sUnc) (defScope sUnc) .none kV6 dc6 pm6 an6 cd6 ct6), sl6⟩) (c6 : PySem.W.codeIn K cd6 "uncovered_squares" = true) (k6 : PySem.W.keepIn K (.ref f6) = true)
    (a7 : PySem.W.nsIn K mainGlobals "bar_squares" = some (some (.ref f7))) (l7 : K.lookup f7 = some ⟨oc7, od7, .func (PySem.W.fnOf "bar_squares" "bar_squares" (defArgs sBar) (defBody sBar) (defScope sBar) .none kV7 dc7 pm7 an7 cd7 ct7), sl7⟩) (c7 : PySem.W.codeIn K cd7 "bar_squares" = true) (k7 : PySem.W.keepIn K (.ref f7) = true)
    (a8 : PySem.W.nsIn K mainGlobals "lies_inside" = some (some (.ref f8))) (l8 : K.lookup f8 = some ⟨oc8, od8, .func (PySem.W.fnOf "lies_inside" "lies_inside" (defArgs sIns) (defBody sIns) (defScope sIns) .none kV8 dc8 pm8 an8 cd8 ct8), sl8⟩) (c8 : PySem.W.codeIn K cd8 "lies_inside" = true) (k8 : PySem.W.keepIn K (.ref f8) = true)
    (a9 : PySem.W.nsIn K mainGlobals "overlaps" = some (some (.ref f9))) (l9 : K.lookup f9 = some ⟨oc9, od9, .func (PySem.W.fnOf "overlaps" "overlaps" (defArgs sOver) (defBody sOver) (defScope sOver) .none kV9 dc9 pm9 an9 cd9 ct9), sl9⟩) (c9 : PySem.W.codeIn K cd9 "overlaps" = true) (k9 : PySem.W.keepIn K (.ref f9) = true)
    (g1 : PySem.W.nsIn K mainGlobals "GREATEST_SIZE" = some (some (.int 6 t1))) (g2 : PySem.W.nsIn K mainGlobals "OUT_OF_RANGE" = some (some (.int (-22) t2))) (g3 : PySem.W.nsIn K mainGlobals "GREATEST_COORDINATE" = some (some (.int 7 t3))) (g4 : PySem.W.nsIn K mainGlobals "NO_VALID_ARRANGEMENT" = some (some (.int (-33) t4))) (z1 : PySem.W.nsIn K mainGlobals "len" = some none) (z2 : PySem.W.nsIn K mainGlobals "all" = some none) (z3 : PySem.W.nsIn K mainGlobals "any" = some none) (z4 : PySem.W.nsIn K mainGlobals "range" = some none) :
    ∃ fd : FuncData, (∀ (s : Shared) (us : List Value), us.length = (["width", "height", "length", "bars"] : List Str).length → BindsTo s fd ⟨us, []⟩ ((["width", "height", "length", "bars"] : List Str).zip us)) ∧
      ∀ base : Heap, K.In base → base.Ns mainGlobals mg → FnOk P w K mg base CX0 3 fa fd ["width", "height", "length", "bars"] (spFree K) := by
  have e := hfa.symm.trans (PySem.W.mg_of X G a1)
  cases e
  have F1 := fun_mk (st := sFree) l1 c1 k1
  have F2 := fun_mk (st := sSizes) l2 c2 k2
  have F3 := fun_mk (st := sForm) l3 c3 k3
  have F4 := fun_mk (st := sArr) l4 c4 k4
  have F5 := fun_mk (st := sLayer) l5 c5 k5
  have F6 := fun_mk (st := sUnc) l6 c6 k6
  have F7 := fun_mk (st := sBar) l7 c7 k7
  have F8 := fun_mk (st := sIns) l8 c8 k8
  have F9 := fun_mk (st := sOver) l9 c9 k9
  have b2 := F2.binds (ps := ["width", "height", "length"]) fun _ _ _ _ _ _ us hl => match us, hl with | [_, _, _], _ => rfl
  have b3 := F3.binds (ps := ["bars"]) fun _ _ _ _ _ _ us hl => match us, hl with | [_], _ => rfl
  have b4 := F4.binds (ps := ["width", "height", "length", "bars"]) fun _ _ _ _ _ _ us hl => match us, hl with | [_, _, _, _], _ => rfl
  have b5 := F5.binds (ps := ["width", "height"]) fun _ _ _ _ _ _ us hl => match us, hl with | [_, _], _ => rfl
  have b6 := F6.binds (ps := ["width", "height", "covered"]) fun _ _ _ _ _ _ us hl => match us, hl with | [_, _, _], _ => rfl
  have b7 := F7.binds (ps := ["x", "y", "direction", "length"]) fun _ _ _ _ _ _ us hl => match us, hl with | [_, _, _, _], _ => rfl
  have b8 := F8.binds (ps := ["width", "height", "squares"]) fun _ _ _ _ _ _ us hl => match us, hl with | [_, _, _], _ => rfl
  have b9 := F9.binds (ps := ["squares", "covered"]) fun _ _ _ _ _ _ us hl => match us, hl with | [_, _], _ => rfl
  refine ⟨PySem.W.fnOf "free_squares" "free_squares" (defArgs sFree) (defBody sFree) (defScope sFree) .none kV1 dc1 pm1 an1 cd1 ct1, fun s us hu => match us, hu with | [_, _, _, _], _ => .of_eq rfl, fun base _ _ => ?_⟩
  have ml := PySem.W.mg_none_of X G z1
  have ma := PySem.W.mg_none_of X G z2
  have mn := PySem.W.mg_none_of X G z3
  have mr := PySem.W.mg_none_of X G z4
  have GZ := ok_sizes (P := P) (w := w) (base := base) F2 ma (PySem.W.mg_of X G g1)
  have GF := ok_form (P := P) (w := w) (base := base) F3 ml ma (PySem.W.mg_of X G g3)
  have GL := ok_layer (P := P) (w := w) (base := base) F5 mr
  have GU := ok_unc (P := P) (w := w) (base := base) F6 GL b5 k5 (PySem.W.mg_of X G a5)
  have GB := ok_bar (P := P) (w := w) (base := base) F7 mr
  have GI := ok_ins (P := P) (w := w) (base := base) F8 ma
  have GO := ok_over (P := P) (w := w) (base := base) F9 mn
  have GA := ok_arr (P := P) (w := w) (base := base) F4 mr ml GB b7 k7 (PySem.W.mg_of X G a7) GI b8 k8 (PySem.W.mg_of X G a8) GO b9 k9 (PySem.W.mg_of X G a9)
  exact ok_free F1 GZ b2 k2 (PySem.W.mg_of X G a2) GF b3 k3 (PySem.W.mg_of X G a3) GA b4 k4 (PySem.W.mg_of X G a4) GU b6 k6 (PySem.W.mg_of X G a6) (PySem.W.mg_of X G g2) (PySem.W.mg_of X G g4) ml
end LB
open PySem PySem.W PyProof.Rows
set_option maxRecDepth 100000 in
set_option maxHeartbeats 8000000 in
theorem PySem.Challenge.cw_layerbars_s07_free_squares_holds : PySem.Challenge.rw_layerbars_s07_free_squares.Holds := by
  w_on; k_headS; (case hw => exact ⟨[.int 1, .int 1, .int 1, .list []], by decide +kernel, by decide +kernel⟩)
  k_fillS
  refine L2.walk_specK (r := PySem.Challenge.rw_layerbars_s07_free_squares) (k := 3) (CX := L2.CX0) (ps := ["width", "height", "length", "bars"]) (sp := LB.spFree) (by decide +kernel) rfl rfl ⟨rfl, by decide, by decide⟩ (fun w h Y => PySem.W.kIn_of Y) ?F ?S (fun _ _ _ _ z => z)
  case F =>
    intro w mg fa h Y KX G hmg
    refine' LB.all_mk KX G hmg ?a1 ?l1 ?c1 ?k1 ?a2 ?l2 ?c2 ?k2 ?a3 ?l3 ?c3 ?k3 ?a4 ?l4 ?c4 ?k4 ?a5 ?l5 ?c5 ?k5 ?a6 ?l6 ?c6 ?k6 ?a7 ?l7 ?c7 ?k7 ?a8 ?l8 ?c8 ?k8 ?a9 ?l9 ?c9 ?k9 ?g1 ?g2 ?g3 ?g4 ?z1 ?z2 ?z3 ?z4
    (case a1 => k_is); (case l1 => k_is); (case c1 => k_is); (case k1 => k_is)
    (case a2 => k_is); (case l2 => k_is); (case c2 => k_is); (case k2 => k_is)
    (case a3 => k_is); (case l3 => k_is); (case c3 => k_is); (case k3 => k_is)
    (case a4 => k_is); (case l4 => k_is); (case c4 => k_is); (case k4 => k_is)
    (case a5 => k_is); (case l5 => k_is); (case c5 => k_is); (case k5 => k_is)
    (case a6 => k_is); (case l6 => k_is); (case c6 => k_is); (case k6 => k_is)
    (case a7 => k_is); (case l7 => k_is); (case c7 => k_is); (case k7 => k_is)
    (case a8 => k_is); (case l8 => k_is); (case c8 => k_is); (case k8 => k_is)
    (case a9 => k_is); (case l9 => k_is); (case c9 => k_is); (case k9 => k_is)
    (case g1 => k_is); (case g2 => k_is); (case g3 => k_is); (case g4 => k_is)
    (case z1 => k_is); (case z2 => k_is); (case z3 => k_is); (case z4 => k_is)
  case S =>
    intro K H xs a hO hwi hask hx
    obtain ⟨x, y, n, ns, u⟩ := a
    cases hx with
    | cons h1 r1 =>
      cases r1 with
      | cons h2 r2 =>
        cases r2 with
        | cons h3 r3 =>
          cases r3 with
          | cons h4 r4 =>
            cases r4
            cases h1
            cases h2
            cases h3
            cases h4 with
            | lst hs ha =>
              have e := L2.ints_dw ns _ ha
              subst e
              have q : (Codec.inInt 0 4294967295 x && (Codec.inInt 0 4294967295 y && (Codec.inInt 0 4294967295 n && ((Codec.inLen 0 60 ns && ns.all (Codec.inInt 0 4294967295)) && true)))) = true := hwi
              simp only [Bool.and_eq_true, Bool.and_true] at q
              obtain ⟨q1, q2, q3, q4, q5⟩ := q
              simp only [Bool.and_eq_true, Codec.inInt, decide_eq_true_eq] at q1 q2 q3
              have nn : ∀ i ∈ ns, 0 ≤ i := fun i hi => by
                have z := List.all_eq_true.mp q5 i hi
                simp only [Bool.and_eq_true, Codec.inInt, decide_eq_true_eq] at z
                exact z.1
              exact ⟨x, y, n, _, ns, rfl, q1.1, q2.1, q3.1, hs, (Codec.inNat_iff.mp q4).2, nn, fun H' p hp => .lst (L2.SqL.of hp) (L2.dw_ints _)⟩
#print axioms PySem.Challenge.cw_layerbars_s07_free_squares_holds
