/- What keeps the code is of few orders: five places may be taken to any five, seven tell all, and those with 0 to 1 to 2 to 3 to 4 are 960. No program is named here. -/
import Derived.Test.YtakefnfhjiodnaaDoorM32
import Derived.Test.YtakefnfhjiodnaaDoorM14
namespace Go.Proofs.YtakefnfhjiodnaaDoor
set_option linter.unusedVariables false

def decP (n : Nat) : List Nat := (List.range 24).map fun i => n / 32 ^ i % 32
def tr0 : List Nat := [
  984818244535754528103549039458486304,
  727676631497327073735880915801966593,
  810750521196102322729417780687373314,
  940765836121024518793879488288588803,
  930125494120438601888793841793827844,
  889966443107906409110527883271537669,
  648644713414381618967243150662370310,
  776787831846492591121855233030947847,
  805748529483115262070517741239993352,
  765467704900931044658647857714234377,
  652412174475135181041107673778553866,
  897503897171004531076606401119847435,
  966547626170834317594540464718021644,
  926266801588650100182670581192262669,
  481228474166816711235009103640200206,
  736380281620141743856269082303202319,
  483501298381389687629843103606703120,
  443220473799205470217973220080944145,
  974010367850573292089153120734610450,
  555136496554367591464409260843140115,
  644300395069108743153865827084731412,
  604019570486924525741995943558972437,
  802826667542254822283054550596256790,
  394012881003504804244071942026494999]
def tr1 : List Nat := [
  984818244535754528103549039458486304,
  558796292865298251285157408185353280,
  560053967027487615188131629236290656,
  801505508576254007280386513680008320,
  718473129048993616299318190120436896,
  970409776164733728091578017187431616,
  595391774909312977268283552729990368,
  920923114575185641762863286972384512,
  962503320637816096262422651298972960,
  716108762387635286939948810897524032,
  590085231153008927263320710025643360,
  754612421625935890304325487812478336,
  796192627688566344803884852139066784,
  882094936773545760093590588933342656,
  424088915252509386989211316827260384,
  588930482774186561214644500575618560,
  630510688836817015714203864902207008,
  383487376489135784022873212577711680,
  922057579924829873570604266097280608,
  422619789824936809756106701415712384,
  464199995887567264255666065742300832,
  549473550875046257176514990613530304,
  756061264024330333296494872898897632]
def tr2 : List Nat := [
  984818244535754528103549039458486304,
  773064942862715753597327394943863840,
  433212879719753606762064365336203296,
  431795609211743902082081697674892320,
  395128581598158779494490566586079264,
  483552389232315089565826675129785376,
  266820950364445558733709816657682464,
  265483538130430223060530846663517216,
  234163572166950985938139998038599712,
  312368970861251427973321466525592608,
  261785995679916940830189898353946656,
  260448583445901605157010928359781408,
  228813933124436310572497041752143904,
  317393774437457610322451940242439200,
  276870557516857923431970764091375648,
  275533145282842587758791794097210400,
  224093662797893750131100161431128096,
  301669692776222077242035553952680992,
  271835602832329305528450845787639840,
  270498190598313969855271875793474592,
  218744023755379074765457205144672288,
  306694496352428259591166027669527584]
def tr3 : List Nat := [
  984818244535754528103549039458486304,
  735171958573087400342977539512338464,
  816951862017891989842941196685707296,
  933745739331925744704805502335518752,
  563757987373572149079531834110609440,
  980345720682839571435194176284919840,
  937510499598970732861894892513953824,
  808972311902851651555381392000223264,
  567485984535346040512895961322063904,
  819379289159435909947403185776101408,
  776544068075567071374103902005135392,
  969928285308793985417363104176998432,
  396145417102849032060906058492119072,
  637664585817845554531214370625030176,
  594829364733976715957915086854064160,
  487039448856044328579799410982586400,
  889397931347230708236859385675614240,
  476698154294441893043423380116211744,
  433862933210573054470124096345245728,
  647995422261986662441781123159361568,
  718057363914733699784869482845669408]
def tr4 : List Nat := [
  984818244535754528103549039458486304,
  858949331863002823319395354394331168,
  518477638156752218619633837570885664,
  688772185355366875112981851452573728,
  731567130415172208020888424978417696,
  688772552140695295013687323043924000,
  518477395401051228793244886381987872,
  858949207833375392798787489894598688,
  903080093058232261904491866396657696,
  860285514783755348897290764462164000,
  346964432757679194350495115916707872,
  687435918054988551196529656729798688,
  388540550858398524816372758648817696,
  345745972583921611809171656714324000,
  861503320687171336560451769218467872,
  515923282546631323913287948964038688,
  560053513501458578699976200067057696,
  517258935226981665692775098132564000,
  689990358043799302117701998753187872,
  344409992768244482311030115799238688]
def tr5 : List Nat := [
  984818244535754528103549039458486304,
  599036795462628385207956410495764512,
  731566766103196255771554168461953056]
def tr6 : List Nat := [
  984818244535754528103549039458486304,
  944538608299847986500403404283676704,
  899228929685213603604377143448012832,
  858949293449307062001231508273203232,
  813305281892382493809563050358966304,
  773025645656475952206417415184156704,
  727715967041841569310391154348492832,
  687436330805935027707245519173683232,
  641791664978980845196560935860406304,
  601512028743074303593415300685596704,
  556202350128439920697389039849932832,
  515922713892533379094243404675123232,
  470278702335608810902574946760886304,
  429999066099702269299429311586076704,
  384689387485067886403403050750412832,
  344409751249161344800257415575603232]
def g00 : Nat := 653402313742794741222546576853044289
def fixSteps : List (Nat × Nat) := [(3855, 13107), (255, 197525), (255, 255), (3855, 5244307), (3855, 3855), (2392343, 8552999), (52275, 52275), (21845, 21845), (61455, 61455), (2392343, 1315879), (2392343, 2392343), (1315879, 1315879), (1589783, 1589783), (8917383, 8917383), (15728655, 15728655), (8463383, 8463383), (983055, 983055)]

/-! ### Places that stay -/
def Fixes (P : List Nat) (k : Nat) : Prop := ∀ i, i < 24 → k.testBit i = true → P.getD i 0 = i
def isOc (A : Nat) : Bool := decide (A < 16777216) && (syn A == 0 && pop A == 8)
def fixOne (k : Nat) (x : Nat × Nat) : Nat :=
  if isOc x.1 && isOc x.2 && decide (5 ≤ pop (x.1 &&& k)) && decide (5 ≤ pop (x.2 &&& k)) && (pop ((x.1 &&& x.2) &&& (16777215 ^^^ k)) == 1) then k ||| (x.1 &&& x.2) else k
theorem pop_le_of {a b : Nat} (h : ∀ q, q < 24 → a.testBit q = true → b.testBit q = true) : pop a ≤ pop b := by
  unfold pop
  rw [popN_cnt, popN_cnt]
  exact List.countP_mono_left fun q hq => h q (List.mem_range.1 hq)
/-- The octad with five places that stay stays. -/
theorem octad_stays {P : List Nat} (hP : PermN P) (hK : KeepsN P) (A T : Nat) (hA : isOc A = true) (h5 : 5 ≤ pop (A &&& T)) (hT : ∀ q, q < 24 → (A &&& T).testBit q = true → (movN P A).testBit q = true) : movN P A = A := by
  simp only [isOc, Bool.and_eq_true, decide_eq_true_eq, beq_iff_eq] at hA
  obtain ⟨h1, h2, h3⟩ := hA
  have hM := movN_lt hP A
  have hs : syn (A ^^^ movN P A) = 0 := by rw [syn_xor, h2, hK.word A h1 h2]; rfl
  have hx := pop_xor A (movN P A)
  rw [pop_mov hP, h3] at hx
  have hle : pop (A &&& T) ≤ pop (A &&& movN P A) := by
    refine pop_le_of fun q hq hb => ?_
    have h6 := hT q hq hb
    rw [Nat.testBit_and, Bool.and_eq_true] at hb
    rw [Nat.testBit_and, Bool.and_eq_true]
    exact ⟨hb.1, h6⟩
  have hc := in_code (A ^^^ movN P A) (Nat.xor_lt_two_pow (n := 24) h1 hM) hs
  have hm := msg_lt (A ^^^ movN P A)
  have hw := code_weights ⟨_, hm⟩
  have h0 : pop (cN (lin gM (A ^^^ movN P A))) = 0 := by
    rw [← hc]
    have hw1 := hw.1
    rw [show (⟨lin gM (A ^^^ movN P A), hm⟩ : Fin 4096).val = lin gM (A ^^^ movN P A) from rfl, ← hc] at hw1
    simp only [wts, Bool.or_eq_true, beq_iff_eq] at hw1
    omega
  have hz : lin gM (A ^^^ movN P A) = 0 := hw.2 h0
  rw [hz] at hc
  have hc0 : cN 0 = 0 := lin_zero gB
  rw [hc0] at hc
  have := congrArg (· ^^^ movN P A) hc
  simp only [Nat.xor_assoc, Nat.xor_self, Nat.xor_zero, Nat.zero_xor] at this
  exact this.symm
theorem Fixes.mov {P : List Nat} {k : Nat} (h : Fixes P k) (hP : PermN P) (A q : Nat) (hq : q < 24) (hk : k.testBit q = true) : (movN P A).testBit q = A.testBit q := by
  have := movN_bit hP A q hq
  rwa [h q hq hk] at this
theorem Fixes.octad {P : List Nat} {k : Nat} (h : Fixes P k) (hP : PermN P) (hK : KeepsN P) (A : Nat) (hA : isOc A = true) (h5 : 5 ≤ pop (A &&& k)) : movN P A = A :=
  octad_stays hP hK A k hA h5 fun q hq hb => by
    rw [Nat.testBit_and, Bool.and_eq_true] at hb
    rw [h.mov hP A q hq hb.2]
    exact hb.1
theorem pop_one {r : Nat} (h : pop r = 1) (p q : Nat) (hp : p < 24) (hq : q < 24) (h1 : r.testBit p = true) (h2 : r.testBit q = true) : p = q := by
  apply Classical.byContradiction
  intro hne
  unfold pop at h
  rw [popN_cnt, List.countP_eq_length_filter] at h
  have hn : [p, q].Nodup := by simp [hne]
  have := List.Nodup.length_le_of_subset hn (l₂ := (List.range 24).filter fun i => r.testBit i) (fun x hx => by
    simp only [List.mem_cons, List.not_mem_nil, or_false] at hx
    rcases hx with rfl | rfl
    · exact List.mem_filter.2 ⟨List.mem_range.2 hp, h1⟩
    · exact List.mem_filter.2 ⟨List.mem_range.2 hq, h2⟩)
  rw [h] at this
  simp at this
theorem Fixes.one {P : List Nat} {k : Nat} (h : Fixes P k) (hP : PermN P) (hK : KeepsN P) (x : Nat × Nat) : Fixes P (fixOne k x) := by
  unfold fixOne
  split
  · rename_i hc
    simp only [Bool.and_eq_true, decide_eq_true_eq, beq_iff_eq] at hc
    obtain ⟨⟨⟨⟨c1, c2⟩, c3⟩, c4⟩, c5⟩ := hc
    have e1 := h.octad hP hK _ c1 c3
    have e2 := h.octad hP hK _ c2 c4
    intro q hq hb
    by_cases hk : k.testBit q = true
    · exact h q hq hk
    · rw [Nat.testBit_or, Bool.or_eq_true] at hb
      have hab := hb.resolve_left hk
      rw [Nat.testBit_and, Bool.and_eq_true] at hab
      have hones : ∀ j, j < 24 → (16777215 : Nat).testBit j = true := fun j hj => by
        rw [show (16777215 : Nat) = 2 ^ 24 - 1 by decide, Nat.testBit_two_pow_sub_one]; simpa using hj
      have hr : ∀ j, j < 24 → x.1.testBit j = true → x.2.testBit j = true → k.testBit j = false → ((x.1 &&& x.2) &&& (16777215 ^^^ k)).testBit j = true := fun j hj a1 a2 a3 => by
        rw [Nat.testBit_and, Nat.testBit_and, Nat.testBit_xor, a1, a2, a3, hones j hj]; rfl
      have hg := hP.get q hq
      have hk' : k.testBit q = false := by simpa using hk
      refine (pop_one c5 _ _ hq hg (hr q hq hab.1 hab.2 hk') (hr _ hg ?_ ?_ ?_)).symm
      · have := movN_bit hP x.1 q hq
        rw [e1] at this
        rw [this]; exact hab.1
      · have := movN_bit hP x.2 q hq
        rw [e2] at this
        rw [this]; exact hab.2
      · rw [← Bool.not_eq_true]
        intro hb2
        have := h _ hg hb2
        have e := hP.inj hg hq this
        rw [e] at hb2
        exact hk hb2
  · exact h
theorem Fixes.all {P : List Nat} (hP : PermN P) (hK : KeepsN P) : ∀ (L : List (Nat × Nat)) (k : Nat), Fixes P k → Fixes P (L.foldl fixOne k)
  | [], k, h => h
  | x :: L, k, h => Fixes.all hP hK L _ (h.one hP hK x)
set_option maxRecDepth 100000 in
theorem fix_steps : fixSteps.foldl fixOne 319 = 16777215 := by decide +kernel
/-- Seven places tell all. -/
theorem seven_tell {P : List Nat} (hP : PermN P) (hK : KeepsN P) (h : Fixes P 319) : P = idN := by
  have h1 := Fixes.all hP hK fixSteps 319 h
  rw [fix_steps] at h1
  refine listN_ext hP.1 (by simp [idN]) fun i hi => ?_
  rw [idN_get i hi]
  refine h1 i hi ?_
  rw [show (16777215 : Nat) = 2 ^ 24 - 1 by decide, Nat.testBit_two_pow_sub_one]
  simpa using hi

/-! ### The takers -/
def keepsBN (P : List Nat) : Bool := (List.range 12).all fun k => syn (movN P (cN (2 ^ k))) == 0
def permBN (P : List Nat) : Bool := P.length == 24 && (decide P.Nodup && P.all fun x => decide (x < 24))
def okU (pre : List Nat) (b q n : Nat) : Bool := permBN (decP n) && (keepsBN (decP n) && ((pre.all fun k => (decP n).getD k 0 == k) && (decP n).getD b 0 == q))
theorem permBN_iff (P : List Nat) : permBN P = true ↔ PermN P := by
  simp [permBN, PermN]
theorem keepsBN_iff (P : List Nat) : keepsBN P = true ↔ KeepsN P := by
  simp [keepsBN, KeepsN]
theorem okU_is {pre : List Nat} {b q n : Nat} (h : okU pre b q n = true) : PermN (decP n) ∧ KeepsN (decP n) ∧ (∀ k ∈ pre, (decP n).getD k 0 = k) ∧ (decP n).getD b 0 = q := by
  unfold okU at h
  rw [Bool.and_eq_true, Bool.and_eq_true, Bool.and_eq_true, permBN_iff, keepsBN_iff, List.all_eq_true, beq_iff_eq] at h
  exact ⟨h.1, h.2.1, fun k hk => by simpa using h.2.2.1 k hk, h.2.2.2⟩
set_option maxRecDepth 100000 in
theorem tr0_ok : ∀ q : Fin 24, okU [] 0 q.val (tr0.getD q.val 0) = true := by decide +kernel
set_option maxRecDepth 100000 in
theorem tr1_ok : ∀ q : Fin 23, okU [0] 1 (q.val + 1) (tr1.getD q.val 0) = true := by decide +kernel
set_option maxRecDepth 100000 in
theorem tr2_ok : ∀ q : Fin 22, okU [0, 1] 2 (q.val + 2) (tr2.getD q.val 0) = true := by decide +kernel
set_option maxRecDepth 100000 in
theorem tr3_ok : ∀ q : Fin 21, okU [0, 1, 2] 3 (q.val + 3) (tr3.getD q.val 0) = true := by decide +kernel
set_option maxRecDepth 100000 in
theorem tr4_ok : ∀ q : Fin 20, okU [0, 1, 2, 3] 4 (q.val + 4) (tr4.getD q.val 0) = true := by decide +kernel
set_option maxRecDepth 100000 in
theorem tr5_ok : ∀ q : Fin 3, okU [0, 1, 2, 3, 4] 5 (q.val + 5) (tr5.getD q.val 0) = true := by decide +kernel
set_option maxRecDepth 100000 in
theorem tr6_ok : ∀ q : Fin 16, okU [0, 1, 2, 3, 4, 5] 8 (q.val + 8) (tr6.getD q.val 0) = true := by decide +kernel
set_option maxRecDepth 100000 in
theorem g00_ok : okU [] 0 1 g00 = true ∧ (decP g00).getD 1 0 = 2 ∧ (decP g00).getD 2 0 = 3 ∧ (decP g00).getD 3 0 = 4 := by decide +kernel
/-- A taker at each of the first five levels. -/
theorem taker (j q : Nat) (hj : j < 5) (hq : j ≤ q) (hq2 : q < 24) : ∃ U, PermN U ∧ KeepsN U ∧ (∀ k, k < j → U.getD k 0 = k) ∧ U.getD j 0 = q := by
  have hj' : j = 0 ∨ j = 1 ∨ j = 2 ∨ j = 3 ∨ j = 4 := by omega
  rcases hj' with rfl | rfl | rfl | rfl | rfl
  · obtain ⟨a, b, c, d⟩ := okU_is (tr0_ok ⟨q, by omega⟩)
    exact ⟨_, a, b, fun k hk => by omega, d⟩
  · obtain ⟨a, b, c, d⟩ := okU_is (tr1_ok ⟨q - 1, by omega⟩)
    exact ⟨_, a, b, fun k hk => c k (by simp; omega), by rw [d]; show q - 1 + 1 = q; omega⟩
  · obtain ⟨a, b, c, d⟩ := okU_is (tr2_ok ⟨q - 2, by omega⟩)
    exact ⟨_, a, b, fun k hk => c k (by simp; omega), by rw [d]; show q - 2 + 2 = q; omega⟩
  · obtain ⟨a, b, c, d⟩ := okU_is (tr3_ok ⟨q - 3, by omega⟩)
    exact ⟨_, a, b, fun k hk => c k (by simp; omega), by rw [d]; show q - 3 + 3 = q; omega⟩
  · obtain ⟨a, b, c, d⟩ := okU_is (tr4_ok ⟨q - 4, by omega⟩)
    exact ⟨_, a, b, fun k hk => c k (by simp; omega), by rw [d]; show q - 4 + 4 = q; omega⟩
theorem KeepsN.turn {P : List Nat} (hP : PermN P) (h : KeepsN P) : KeepsN (turnN P) := by
  refine keepsN_iff.2 fun v hv hs => ?_
  have hM := movN_lt (turnN_perm hP) v
  have hsplit := word_split (movN (turnN P) v) hM
  -- the moved words of the code are all words of the code: counted by what is moved back
  have hsurj : ∃ u, u < 16777216 ∧ syn u = 0 ∧ movN P u = v := by
    have hnd : ((List.range 4096).map fun m => movN P (cN m)).Nodup := by
      refine List.nodup_iff_pairwise_ne.2 (List.pairwise_iff_getElem.2 fun a b ha hb hab e => ?_)
      have ha' : a < 4096 := by simpa using ha
      have hb' : b < 4096 := by simpa using hb
      simp only [List.getElem_map, List.getElem_range] at e
      have e2 := congrArg (movN (turnN P)) e
      rw [mov_turn hP _ (cN_lt _), mov_turn hP _ (cN_lt _)] at e2
      have e3 := congrArg (lin gM) e2
      rw [msg_cN a ha', msg_cN b hb'] at e3
      omega
    apply Classical.byContradiction
    intro hno
    have hnd2 : (v :: (List.range 4096).map fun m => movN P (cN m)).Nodup := by
      refine List.nodup_cons.2 ⟨fun hm => ?_, hnd⟩
      obtain ⟨m, hm1, hm2⟩ := List.mem_map.1 hm
      exact hno ⟨cN m, cN_lt m, syn_cN m, hm2⟩
    have := List.Nodup.length_le_of_subset hnd2 (l₂ := (List.range 4096).map cN) (fun x hx => by
      rcases List.mem_cons.1 hx with rfl | hx
      · exact List.mem_map.2 ⟨lin gM x, List.mem_range.2 (msg_lt x), (in_code x hv hs).symm⟩
      · obtain ⟨m, hm1, rfl⟩ := List.mem_map.1 hx
        exact List.mem_map.2 ⟨lin gM (movN P (cN m)), List.mem_range.2 (msg_lt _), (in_code _ (movN_lt hP _) (h.all m)).symm⟩)
    simp at this
  obtain ⟨u, hu, hs0, e⟩ := hsurj
  rw [← e, mov_turn hP u hu]
  exact hs0
/-- Five different places are taken to by one that keeps the code. -/
theorem five_to (a : Nat → Nat) (ha : ∀ k, k < 5 → a k < 24) (hd : ∀ i j, i < 5 → j < 5 → a i = a j → i = j) : ∀ n, n ≤ 5 → ∃ Q, PermN Q ∧ KeepsN Q ∧ ∀ k, k < n → Q.getD k 0 = a k
  | 0, _ => ⟨idN, idN_perm, keeps_id, fun k hk => by omega⟩
  | n + 1, hn => by
    obtain ⟨Q, hQ, hK, hv⟩ := five_to a ha hd n (by omega)
    have hc := idx_lt hQ (a n) (ha n (by omega))
    have hcn : n ≤ Q.idxOf (a n) := by
      apply Classical.byContradiction
      intro hlt
      have e := hv _ (show Q.idxOf (a n) < n by omega)
      rw [get_idx hQ _ (ha n (by omega))] at e
      have := hd _ _ (by omega) (by omega) e
      omega
    obtain ⟨U, hU, hKU, hfix, hto⟩ := taker n _ (by omega) hcn hc
    refine ⟨thenN U Q, thenN_perm hU hQ, KeepsN.then_ hU hQ hKU hK, fun k hk => ?_⟩
    rw [thenN_get _ _ (by rw [hU.1]; omega)]
    by_cases hkn : k = n
    · subst hkn
      rw [hto, get_idx hQ _ (ha k (by omega))]
    · rw [hfix k (by omega)]
      exact hv k (by omega)
theorem then_assoc_get {A B C : List Nat} (hA : PermN A) (hB : PermN B) : thenN (thenN A B) C = thenN A (thenN B C) := by
  unfold thenN
  rw [List.map_map]
  refine List.map_congr_left fun x hx => ?_
  have : x < B.length := by rw [hB.1]; exact hA.2.2 x hx
  simp [this]
theorem then_id {A : List Nat} (hA : PermN A) : thenN A idN = A := by
  refine listN_ext (by rw [thenN_len]; exact hA.1) hA.1 fun i hi => ?_
  rw [thenN_get _ i (by rw [hA.1]; exact hi), idN_get _ (hA.get i hi)]
theorem id_then {A : List Nat} (hA : A.length = 24) : thenN idN A = A := by
  refine listN_ext (by rw [thenN_len]; simp [idN]) hA fun i hi => ?_
  rw [thenN_get _ i (by simp [idN]; exact hi), idN_get i hi]
/-- To take a permutation off at the end, and on again. -/
theorem off_on {P U : List Nat} (hP : PermN P) (hU : PermN U) : thenN (thenN P (turnN U)) U = P := by
  rw [then_assoc_get hP (turnN_perm hU), turn_then hU, then_id hP]
theorem off_get {P U : List Nat} (hP : PermN P) (hU : PermN U) (i j : Nat) (hi : i < 24) (hj : j < 24) (e : P.getD i 0 = U.getD j 0) : (thenN P (turnN U)).getD i 0 = j := by
  rw [thenN_get _ i (by rw [hP.1]; exact hi), e, turnN_get _ (hU.get j hj), idx_get hU j hj]
def ordersL : List Nat := [8, 10, 11, 12, 14, 15, 21, 23]
def okOrd (P : List Nat) : Bool := ordersL.any fun n => (rawC P).all fun c => n % c == 0
set_option maxRecDepth 100000 in
theorem all_960 : ∀ a : Fin 16, ∀ b : Fin 3, ∀ c : Fin 20, okOrd (thenN (thenN (thenN (decP (tr6.getD a.val 0)) (decP (tr5.getD b.val 0))) (decP (tr4.getD c.val 0))) (decP g00)) = true := by decide +kernel
theorem okOrd_is {P : List Nat} (hP : PermN P) (h : okOrd P = true) : ∃ n, n ∈ ordersL ∧ ∀ i, i < 24 → itN P n i = i := by
  unfold okOrd at h
  rw [List.any_eq_true] at h
  obtain ⟨n, hn, h2⟩ := h
  rw [List.all_eq_true] at h2
  refine ⟨n, hn, fun i hi => (ord_dvd hP i n hi).2 ?_⟩
  have := h2 (ordI P i) ((rawC_mem hP _).2 ⟨i, hi, rfl⟩)
  exact Nat.dvd_of_mod_eq_zero (by simpa using this)
theorem fix_bits {P : List Nat} (k : Nat) (L : List Nat) (h : ∀ i ∈ L, P.getD i 0 = i) (hk : ∀ i : Fin 24, k.testBit i.val = true → i.val ∈ L) : Fixes P k :=
  fun i hi hb => h i (hk ⟨i, hi⟩ hb)
/-- What takes 0 to 1 to 2 to 3 to 4. -/
theorem chain_ord {P : List Nat} (hP : PermN P) (hK : KeepsN P) (h0 : P.getD 0 0 = 1) (h1 : P.getD 1 0 = 2) (h2 : P.getD 2 0 = 3) (h3 : P.getD 3 0 = 4) : ∃ n, n ∈ ordersL ∧ ∀ i, i < 24 → itN P n i = i := by
  obtain ⟨hG, hKG, _, g0⟩ := okU_is g00_ok.1
  obtain ⟨_, g1, g2, g3⟩ := g00_ok
  -- off the chain
  obtain ⟨H, hHe⟩ : ∃ H, thenN P (turnN (decP g00)) = H := ⟨_, rfl⟩
  have hH : PermN H := hHe ▸ thenN_perm hP (turnN_perm hG)
  have hKH : KeepsN H := hHe ▸ KeepsN.then_ hP (turnN_perm hG) hK (KeepsN.turn hG hKG)
  have eP : thenN H (decP g00) = P := hHe ▸ off_on hP hG
  have f0 : H.getD 0 0 = 0 := hHe ▸ off_get hP hG 0 0 (by omega) (by omega) (h0.trans g0.symm)
  have f1 : H.getD 1 0 = 1 := hHe ▸ off_get hP hG 1 1 (by omega) (by omega) (h1.trans g1.symm)
  have f2 : H.getD 2 0 = 2 := hHe ▸ off_get hP hG 2 2 (by omega) (by omega) (h2.trans g2.symm)
  have f3 : H.getD 3 0 = 3 := hHe ▸ off_get hP hG 3 3 (by omega) (by omega) (h3.trans g3.symm)
  clear hHe
  -- the place 4
  have hge : ∀ {Q : List Nat} (hQ : PermN Q) (n b : Nat), n ≤ b → b < 24 → (∀ k, k < n → Q.getD k 0 = k) → n ≤ Q.getD b 0 := by
    intro Q hQ n b hnb hb hf
    apply Classical.byContradiction
    intro hlt
    have := hQ.inj (hQ.get b hb) hb (hf _ (by omega))
    omega
  have hfH : ∀ k, k < 4 → H.getD k 0 = k := fun k hk => by
    have : k = 0 ∨ k = 1 ∨ k = 2 ∨ k = 3 := by omega
    rcases this with rfl | rfl | rfl | rfl <;> assumption
  have q4 := hge hH 4 4 (by omega) (by omega) hfH
  have q4' := hH.get 4 (by omega)
  obtain ⟨c, hc⟩ : ∃ c : Fin 20, H.getD 4 0 = c.val + 4 := ⟨⟨H.getD 4 0 - 4, by omega⟩, by show _ = H.getD 4 0 - 4 + 4; omega⟩
  obtain ⟨hU, hKU, fU, tU⟩ := okU_is (tr4_ok c)
  generalize hU4 : decP (tr4.getD c.val 0) = U at *
  obtain ⟨H1, hHe⟩ : ∃ H1, thenN H (turnN U) = H1 := ⟨_, rfl⟩
  have hH1 : PermN H1 := hHe ▸ thenN_perm hH (turnN_perm hU)
  have hKH1 : KeepsN H1 := hHe ▸ KeepsN.then_ hH (turnN_perm hU) hKH (KeepsN.turn hU hKU)
  have eH : thenN H1 U = H := hHe ▸ off_on hH hU
  have hfH1 : ∀ k, k < 5 → H1.getD k 0 = k := fun k hk => by
    rw [← hHe]
    by_cases hk4 : k = 4
    · subst hk4
      exact off_get hH hU 4 4 (by omega) (by omega) (hc.trans tU.symm)
    · exact off_get hH hU k k (by omega) (by omega) ((hfH k (by omega)).trans (fU k (by simp; omega)).symm)
  clear hHe
  -- the octad of the first two columns
  have hO : movN H1 255 = 255 := by
    have hF : Fixes H1 31 := fix_bits 31 [0, 1, 2, 3, 4] (fun i hi => hfH1 i (by simp at hi; omega)) (by decide)
    exact hF.octad hH1 hKH1 255 (by decide +kernel) (by decide +kernel)
  have hOb : ∀ i, i < 24 → (255 : Nat).testBit (H1.getD i 0) = (255 : Nat).testBit i := fun i hi => by
    have := movN_bit hH1 255 i hi
    rwa [hO] at this
  have h255 : ∀ i : Fin 24, (255 : Nat).testBit i.val = decide (i.val < 8) := by decide
  have q5 := hge hH1 5 5 (by omega) (by omega) hfH1
  have q5' := hH1.get 5 (by omega)
  have q5b : H1.getD 5 0 < 8 := by
    have h6 := hOb 5 (by omega)
    rw [h255 ⟨_, q5'⟩, h255 ⟨5, by omega⟩] at h6
    simpa using h6
  obtain ⟨b, hb⟩ : ∃ b : Fin 3, H1.getD 5 0 = b.val + 5 := ⟨⟨H1.getD 5 0 - 5, by omega⟩, by show _ = H1.getD 5 0 - 5 + 5; omega⟩
  obtain ⟨hV, hKV, fV, tV⟩ := okU_is (tr5_ok b)
  generalize hV5 : decP (tr5.getD b.val 0) = V at *
  obtain ⟨H2, hHe⟩ : ∃ H2, thenN H1 (turnN V) = H2 := ⟨_, rfl⟩
  have hH2 : PermN H2 := hHe ▸ thenN_perm hH1 (turnN_perm hV)
  have hKH2 : KeepsN H2 := hHe ▸ KeepsN.then_ hH1 (turnN_perm hV) hKH1 (KeepsN.turn hV hKV)
  have eH1 : thenN H2 V = H1 := hHe ▸ off_on hH1 hV
  have hfH2 : ∀ k, k < 6 → H2.getD k 0 = k := fun k hk => by
    rw [← hHe]
    by_cases hk5 : k = 5
    · subst hk5
      exact off_get hH1 hV 5 5 (by omega) (by omega) (hb.trans tV.symm)
    · exact off_get hH1 hV k k (by omega) (by omega) ((hfH1 k (by omega)).trans (fV k (by simp; omega)).symm)
  clear hHe
  have hO2 : movN H2 255 = 255 := by
    have hF : Fixes H2 31 := fix_bits 31 [0, 1, 2, 3, 4] (fun i hi => hfH2 i (by simp at hi; omega)) (by decide)
    exact hF.octad hH2 hKH2 255 (by decide +kernel) (by decide +kernel)
  have q8' := hH2.get 8 (by omega)
  have q8b : 8 ≤ H2.getD 8 0 := by
    have := movN_bit hH2 255 8 (by omega)
    rw [hO2, h255 ⟨_, q8'⟩, h255 ⟨8, by omega⟩] at this
    simpa using this
  obtain ⟨a, ha⟩ : ∃ a : Fin 16, H2.getD 8 0 = a.val + 8 := ⟨⟨H2.getD 8 0 - 8, by omega⟩, by show _ = H2.getD 8 0 - 8 + 8; omega⟩
  obtain ⟨hW, hKW, fW, tW⟩ := okU_is (tr6_ok a)
  generalize hW6 : decP (tr6.getD a.val 0) = W at *
  obtain ⟨H3, hHe⟩ : ∃ H3, thenN H2 (turnN W) = H3 := ⟨_, rfl⟩
  have hH3 : PermN H3 := hHe ▸ thenN_perm hH2 (turnN_perm hW)
  have hKH3 : KeepsN H3 := hHe ▸ KeepsN.then_ hH2 (turnN_perm hW) hKH2 (KeepsN.turn hW hKW)
  have eH2 : thenN H3 W = H2 := hHe ▸ off_on hH2 hW
  have hfH3 : ∀ k, k < 6 → H3.getD k 0 = k := fun k hk => by
    rw [← hHe]
    exact off_get hH2 hW k k (by omega) (by omega) ((hfH2 k hk).trans (fW k (by simp; omega)).symm)
  have h38 : H3.getD 8 0 = 8 := by
    rw [← hHe]
    exact off_get hH2 hW 8 8 (by omega) (by omega) (ha.trans tW.symm)
  clear hHe
  have hid : H3 = idN := seven_tell hH3 hKH3 (fix_bits 319 [0, 1, 2, 3, 4, 5, 8] (fun i hi => by
    by_cases h8 : i = 8
    · subst h8; exact h38
    · exact hfH3 i (by simp at hi; omega)) (by decide))
  have hall := all_960 a b c
  rw [hW6, hV5, hU4] at hall
  rw [hid, id_then hW.1] at eH2
  rw [eH2, eH1, eH, eP] at hall
  exact okOrd_is hP hall
/-- What keeps the code is of one of these orders, or of a divisor. -/
theorem keeps_ord {P : List Nat} (hP : PermN P) (hK : KeepsN P) : ∃ n, n ∈ ordersL ∧ ∀ i, i < 24 → itN P n i = i := by
  by_cases hbig : ∃ i, i < 24 ∧ 5 ≤ ordI P i
  · obtain ⟨i, hi, h5⟩ := hbig
    have hs := ord_spec hP i hi
    obtain ⟨Q, hQ, hKQ, hv⟩ := five_to (fun k => itN P k i) (fun k _ => itN_lt hP k i hi) (fun a b ha hb e => by
      apply Classical.byContradiction
      intro hne
      rcases Nat.lt_or_gt_of_ne hne with hab | hab
      · exact hs.2.2.2 (b - a) (by omega) (by omega) (it_back hP i a b hi (by omega) e)
      · exact hs.2.2.2 (a - b) (by omega) (by omega) (it_back hP i b a hi (by omega) e.symm)) 5 (by omega)
    obtain ⟨R, hRe⟩ : ∃ R, thenN Q (thenN P (turnN Q)) = R := ⟨_, rfl⟩
    have hR : PermN R := hRe ▸ thenN_perm hQ (thenN_perm hP (turnN_perm hQ))
    have hKR : KeepsN R := hRe ▸ KeepsN.then_ hQ (thenN_perm hP (turnN_perm hQ)) hKQ (KeepsN.then_ hP (turnN_perm hQ) hK (KeepsN.turn hQ hKQ))
    have hget : ∀ x, x < 24 → R.getD x 0 = Q.idxOf (P.getD (Q.getD x 0) 0) := fun x hx => by
      rw [← hRe, thenN_get _ x (by rw [hQ.1]; exact hx), thenN_get _ _ (by rw [hP.1]; exact hQ.get x hx), turnN_get _ (hP.get _ (hQ.get x hx))]
    have hch : ∀ k, k < 4 → R.getD k 0 = k + 1 := fun k hk => by
      rw [hget k (by omega), hv k (by omega)]
      show Q.idxOf (itN P (k + 1) i) = k + 1
      rw [← hv (k + 1) (by omega), idx_get hQ _ (by omega)]
    obtain ⟨n, hn, hall⟩ := chain_ord hR hKR (hch 0 (by omega)) (hch 1 (by omega)) (hch 2 (by omega)) (hch 3 (by omega))
    refine ⟨n, hn, fun x hx => ?_⟩
    have hit : ∀ m y, y < 24 → itN P m (Q.getD y 0) = Q.getD (itN R m y) 0 := by
      intro m
      induction m with
      | zero => intro y hy; rfl
      | succ m ih =>
        intro y hy
        show P.getD (itN P m (Q.getD y 0)) 0 = Q.getD (R.getD (itN R m y) 0) 0
        have hz := itN_lt hR m y hy
        rw [ih y hy, hget _ hz, get_idx hQ _ (hP.get _ (hQ.get _ hz))]
    obtain ⟨y, hy, e⟩ := hQ.hit x hx
    rw [← e, hit n y hy, hall y hy]
  · refine ⟨12, by simp [ordersL], fun i hi => (ord_dvd hP i 12 hi).2 ?_⟩
    have h1 := (ord_spec hP i hi).2.1
    have h2 : ordI P i < 5 := by
      apply Classical.byContradiction
      intro hc
      exact hbig ⟨i, hi, by omega⟩
    have : ordI P i = 1 ∨ ordI P i = 2 ∨ ordI P i = 3 ∨ ordI P i = 4 := by omega
    rcases this with e | e | e | e <;> rw [e] <;> decide
end Go.Proofs.YtakefnfhjiodnaaDoor
