import Derived.Test.YtbgmjjplddddnaaGreatDoorRiP
import Derived.Test.YtbgmjjplddddnaaGreatDoorRiR
import Derived.Test.YtbgmjjplddddnaaGreatDoorProg
import Derived.KernelRfl
set_option linter.unusedSimpArgs false
set_option linter.unusedVariables false
set_option maxRecDepth 100000
namespace Go.Proofs.YtbgmjjplddddnaaGreatDoor
open Go.Lift
def tab:List (TypeId×Ty):=[(2,(.int .i64)),(3,(.int .i64)),(4,.bool),(5,(.int .u8)),(9,.str),(23,(.pair (.int .u8) (.pair (.int .i64) (.pair (.int .i64) (.pair (.int .i64) .unit))))),(24,(.slice (.pair (.int .u8) (.pair (.int .i64) (.pair (.int .i64) (.pair (.int .i64) .unit)))))),(27,(.slice (.pair (.int .u8) (.pair (.int .i64) (.pair (.int .i64) (.pair (.slice (.pair .str (.pair (.int .i64) .unit))) .unit)))))),(28,(.slice .str)),(29,(.slice (.pair .str (.pair (.int .i64) (.pair (.int .i64) (.pair (.slice (.pair .str (.pair (.int .i64) .unit))) (.pair (.slice (.pair (.int .u8) (.pair (.int .i64) (.pair (.int .i64) (.pair (.int .i64) .unit))))) (.pair (.slice (.pair (.int .i64) (.pair (.int .u64) .unit))) (.pair (.slice (.pair (.int .i64) (.pair (.int .u64) .unit))) .unit))))))))),(31,(.pair (.slice (.pair (.int .u8) (.pair (.int .i64) (.pair (.int .i64) (.pair (.slice (.pair .str (.pair (.int .i64) .unit))) .unit))))) (.pair (.slice .str) (.pair (.slice (.pair .str (.pair (.int .i64) (.pair (.int .i64) (.pair (.slice (.pair .str (.pair (.int .i64) .unit))) (.pair (.slice (.pair (.int .u8) (.pair (.int .i64) (.pair (.int .i64) (.pair (.int .i64) .unit))))) (.pair (.slice (.pair (.int .i64) (.pair (.int .u64) .unit))) (.pair (.slice (.pair (.int .i64) (.pair (.int .u64) .unit))) .unit)))))))) .unit)))),(33,(.int .i64)),(35,(.slice (.pair .str (.pair (.int .i64) .unit)))),(36,(.slice (.pair (.int .i64) (.pair (.int .u64) .unit)))),(38,(.pair .str (.pair (.int .i64) (.pair (.int .i64) (.pair (.slice (.pair .str (.pair (.int .i64) .unit))) (.pair (.slice (.pair (.int .u8) (.pair (.int .i64) (.pair (.int .i64) (.pair (.int .i64) .unit))))) (.pair (.slice (.pair (.int .i64) (.pair (.int .u64) .unit))) (.pair (.slice (.pair (.int .i64) (.pair (.int .u64) .unit))) .unit)))))))),(39,(.int .u64)),(41,(.pair (.int .i64) (.pair (.int .u64) .unit))),(44,(.slice (.int .i64))),(76,(.slice (.int .u8))),(80,(.pair (.int .u8) (.pair (.int .i64) (.pair (.int .i64) (.pair (.slice (.pair .str (.pair (.int .i64) .unit))) .unit))))),(82,(.pair .str (.pair (.int .i64) .unit))),(84,.fn),(91,(.pair (.pair (.slice (.pair (.int .u8) (.pair (.int .i64) (.pair (.int .i64) (.pair (.slice (.pair .str (.pair (.int .i64) .unit))) .unit))))) (.pair (.slice .str) (.pair (.slice (.pair .str (.pair (.int .i64) (.pair (.int .i64) (.pair (.slice (.pair .str (.pair (.int .i64) .unit))) (.pair (.slice (.pair (.int .u8) (.pair (.int .i64) (.pair (.int .i64) (.pair (.int .i64) .unit))))) (.pair (.slice (.pair (.int .i64) (.pair (.int .u64) .unit))) (.pair (.slice (.pair (.int .i64) (.pair (.int .u64) .unit))) .unit)))))))) .unit))) (.pair (.pair .str (.pair (.int .i64) (.pair (.int .i64) (.pair (.slice (.pair .str (.pair (.int .i64) .unit))) (.pair (.slice (.pair (.int .u8) (.pair (.int .i64) (.pair (.int .i64) (.pair (.int .i64) .unit))))) (.pair (.slice (.pair (.int .i64) (.pair (.int .u64) .unit))) (.pair (.slice (.pair (.int .i64) (.pair (.int .u64) .unit))) .unit))))))) .unit))),(106,(.arr 3 (.int .i64))),(124,(.slice (.int .u64))),(145,(.int .u8)),(147,.fn),(152,(.slice .bool)),(155,(.slice (.slice (.int .i64)))),(178,.fn),(181,(.slice (.pair (.int .i64) (.pair (.int .i64) .unit)))),(185,(.pair (.int .i64) (.pair (.int .i64) .unit))),(187,(.arr 3 (.int .u8))),(189,(.pair .str (.pair (.arr 3 (.int .u8)) .unit))),(190,(.arr 35 (.pair .str (.pair (.arr 3 (.int .u8)) .unit)))),(201,.fn),(203,.fn),(205,.fn),(207,.fn),(219,.fn),(222,.fn),(226,.fn),(232,(.mp .str .bool)),(234,(.int .u64)),(242,.fn),(243,(.arr 10 (.int .u8))),(244,(.slice (.slice (.int .u8))))]
theorem mixed:Tryz.prog.follows .mixedOrders=true:=by kernel_rfl
theorem aK:CY Tryz.prog tab:=Uk (by kernel_rfl) (by kernel_rfl) (by kernel_rfl)
def QG4:List (TypeId×Ty):=[(2,(.int .i64)),(3,(.int .i64)),(4,.bool),(5,(.int .u8)),(9,.str),(23,(.pair (.int .u8) (.pair (.int .i64) (.pair (.int .i64) (.pair (.int .i64) .unit))))),(24,(.slice (.pair (.int .u8) (.pair (.int .i64) (.pair (.int .i64) (.pair (.int .i64) .unit)))))),(27,(.slice (.pair (.int .u8) (.pair (.int .i64) (.pair (.int .i64) (.pair (.slice (.pair .str (.pair (.int .i64) .unit))) .unit)))))),(28,(.slice .str)),(29,(.slice (.pair .str (.pair (.int .i64) (.pair (.int .i64) (.pair (.slice (.pair .str (.pair (.int .i64) .unit))) (.pair (.slice (.pair (.int .u8) (.pair (.int .i64) (.pair (.int .i64) (.pair (.int .i64) .unit))))) (.pair (.slice (.pair (.int .i64) (.pair (.int .u64) .unit))) (.pair (.slice (.pair (.int .i64) (.pair (.int .u64) .unit))) .unit))))))))),(31,(.pair (.slice (.pair (.int .u8) (.pair (.int .i64) (.pair (.int .i64) (.pair (.slice (.pair .str (.pair (.int .i64) .unit))) .unit))))) (.pair (.slice .str) (.pair (.slice (.pair .str (.pair (.int .i64) (.pair (.int .i64) (.pair (.slice (.pair .str (.pair (.int .i64) .unit))) (.pair (.slice (.pair (.int .u8) (.pair (.int .i64) (.pair (.int .i64) (.pair (.int .i64) .unit))))) (.pair (.slice (.pair (.int .i64) (.pair (.int .u64) .unit))) (.pair (.slice (.pair (.int .i64) (.pair (.int .u64) .unit))) .unit)))))))) .unit)))),(33,(.int .i64)),(35,(.slice (.pair .str (.pair (.int .i64) .unit)))),(36,(.slice (.pair (.int .i64) (.pair (.int .u64) .unit)))),(38,(.pair .str (.pair (.int .i64) (.pair (.int .i64) (.pair (.slice (.pair .str (.pair (.int .i64) .unit))) (.pair (.slice (.pair (.int .u8) (.pair (.int .i64) (.pair (.int .i64) (.pair (.int .i64) .unit))))) (.pair (.slice (.pair (.int .i64) (.pair (.int .u64) .unit))) (.pair (.slice (.pair (.int .i64) (.pair (.int .u64) .unit))) .unit)))))))),(39,(.int .u64)),(41,(.pair (.int .i64) (.pair (.int .u64) .unit))),(44,(.nes (.int .i64))),(76,(.slice (.int .u8))),(80,(.pair (.int .u8) (.pair (.int .i64) (.pair (.int .i64) (.pair (.slice (.pair .str (.pair (.int .i64) .unit))) .unit))))),(82,(.pair .str (.pair (.int .i64) .unit))),(84,.fn),(91,(.pair (.pair (.slice (.pair (.int .u8) (.pair (.int .i64) (.pair (.int .i64) (.pair (.slice (.pair .str (.pair (.int .i64) .unit))) .unit))))) (.pair (.slice .str) (.pair (.slice (.pair .str (.pair (.int .i64) (.pair (.int .i64) (.pair (.slice (.pair .str (.pair (.int .i64) .unit))) (.pair (.slice (.pair (.int .u8) (.pair (.int .i64) (.pair (.int .i64) (.pair (.int .i64) .unit))))) (.pair (.slice (.pair (.int .i64) (.pair (.int .u64) .unit))) (.pair (.slice (.pair (.int .i64) (.pair (.int .u64) .unit))) .unit)))))))) .unit))) (.pair (.pair .str (.pair (.int .i64) (.pair (.int .i64) (.pair (.slice (.pair .str (.pair (.int .i64) .unit))) (.pair (.slice (.pair (.int .u8) (.pair (.int .i64) (.pair (.int .i64) (.pair (.int .i64) .unit))))) (.pair (.slice (.pair (.int .i64) (.pair (.int .u64) .unit))) (.pair (.slice (.pair (.int .i64) (.pair (.int .u64) .unit))) .unit))))))) .unit))),(106,(.arr 3 (.int .i64))),(124,(.slice (.int .u64))),(145,(.int .u8)),(147,.fn),(152,(.slice .bool)),(155,(.slice (.nes (.int .i64)))),(178,.fn),(181,(.slice (.pair (.int .i64) (.pair (.int .i64) .unit)))),(185,(.pair (.int .i64) (.pair (.int .i64) .unit))),(187,(.arr 3 (.int .u8))),(189,(.pair .str (.pair (.arr 3 (.int .u8)) .unit))),(190,(.arr 35 (.pair .str (.pair (.arr 3 (.int .u8)) .unit)))),(201,.fn),(203,.fn),(205,.fn),(207,.fn),(219,.fn),(222,.fn),(226,.fn),(232,(.mp .str .bool)),(234,(.int .u64)),(242,.fn),(243,(.arr 10 (.int .u8))),(244,(.slice (.slice (.int .u8))))]
theorem QEs:CY Tryz.prog QG4:=Uk (by kernel_rfl) (by kernel_rfl) (by kernel_rfl)
abbrev Zu:Type:=(List Int)×(Int×(Int×((List ((List Int)×(Int×Unit)))×((List (Int×(Int×(Int×(Int×Unit)))))×((List (Int×(Int×Unit)))×((List (Int×(Int×Unit)))×Unit))))))
abbrev Zv:Type:=List (Int×(Int×(Int×((List ((List Int)×(Int×Unit)))×Unit))))
abbrev Zw:Type:=List Int
abbrev Zx:Type:=Zv×((List Zw)×((List Zu)×Unit))
abbrev Zy:Type:=Int×(Int×(Int×(Int×Unit)))
abbrev Zz:Type:=List (Int×(Int×Unit))
abbrev aA:Type:=List (Zw×(Int×Unit))
abbrev aB:Type:=List Zy
abbrev aC:Type:=Zx×(Zu×Unit)
abbrev aD:Type:=List Bool
abbrev xZ:Type:=List Zw
abbrev yM:Type:=Int×(Int×Unit)
abbrev Y12:Type:=Int×(Int×(Int×(aA×Unit)))
abbrev Y13:Type:=aC×(Unit×(xZ×(Unit×Unit)))
abbrev oW:Type:=Zw×Int
abbrev Y15:Type:=Int×(Unit×(Unit×(Unit×Unit)))
abbrev Y16:Type:=List Zu
abbrev Y17:Type:=List (Zw×Bool)
abbrev Y18:Type:=xZ×Bool
abbrev Y19:Type:=Int×Unit
abbrev Y20:Type:=Int×Int×Int
abbrev Y21:Type:=Zw×Int×Int
abbrev Y22:Type:=Zw×Bool
abbrev Y23:Type:=Zw×Zw×Int
abbrev Z0:Ty:=.pair .str (.pair (.int .i64) (.pair (.int .i64) (.pair (.slice (.pair .str (.pair (.int .i64) .unit))) (.pair (.slice (.pair (.int .u8) (.pair (.int .i64) (.pair (.int .i64) (.pair (.int .i64) .unit))))) (.pair (.slice (.pair (.int .i64) (.pair (.int .u64) .unit))) (.pair (.slice (.pair (.int .i64) (.pair (.int .u64) .unit))) .unit))))))
abbrev Z1:Ty:=.pair (.int .u8) (.pair (.int .i64) (.pair (.int .i64) (.pair (.slice (.pair .str (.pair (.int .i64) .unit))) .unit)))
abbrev Z2:Ty:=.int .i64
abbrev Z3:Ty:=.pair (.slice Z1) (.pair (.slice .str) (.pair (.slice Z0) .unit))
abbrev Z4:Ty:=.pair (.int .u8) (.pair Z2 (.pair Z2 (.pair Z2 .unit)))
abbrev Z5:Ty:=.slice (.pair Z2 (.pair (.int .u64) .unit))
abbrev Z6:Ty:=.slice Z2
abbrev Z7:Ty:=.slice (.pair .str (.pair Z2 .unit))
abbrev Z8:Ty:=.slice (.int .u8)
abbrev Z9:Ty:=.pair Z3 (.pair Z0 .unit)
abbrev yN:Ty:=.slice (.int .u64)
abbrev mQ:Ty:=.int .u8
abbrev qj:Ty:=.slice Z1
abbrev ql:Ty:=.slice Z4
abbrev Z14:Ty:=.pair Z2 (.pair Z2 .unit)
abbrev Z15:Ty:=.int .u64
abbrev Z16:Ty:=.pair Z2 (.pair Z15 .unit)
abbrev Z17:Ty:=.slice .bool
abbrev Y24:Type:=Int×Zw×Int×Int×aB×Zw×Zw×Int×Zw×aD×aB×aD×Zw
abbrev Y25:Type:=Int×Zw×Int×Int×Zw×Zw×Bool×aB×aD×Zw×aB
abbrev Y26:Type:=Int×Zx×Unit×Zv×xZ×Y16×Zv×xZ×Y16×Zx
abbrev Y27:Type:=Zw×Int×Int×Zv×Int×Int×aA×Int×Int×Zw
abbrev Y28:Type:=aB×Zw×Zw×Int×Zw×aD×aB×aD×Zw
abbrev Y29:Type:=Zw×Int×Int×aB×Zw×Zw×Int×Bool
abbrev Y30:Type:=Int×Int×Zw×Zw×Int×aB×Int×Int
abbrev Y31:Type:=Zv×Int×Int×Int×Int×Zw×Zw×Zw
abbrev Y32:Type:=aB×Int×Int×Int×Int×Zw×Zw×aD
abbrev Y33:Type:=Int×Zw×Int×Int×aD×aB×aD×Zw
abbrev Y34:Type:=Zz×aA×Int×Int×yM×Zw×yM
abbrev Y35:Type:=aB×Int×Int×aB×Int×Int×Zw
abbrev Y36:Type:=Zw×Zw×aA×Int×Int×Int×Zw
abbrev Y37:Type:=Zw×Zw×Bool×aB×aD×Zw×aB
abbrev Y38:Type:=Bool×Int×Zx×Zv×xZ×Y16
abbrev Y39:Type:=Zw×Zw×Int×Int×xZ×aC
abbrev Y40:Type:=Zw×aB×Int×Int×aC×Zw
abbrev Y41:Type:=Y16×Int×Y16×Int×Int
abbrev Y42:Type:=xZ×Int×xZ×Int×Int
abbrev Y43:Type:=Int×aA×Int×Int×Y17
abbrev Y44:Type:=Int×Nat×Nat×Int×Zw
abbrev Y45:Type:=Int×Int×Int×Zx×Zu
abbrev Y46:Type:=aA×Int×aA×Int×Int
abbrev Y47:Type:=Int×Zz×Int×Int×Zw
abbrev Y48:Type:=xZ×Int×Int×Zw×Zx
abbrev Y49:Type:=Zw×Int×Int×aC×Int
abbrev Y50:Type:=Zw×Int×Zw×Int×Int
abbrev Y51:Type:=Zw×Int×Int×aC×xZ
abbrev Y52:Type:=Zw×Y16×Int×Int×Zx
abbrev Y53:Type:=Zv×Int×Int×Zw×Zw
abbrev Y54:Type:=Int×Int×Zx×Zw×Zu
abbrev Y55:Type:=Zw×Zv×Int×Int×Zw
abbrev Y56:Type:=aB×Int×Int×Zw×Zu
abbrev Y57:Type:=aA×Int×Int×Zw×Zu
abbrev Y58:Type:=Zv×Int×Int×Zw×Zx
abbrev Y59:Type:=Int×Int×aC×Zy×Zw
abbrev Y60:Type:=aB×Int×Int×aC×aD
abbrev Y61:Type:=Zw×Int×Zw×Zw×Zw
abbrev Y62:Type:=Zw×Int×Int×Int
abbrev Y63:Type:=xZ×Int×Int×Zw
abbrev Y64:Type:=aA×Int×Int×Zw
abbrev Y65:Type:=aB×Zw×Zw×Bool
abbrev Y66:Type:=aB×Int×Int×Zw
abbrev Y67:Type:=Zw×Int×Int×Zw
abbrev Y68:Type:=Zw×Int×Zw×Zw
abbrev Y69:Type:=aD×aB×aD×Zw
abbrev Y70:Type:=Zv×Int×Int
abbrev Y71:Type:=Int×Int×Zx
abbrev Y72:Type:=Zz×Int×Int
abbrev Y73:Type:=aB×Int×Int
abbrev Y74:Type:=Zv×Int×Zw
abbrev Y75:Type:=Zw×Int×Zw
abbrev xg:Type:=Int×Zx×Zw
abbrev Y77:Type:=Int×Zx×Zx
abbrev Y78:Type:=Int×Int
abbrev zF:Type:=Zv×Int
abbrev Y80:Type:=Int×Zx
def QYO:LT:={ live:=[(3,[1,5,10,11,12])],keep:=[] }
def QYY:LT:={ live:=[(3,[1,5,10,11,12])],keep:=[] }
def QYb:LT:={ live:=[(3,[0,2,13,14,15])],keep:=[] }
def QV2:LT:={ live:=[(3,[0,2,13,14,15])],keep:=[] }
def QYd:LT:={ live:=[(3,[0,2,13,14,15])],keep:=[] }
def QYe:LT:={ live:=[(3,[0,2,13,14,15])],keep:=[] }
def QYg:LT:={ live:=[(3,[0,2,13,14,15])],keep:=[] }
def QYi:LT:={ live:=[],keep:=[] }
def QV6:LT:={ live:=[(3,[1,4,13,14])],keep:=[(25,[1,4,13,14])] }
def QYo:LT:={ live:=[(4,[0,3]),(9,[0,3,4,5])],keep:=[] }
def QKp:LT:={ live:=[(3,[0,1,3,4]),(7,[0,1,3,4,5,30,31,32])],keep:=[(39,[0,1,3,4,5,7,30,31,32])],stk:=[4] }
def QKq:LT:={ live:=[],keep:=[] }
def QUT:LT:={ live:=[],keep:=[] }
def QUU:LT:={ live:=[],keep:=[(12,[2]),(18,[3])] }
def QUV:LT:={ live:=[],keep:=[] }
def QUZ:LT:={ live:=[],keep:=[] }
def QIY:LT:={ live:=[(2,[0,1,7,8])],keep:=[(16,[0,1,5,7,8])] }
def QIZ:LT:={ live:=[],keep:=[(7,[])] }
def QIa:LT:={ live:=[(6,[2,3,6,43,44,45])],keep:=[] }
def QUn:LT:={ live:=[],keep:=[] }
def QUp:LT:={ live:=[],keep:=[] }
def QUu:LT:={ live:=[(3,[1,2,3,4])],keep:=[] }
def QYC:LT:={ live:=[],keep:=[] }
noncomputable def QWd:Bn:={ tab:=tab,fs:=[],inl:=[] }
def vY (x:Y78):Option (Bool):=
 (bif (decide (x.1≥0)) then (some (decide (x.1 < x.2))) else (some false))
def aS (x:Y78):Option (Bool):=vY x
def QPU:U0:=⟨[Z2,Z2],[.bool],[false],fun x=>aS x⟩
theorem QUA:Hw Tryz.prog 204 QPU:=rz (E:=QWd) (lt:=QYC) (lv:=6) (N:=big) ⟨aK,Yc,fun _ _ _=>rfl,mixed,Yt,Y0,Yz⟩ Tryz.func204 fun x _ h=>Eq.trans (b:=aS x) (by kernel_rfl) h
def QYD:LT:={ live:=[],keep:=[] }
noncomputable def QWe:Bn:={ tab:=tab,fs:=[],inl:=[] }
def tO (x:Int):Option (Bool):=
 (bif (decide (x≥97)) then (bif (decide (x<=122)) then (some true) else (bif (decide (x≥65)) then (some (decide (x<=90))) else (some false))) else (bif (decide (x≥65)) then (some (decide (x<=90))) else (some false)))
def jq (x:Int):Option (Bool):=tO x
def QSr:U0:=⟨[mQ],[.bool],[false],fun x=>jq x⟩
theorem QXP:Hw Tryz.prog 211 QSr:=rz (E:=QWe) (lt:=QYD) (lv:=6) (N:=big) ⟨aK,Yc,fun _ _ _=>rfl,mixed,Yt,Y0,Yz⟩ Tryz.func211 fun x _ h=>Eq.trans (b:=jq x) (by kernel_rfl) h
def QYE:LT:={ live:=[],keep:=[] }
noncomputable def QWf:Bn:={ tab:=tab,fs:=[],inl:=[] }
def vX (x:Int):Option (Bool):=
 (bif (decide (x≥48)) then (some (decide (x<=57))) else (some false))
def pW (x:Int):Option (Bool):=vX x
def QSs:U0:=⟨[mQ],[.bool],[false],fun x=>pW x⟩
theorem QXQ:Hw Tryz.prog 212 QSs:=rz (E:=QWf) (lt:=QYE) (lv:=6) (N:=big) ⟨aK,Yc,fun _ _ _=>rfl,mixed,Yt,Y0,Yz⟩ Tryz.func212 fun x _ h=>Eq.trans (b:=pW x) (by kernel_rfl) h
def QQ3:LT:={ live:=[(4,[0,18,19])],keep:=[] }
noncomputable def QMS:Bn:={ tab:=tab,fs:=[(211,QSr),(212,QSs)],inl:=[] }
noncomputable def QFK (v:Zw×Int×Int):St:={ s:=[(0,(.val ⟨.str,v.1⟩)),(18,(.val ⟨Z2,v.2.1⟩)),(19,(.val ⟨Z2,v.2.2⟩))],l:=[],k:=[],b:=4096 }
def mD (aG:Zw×Int×Int->Option (Bool)) (v:Zw×Int×Int):Option (Bool):=
 (bif (decide (v.2.2 < v.2.1)) then ((Nk v.1 v.2.2).bind fun x3=>((jq x3).bind fun x4=>(bif (!x4) then ((Nk v.1 v.2.2).bind fun x5=>((pW x5).bind fun x6=>(bif (!x6) then (some false) else (let x7:Int:=(IntKind.i64.wrap (v.2.2+1));(aG (v.1,v.2.1,x7)))))) else (let x8:Int:=(IntKind.i64.wrap (v.2.2+1));(aG (v.1,v.2.1,x8)))))) else (some true))
def qA (N:Nat) (aG:Zw×Int×Int->Option (Bool)) (v:Zw×Int×Int):Option (Bool):=mD aG v
theorem QQe (N:Nat) (s0:St->Option (Bool)) (v):(ZR (QMS) QQ3 6 N Tryz.f198 [.bool] [false] [] 0 Xv) s0 (QFK v)=qA N (fun v=>s0 (QFK v)) v:=by kernel_rfl
def uU (aJ:Zw×Int×Int->Option (Bool)) (x:Zw):Option (Bool):=
 (bif (JW .str x ([]:List Int)) then (some false) else (bif (decide ((List.length x:Int) > 16)) then (some false) else ((Nk x (0:Int)).bind fun x1=>((jq x1).bind fun x2=>(bif (!x2) then (some false) else (aJ (x,(List.length x:Int),(0:Int))))))))
def QBL (N:Nat) (x:Zw):Option (Bool):=uU (Gb (qA N) N) x
theorem QZ8 (N:Nat) (x:Zw):rise (QMS) QQ3 6 N Tryz.f198 [.str] [.bool] [false] x=QBL N x:=Eq.trans (b:=uU (fun v=>Ot (ZR (QMS) QQ3 6 N Tryz.f198 [.bool] [false] [] 0 Xv) N (QFK v)) x) (by kernel_rfl) (by rw [funext (Tf QFK (QQe N) N)];rfl)
def pU (x:Zw):Option (Bool):=QBL big x
def QMl:U0:=⟨[.str],[.bool],[false],fun x=>pU x⟩
theorem QPj:Hw Tryz.prog 198 QMl:=rz (E:=QMS) ⟨aK,(YH QXP (YH QXQ Yc)),fun _ _ _=>rfl,mixed,Yt,Y0,Yz⟩ Tryz.func198 fun _ _ h=>(QZ8 big _).trans h
def QQ4:LT:={ live:=[(5,[1,5,17,18,19])],keep:=[] }
noncomputable def QMT:Bn:={ tab:=tab,fs:=[(198,QMl),(204,QPU)],inl:=[] }
noncomputable def QFL (v:Y43):St:={ s:=[(1,(.val ⟨Z2,v.1⟩)),(5,(.mp 0)),(17,(.val ⟨Z7,v.2.1⟩)),(18,(.val ⟨Z2,v.2.2.1⟩)),(19,(.val ⟨Z2,v.2.2.2.1⟩))],l:=[(0,.mp .str .bool v.2.2.2.2)],k:=[],b:=4096 }
def gu (aG:Y43->Option (Bool)) (v:Y43):Option (Bool):=
 (bif (decide (v.2.2.2.1 < v.2.2.1)) then ((Nk v.2.1 v.2.2.2.1).bind fun x1=>((pU x1.1).bind fun x2=>(bif (!x2) then (some false) else (bif (@Pw .str .bool x1.1 false v.2.2.2.2).1 then (some false) else ((aS (x1.2.1,v.1)).bind fun x3=>(bif (!x3) then (some false) else (let x4:Y17:=(@MO .str .bool x1.1 true v.2.2.2.2);(let x5:Int:=(IntKind.i64.wrap (v.2.2.2.1+1));(aG (v.1,v.2.1,v.2.2.1,x5,x4)))))))))) else (some true))
def gY (N:Nat) (aG:Y43->Option (Bool)) (v:Y43):Option (Bool):=gu aG v
theorem QQf (N:Nat) (s0:St->Option (Bool)) (v):(ZR (QMT) QQ4 6 N Tryz.f205 [.bool] [false] [] 0 Xv) s0 (QFL v)=gY N (fun v=>s0 (QFL v)) v:=by kernel_rfl
def oP (aJ:Y43->Option (Bool)) (x:aA×Int):Option (Bool):=
 (bif (decide ((List.length x.1:Int) < 1)) then (some false) else (bif (decide ((List.length x.1:Int) > 8)) then (some false) else (aJ (x.2,x.1,(List.length x.1:Int),(0:Int),([]:List Y22)))))
def zM (N:Nat) (x:aA×Int):Option (Bool):=oP (Gb (gY N) N) x
theorem QZ9 (N:Nat) (x:aA×Int):rise (QMT) QQ4 6 N Tryz.f205 [Z7,Z2] [.bool] [false] x=zM N x:=Eq.trans (b:=oP (fun v=>Ot (ZR (QMT) QQ4 6 N Tryz.f205 [.bool] [false] [] 0 Xv) N (QFL v)) x) (by kernel_rfl) (by rw [funext (Tf QFL (QQf N) N)];rfl)
def dL (x:aA×Int):Option (Bool):=zM big x
def QSt:U0:=⟨[Z7,Z2],[.bool],[false],fun x=>dL x⟩
theorem QXR:Hw Tryz.prog 205 QSt:=rz (E:=QMT) ⟨aK,(YH QPj (YH QUA Yc)),fun _ _ _=>rfl,mixed,Yt,Y0,Yz⟩ Tryz.func205 fun _ _ h=>(QZ9 big _).trans h
def QYF:LT:={ live:=[],keep:=[] }
noncomputable def QWg:Bn:={ tab:=tab,fs:=[(204,QPU),(205,QSt)],inl:=[] }
def vW (x:Y12×Int×Int):Option (Bool):=
 (bif (x.1.1==1) then (bif (x.1.1==1) then (bif (x.1.2.1==0) then (bif (x.1.2.2.1==0) then (some ((List.length x.1.2.2.2.1:Int)==0)) else (some false)) else (some false)) else (bif (x.1.1==4) then (bif (x.1.1==4) then ((aS (x.1.2.1,x.2.2)).bind fun x1=>(bif x1 then (bif (x.1.2.2.1==0) then (some ((List.length x.1.2.2.2.1:Int)==0)) else (some false)) else (some false))) else (bif (x.1.1==6) then ((aS (x.1.2.1,x.2.1)).bind fun x2=>(bif x2 then (bif (decide (x.1.2.2.1≥1)) then (bif (decide (x.1.2.2.1<=16)) then (some ((List.length x.1.2.2.2.1:Int)==0)) else (some false)) else (some false)) else (some false))) else (bif (x.1.1==5) then (bif (x.1.2.1==0) then (bif (x.1.2.2.1==0) then ((dL (x.1.2.2.2.1,x.2.1)).bind fun x3=>(some x3)) else (some false)) else (some false)) else (some false)))) else (bif (x.1.1==7) then ((aS (x.1.2.1,x.2.2)).bind fun x4=>(bif x4 then (bif (x.1.2.2.1==0) then (some ((List.length x.1.2.2.2.1:Int)==0)) else (some false)) else (some false))) else (bif (x.1.1==6) then ((aS (x.1.2.1,x.2.1)).bind fun x5=>(bif x5 then (bif (decide (x.1.2.2.1≥1)) then (bif (decide (x.1.2.2.1<=16)) then (some ((List.length x.1.2.2.2.1:Int)==0)) else (some false)) else (some false)) else (some false))) else (bif (x.1.1==5) then (bif (x.1.2.1==0) then (bif (x.1.2.2.1==0) then ((dL (x.1.2.2.2.1,x.2.1)).bind fun x6=>(some x6)) else (some false)) else (some false)) else (some false)))))) else (bif (x.1.1==2) then (bif (x.1.1==2) then (bif (x.1.2.1==0) then (bif (x.1.2.2.1==0) then (some ((List.length x.1.2.2.2.1:Int)==0)) else (some false)) else (some false)) else (bif (x.1.1==4) then (bif (x.1.1==4) then ((aS (x.1.2.1,x.2.2)).bind fun x7=>(bif x7 then (bif (x.1.2.2.1==0) then (some ((List.length x.1.2.2.2.1:Int)==0)) else (some false)) else (some false))) else (bif (x.1.1==6) then ((aS (x.1.2.1,x.2.1)).bind fun x8=>(bif x8 then (bif (decide (x.1.2.2.1≥1)) then (bif (decide (x.1.2.2.1<=16)) then (some ((List.length x.1.2.2.2.1:Int)==0)) else (some false)) else (some false)) else (some false))) else (bif (x.1.1==5) then (bif (x.1.2.1==0) then (bif (x.1.2.2.1==0) then ((dL (x.1.2.2.2.1,x.2.1)).bind fun x9=>(some x9)) else (some false)) else (some false)) else (some false)))) else (bif (x.1.1==7) then ((aS (x.1.2.1,x.2.2)).bind fun iO=>(bif iO then (bif (x.1.2.2.1==0) then (some ((List.length x.1.2.2.2.1:Int)==0)) else (some false)) else (some false))) else (bif (x.1.1==6) then ((aS (x.1.2.1,x.2.1)).bind fun pE=>(bif pE then (bif (decide (x.1.2.2.1≥1)) then (bif (decide (x.1.2.2.1<=16)) then (some ((List.length x.1.2.2.2.1:Int)==0)) else (some false)) else (some false)) else (some false))) else (bif (x.1.1==5) then (bif (x.1.2.1==0) then (bif (x.1.2.2.1==0) then ((dL (x.1.2.2.2.1,x.2.1)).bind fun qh=>(some qh)) else (some false)) else (some false)) else (some false)))))) else (bif (x.1.1==3) then (bif (x.1.2.1==0) then (bif (x.1.2.2.1==0) then (some ((List.length x.1.2.2.2.1:Int)==0)) else (some false)) else (some false)) else (bif (x.1.1==4) then (bif (x.1.1==4) then ((aS (x.1.2.1,x.2.2)).bind fun sQ=>(bif sQ then (bif (x.1.2.2.1==0) then (some ((List.length x.1.2.2.2.1:Int)==0)) else (some false)) else (some false))) else (bif (x.1.1==6) then ((aS (x.1.2.1,x.2.1)).bind fun lN=>(bif lN then (bif (decide (x.1.2.2.1≥1)) then (bif (decide (x.1.2.2.1<=16)) then (some ((List.length x.1.2.2.2.1:Int)==0)) else (some false)) else (some false)) else (some false))) else (bif (x.1.1==5) then (bif (x.1.2.1==0) then (bif (x.1.2.2.1==0) then ((dL (x.1.2.2.2.1,x.2.1)).bind fun lS=>(some lS)) else (some false)) else (some false)) else (some false)))) else (bif (x.1.1==7) then ((aS (x.1.2.1,x.2.2)).bind fun xq=>(bif xq then (bif (x.1.2.2.1==0) then (some ((List.length x.1.2.2.2.1:Int)==0)) else (some false)) else (some false))) else (bif (x.1.1==6) then ((aS (x.1.2.1,x.2.1)).bind fun zS=>(bif zS then (bif (decide (x.1.2.2.1≥1)) then (bif (decide (x.1.2.2.1<=16)) then (some ((List.length x.1.2.2.2.1:Int)==0)) else (some false)) else (some false)) else (some false))) else (bif (x.1.1==5) then (bif (x.1.2.1==0) then (bif (x.1.2.2.1==0) then ((dL (x.1.2.2.2.1,x.2.1)).bind fun x18=>(some x18)) else (some false)) else (some false)) else (some false))))))))
def pV (x:Y12×Int×Int):Option (Bool):=vW x
def QSu:U0:=⟨[Z1,Z2,Z2],[.bool],[false],fun x=>pV x⟩
theorem QXS:Hw Tryz.prog 190 QSu:=rz (E:=QWg) (lt:=QYF) (lv:=6) (N:=big) ⟨aK,(YH QUA (YH QXR Yc)),fun _ _ _=>rfl,mixed,Yt,Y0,Yz⟩ Tryz.func190 fun x _ h=>Eq.trans (b:=pV x) (by kernel_rfl) h
def QLF:LT:={ live:=[(3,[1,5,14,15,16]),(15,[1,5,6,8,14,15,16,57,58,59])],keep:=[] }
noncomputable def QJF (mk:(α:Type)->Nat->α->List α):Bn:={ tab:=tab,fs:=[],inl:=[],rep:=mk }
noncomputable def QFM (v:Y27):St:={ s:=[(1,(.val ⟨Z6,v.1⟩)),(5,(.row 0)),(6,(.val ⟨Z2,v.2.1⟩)),(8,(.val ⟨Z2,v.2.2.1⟩)),(14,(.val ⟨qj,v.2.2.2.1⟩)),(15,(.val ⟨Z2,v.2.2.2.2.1⟩)),(16,(.val ⟨Z2,v.2.2.2.2.2.1⟩)),(57,(.val ⟨Z7,v.2.2.2.2.2.2.1⟩)),(58,(.val ⟨Z2,v.2.2.2.2.2.2.2.1⟩)),(59,(.val ⟨Z2,v.2.2.2.2.2.2.2.2.1⟩))],l:=[(0,.row Z2 v.2.2.2.2.2.2.2.2.2)],k:=[],b:=4096 }
noncomputable def QBw (v:Y55):St:={ s:=[(1,(.val ⟨Z6,v.1⟩)),(5,(.row 0)),(14,(.val ⟨qj,v.2.1⟩)),(15,(.val ⟨Z2,v.2.2.1⟩)),(16,(.val ⟨Z2,v.2.2.2.1⟩))],l:=[(0,.row Z2 v.2.2.2.2)],k:=[],b:=4096 }
def jO (mk:(α:Type)->Nat->α->List α) (aG:Y55->Option (Zw)) (aH:Y27->Option (Zw)) (v:Y27):Option (Zw):=
 (bif (decide (v.2.2.2.2.2.2.2.2.1 < v.2.2.2.2.2.2.2.1)) then ((Nk v.2.2.2.2.2.2.1 v.2.2.2.2.2.2.2.2.1).bind fun x20=>(bif (decide (0<=x20.2.1)&&decide (x20.2.1 < (List.length v.2.2.2.2.2.2.2.2.2:Int))) then ((nth v.2.2.2.2.2.2.2.2.2 (Int.toNat x20.2.1)).bind fun x21=>(let zV:Int:=(IntKind.i64.wrap (v.2.2.1+x21));(let x23:Int:=(IntKind.i64.wrap (v.2.2.2.2.2.2.2.2.1+1));(aH (v.1,v.2.1,zV,v.2.2.2.1,v.2.2.2.2.1,v.2.2.2.2.2.1,v.2.2.2.2.2.2.1,v.2.2.2.2.2.2.2.1,x23,v.2.2.2.2.2.2.2.2.2))))) else none)) else (let x24:Int:=(if (5001:Int) < v.2.2.1 then (5001:Int) else v.2.2.1);(bif (decide (0<=v.2.1)&&decide (v.2.1 < (List.length v.2.2.2.2.2.2.2.2.2:Int))) then (let x25:Zw:=(List.set v.2.2.2.2.2.2.2.2.2 (Int.toNat v.2.1) x24);(let x26:Int:=(IntKind.i64.wrap (v.2.2.2.2.2.1+1));(aG (v.1,v.2.2.2.1,v.2.2.2.2.1,x26,x25)))) else none)))
def q9 (mk:(α:Type)->Nat->α->List α) (N:Nat) (aG:Y55->Option (Zw)) (aH:Y27->Option (Zw)) (v:Y27):Option (Zw):=jO mk aG aH v
theorem QQh (mk:(α:Type)->Nat->α->List α) (N:Nat) (s0:St->Option (Zw)) (s1:St->Option (Zw)) (v):(ZR (QJF mk) QLF 6 N Tryz.f207 [Z6] [true] [] 1 (Yx s0 Xv)) s1 (QFM v)=q9 mk N (fun v=>s0 (QBw v)) (fun v=>s1 (QFM v)) v:=by kernel_rfl
def fU (mk:(α:Type)->Nat->α->List α) (bF:Y27->Option (Zw)) (aG:Y55->Option (Zw)) (v:Y55):Option (Zw):=
 (bif (decide (v.2.2.2.1 < v.2.2.1)) then ((Nk v.2.1 v.2.2.2.1).bind fun x2=>(bif (x2.1==4) then ((Nk v.1 x2.2.1).bind fun x3=>(let x4:Int:=(IntKind.i64.wrap ((1:Int)+x3));(let x5:Int:=(if (5001:Int) < x4 then (5001:Int) else x4);(bif (decide (0<=v.2.2.2.1)&&decide (v.2.2.2.1 < (List.length v.2.2.2.2:Int))) then (let x6:Zw:=(List.set v.2.2.2.2 (Int.toNat v.2.2.2.1) x5);(let x7:Int:=(IntKind.i64.wrap (v.2.2.2.1+1));(aG (v.1,v.2.1,v.2.2.1,x7,x6)))) else none)))) else (bif (x2.1==7) then ((Nk v.1 x2.2.1).bind fun x8=>(let x9:Int:=(IntKind.i64.wrap ((16:Int) * x8));(let iO:Int:=(IntKind.i64.wrap ((1:Int)+x9));(let pE:Int:=(if (5001:Int) < iO then (5001:Int) else iO);(bif (decide (0<=v.2.2.2.1)&&decide (v.2.2.2.1 < (List.length v.2.2.2.2:Int))) then (let qh:Zw:=(List.set v.2.2.2.2 (Int.toNat v.2.2.2.1) pE);(let sQ:Int:=(IntKind.i64.wrap (v.2.2.2.1+1));(aG (v.1,v.2.1,v.2.2.1,sQ,qh)))) else none))))) else (bif (x2.1==6) then (bif (decide (0<=x2.2.1)&&decide (x2.2.1 < (List.length v.2.2.2.2:Int))) then ((nth v.2.2.2.2 (Int.toNat x2.2.1)).bind fun lN=>(let lS:Int:=(IntKind.i64.wrap (x2.2.2.1 * lN));(let xq:Int:=(IntKind.i64.wrap ((1:Int)+lS));(let zS:Int:=(if (5001:Int) < xq then (5001:Int) else xq);(bif (decide (0<=v.2.2.2.1)&&decide (v.2.2.2.1 < (List.length v.2.2.2.2:Int))) then (let x18:Zw:=(List.set v.2.2.2.2 (Int.toNat v.2.2.2.1) zS);(let zU:Int:=(IntKind.i64.wrap (v.2.2.2.1+1));(aG (v.1,v.2.1,v.2.2.1,zU,x18)))) else none))))) else none) else (bif (x2.1==5) then (bF (v.1,v.2.2.2.1,(1:Int),v.2.1,v.2.2.1,v.2.2.2.1,x2.2.2.2.1,(List.length x2.2.2.2.1:Int),(0:Int),v.2.2.2.2)) else (let x27:Int:=(if (5001:Int) < 1 then (5001:Int) else (1:Int));(bif (decide (0<=v.2.2.2.1)&&decide (v.2.2.2.1 < (List.length v.2.2.2.2:Int))) then (let x28:Zw:=(List.set v.2.2.2.2 (Int.toNat v.2.2.2.1) x27);(let x29:Int:=(IntKind.i64.wrap (v.2.2.2.1+1));(aG (v.1,v.2.1,v.2.2.1,x29,x28)))) else none))))))) else (some v.2.2.2.2))
def nC (mk:(α:Type)->Nat->α->List α) (N:Nat) (aG:Y55->Option (Zw)) (v:Y55):Option (Zw):=fU mk (Gb (q9 mk N aG) N) aG v
theorem QQg (mk:(α:Type)->Nat->α->List α) (N:Nat) (s0:St->Option (Zw)) (v):(ZR (QJF mk) QLF 6 N Tryz.f207 [Z6] [true] [] 0 Xv) s0 (QBw v)=nC mk N (fun v=>s0 (QBw v)) v:=Eq.trans (b:=fU mk (fun v=>Ot (ZR (QJF mk) QLF 6 N Tryz.f207 [Z6] [true] [] 1 (Yx s0 Xv)) N (QFM v)) (fun v=>s0 (QBw v)) v) (by kernel_rfl) (by rw [funext (Tf QFM (QQh mk N s0) N)];rfl)
def qc (mk:(α:Type)->Nat->α->List α) (aJ:Y55->Option (Zw)) (x:Zv×Zw):Option (Zw):=
 (bif (decide (0<=(List.length x.1:Int))&&(decide ((List.length x.1:Int)<=(List.length x.1:Int))&&(decide ((List.length x.1:Int)<=68719476736)&&true))) then (let x1:Zw:=(mk Int (Int.toNat (List.length x.1:Int)) (0:Int));(aJ (x.2,x.1,(List.length x.1:Int),(0:Int),x1))) else none)
def zq (mk:(α:Type)->Nat->α->List α) (N:Nat) (x:Zv×Zw):Option (Zw):=qc mk (Gb (nC mk N) N) x
theorem QZA (mk:(α:Type)->Nat->α->List α) (N:Nat) (x:Zv×Zw):rise (QJF mk) QLF 6 N Tryz.f207 [qj,Z6] [Z6] [true] x=zq mk N x:=Eq.trans (b:=qc mk (fun v=>Ot (ZR (QJF mk) QLF 6 N Tryz.f207 [Z6] [true] [] 0 Xv) N (QBw v)) x) (by kernel_rfl) (by rw [funext (Tf QBw (QQg mk N) N)];rfl)
def u7 (x:Zv×Zw):Option (Zw):=zq (fun _=>List.replicate) big x
def QSv:U0:=⟨[qj,Z6],[Z6],[true],fun x=>u7 x⟩
theorem QXT:Hw Tryz.prog 207 QSv:=rz (E:=QJF (fun _=>List.replicate)) ⟨aK,Yc,fun _ _ _=>rfl,mixed,Yt,Y0,Yz⟩ Tryz.func207 fun _ _ h=>(QZA (fun _=>List.replicate) big _).trans h
def QQ5:LT:={ live:=[(3,[0,3,7])],keep:=[] }
noncomputable def QMU (mk:(α:Type)->Nat->α->List α):Bn:={ tab:=tab,fs:=[(207,QSv)],inl:=[],rep:=mk }
noncomputable def QFN (v:Y74):St:={ s:=[(0,(.val ⟨qj,v.1⟩)),(3,(.row 0)),(7,(.val ⟨Z2,v.2.1⟩))],l:=[(0,.row Z2 v.2.2)],k:=[],b:=4096 }
def tK (mk:(α:Type)->Nat->α->List α) (aG:Y74->Option (Zw)) (v:Y74):Option (Zw):=
 (bif (decide (v.2.1 < 4)) then ((u7 (v.1,v.2.2)).bind fun x2=>(let x3:Int:=(IntKind.i64.wrap (v.2.1+1));(aG (v.1,x3,x2)))) else (some v.2.2))
def oI (mk:(α:Type)->Nat->α->List α) (N:Nat) (aG:Y74->Option (Zw)) (v:Y74):Option (Zw):=tK mk aG v
theorem QQi (mk:(α:Type)->Nat->α->List α) (N:Nat) (s0:St->Option (Zw)) (v):(ZR (QMU mk) QQ5 6 N Tryz.f192 [Z6] [true] [] 0 Xv) s0 (QFN v)=oI mk N (fun v=>s0 (QFN v)) v:=by kernel_rfl
def sH (mk:(α:Type)->Nat->α->List α) (aJ:Y74->Option (Zw)) (x:Zv):Option (Zw):=
 (bif (decide (0<=(List.length x:Int))&&(decide ((List.length x:Int)<=(List.length x:Int))&&(decide ((List.length x:Int)<=68719476736)&&true))) then (let x1:Zw:=(mk Int (Int.toNat (List.length x:Int)) (0:Int));(aJ (x,(0:Int),x1))) else none)
def QAW (mk:(α:Type)->Nat->α->List α) (N:Nat) (x:Zv):Option (Zw):=sH mk (Gb (oI mk N) N) x
theorem QZB (mk:(α:Type)->Nat->α->List α) (N:Nat) (x:Zv):rise (QMU mk) QQ5 6 N Tryz.f192 [qj] [Z6] [true] x=QAW mk N x:=Eq.trans (b:=sH mk (fun v=>Ot (ZR (QMU mk) QQ5 6 N Tryz.f192 [Z6] [true] [] 0 Xv) N (QFN v)) x) (by kernel_rfl) (by rw [funext (Tf QFN (QQi mk N) N)];rfl)
def xD (x:Zv):Option (Zw):=QAW (fun _=>List.replicate) big x
def QSw:U0:=⟨[qj],[Z6],[true],fun x=>xD x⟩
theorem QXU:Hw Tryz.prog 192 QSw:=rz (E:=QMU (fun _=>List.replicate)) ⟨aK,(YH QXT Yc),fun _ _ _=>rfl,mixed,Yt,Y0,Yz⟩ Tryz.func192 fun _ _ h=>(QZB (fun _=>List.replicate) big _).trans h
def QQ6:LT:={ live:=[(2,[0,1,7,8])],keep:=[] }
noncomputable def QMV:Bn:={ tab:=tab,fs:=[],inl:=[] }
noncomputable def QFO (v:Y62):St:={ s:=[(0,(.val ⟨Z6,v.1⟩)),(1,(.val ⟨Z2,v.2.1⟩)),(7,(.val ⟨Z2,v.2.2.1⟩)),(8,(.val ⟨Z2,v.2.2.2⟩))],l:=[],k:=[],b:=4096 }
def aX (aG:Y62->Option (Int)) (v:Y62):Option (Int):=
 (bif (decide (v.2.2.2 < v.2.2.1)) then ((Nk v.1 v.2.2.2).bind fun x1=>(bif (v.2.1==x1) then (some v.2.2.2) else (let x2:Int:=(IntKind.i64.wrap (v.2.2.2+1));(aG (v.1,v.2.1,v.2.2.1,x2))))) else (some (-1:Int)))
def eu (N:Nat) (aG:Y62->Option (Int)) (v:Y62):Option (Int):=aX aG v
theorem QQj (N:Nat) (s0:St->Option (Int)) (v):(ZR (QMV) QQ6 6 N Tryz.f206 [Z2] [false] [] 0 Xv) s0 (QFO v)=eu N (fun v=>s0 (QFO v)) v:=by kernel_rfl
def gJ (aJ:Y62->Option (Int)) (x:Zw×Int):Option (Int):=
 (aJ (x.1,x.2,(List.length x.1:Int),(0:Int)))
def qo (N:Nat) (x:Zw×Int):Option (Int):=gJ (Gb (eu N) N) x
theorem QZC (N:Nat) (x:Zw×Int):rise (QMV) QQ6 6 N Tryz.f206 [Z6,Z2] [Z2] [false] x=qo N x:=Eq.trans (b:=gJ (fun v=>Ot (ZR (QMV) QQ6 6 N Tryz.f206 [Z2] [false] [] 0 Xv) N (QFO v)) x) (by kernel_rfl) (by rw [funext (Tf QFO (QQj N) N)];rfl)
def kP (x:Zw×Int):Option (Int):=qo big x
def QSx:U0:=⟨[Z6,Z2],[Z2],[false],fun x=>kP x⟩
theorem QXV:Hw Tryz.prog 206 QSx:=rz (E:=QMV) ⟨aK,Yc,fun _ _ _=>rfl,mixed,Yt,Y0,Yz⟩ Tryz.func206 fun _ _ h=>(QZC big _).trans h
def QYG:LT:={ live:=[],keep:=[] }
noncomputable def QWh:Bn:={ tab:=tab,fs:=[(206,QSx)],inl:=[] }
def iN (x:Zw×Int):Option (Bool):=
 ((kP (x.1,x.2)).bind fun x1=>(some (decide (x1≥0))))
def bS (x:Zw×Int):Option (Bool):=iN x
def QSy:U0:=⟨[Z6,Z2],[.bool],[false],fun x=>bS x⟩
theorem QXW:Hw Tryz.prog 191 QSy:=rz (E:=QWh) (lt:=QYG) (lv:=6) (N:=big) ⟨aK,(YH QXV Yc),fun _ _ _=>rfl,mixed,Yt,Y0,Yz⟩ Tryz.func191 fun x _ h=>Eq.trans (b:=bS x) (by kernel_rfl) h
def QQ7:LT:={ live:=[(4,[0,8,9,10])],keep:=[] }
noncomputable def QMW:Bn:={ tab:=tab,fs:=[(190,QSu),(191,QSy),(192,QSw)],inl:=[] }
noncomputable def QFP (v:Zv×Zv×Int×Int):St:={ s:=[(0,(.val ⟨qj,v.1⟩)),(8,(.val ⟨qj,v.2.1⟩)),(9,(.val ⟨Z2,v.2.2.1⟩)),(10,(.val ⟨Z2,v.2.2.2⟩))],l:=[],k:=[],b:=4096 }
def gD (aG:Zv×Zv×Int×Int->Option (Int)) (v:Zv×Zv×Int×Int):Option (Int):=
 (bif (decide (v.2.2.2 < v.2.2.1)) then ((Nk v.2.1 v.2.2.2).bind fun x1=>((pV (x1,v.2.2.2,(List.length v.1:Int))).bind fun x2=>(bif (!x2) then (some (8:Int)) else (let x3:Int:=(IntKind.i64.wrap (v.2.2.2+1));(aG (v.1,v.2.1,v.2.2.1,x3)))))) else ((xD v.1).bind fun x4=>((bS (x4,(5001:Int))).bind fun x5=>(bif x5 then (some (8:Int)) else (some (0:Int))))))
def p9 (N:Nat) (aG:Zv×Zv×Int×Int->Option (Int)) (v:Zv×Zv×Int×Int):Option (Int):=gD aG v
theorem QQk (N:Nat) (s0:St->Option (Int)) (v):(ZR (QMW) QQ7 6 N Tryz.f170 [Z2] [false] [] 0 Xv) s0 (QFP v)=p9 N (fun v=>s0 (QFP v)) v:=by kernel_rfl
def uT (aJ:Zv×Zv×Int×Int->Option (Int)) (x:Zv):Option (Int):=
 (bif (decide ((List.length x:Int) > 32)) then (some (8:Int)) else (aJ (x,x,(List.length x:Int),(0:Int))))
def QBK (N:Nat) (x:Zv):Option (Int):=uT (Gb (p9 N) N) x
theorem QZD (N:Nat) (x:Zv):rise (QMW) QQ7 6 N Tryz.f170 [qj] [Z2] [false] x=QBK N x:=Eq.trans (b:=uT (fun v=>Ot (ZR (QMW) QQ7 6 N Tryz.f170 [Z2] [false] [] 0 Xv) N (QFP v)) x) (by kernel_rfl) (by rw [funext (Tf QFP (QQk N) N)];rfl)
def yT (x:Zv):Option (Int):=QBK big x
def QSz:U0:=⟨[qj],[Z2],[false],fun x=>yT x⟩
theorem QXX:Hw Tryz.prog 170 QSz:=rz (E:=QMW) ⟨aK,(YH QXS (YH QXW (YH QXU Yc))),fun _ _ _=>rfl,mixed,Yt,Y0,Yz⟩ Tryz.func170 fun _ _ h=>(QZD big _).trans h
def QYH:LT:={ live:=[],keep:=[] }
noncomputable def QWi:Bn:={ tab:=tab,fs:=[],inl:=[] }
def tQ (x:Y78):Option (Bool):=
 (bif (decide (x.1≥0)) then (some (decide (x.1 < x.2))) else (some false))
def oH (x:Y78):Option (Bool):=tQ x
def QT0:U0:=⟨[Z2,Z2],[.bool],[false],fun x=>oH x⟩
theorem QXY:Hw Tryz.prog 171 QT0:=rz (E:=QWi) (lt:=QYH) (lv:=6) (N:=big) ⟨aK,Yc,fun _ _ _=>rfl,mixed,Yt,Y0,Yz⟩ Tryz.func171 fun x _ h=>Eq.trans (b:=oH x) (by kernel_rfl) h
def QYI:LT:={ live:=[],keep:=[] }
noncomputable def QWj:Bn:={ tab:=tab,fs:=[],inl:=[] }
def rF (x:Y78):Option (Int):=
 (let x1:Int:=(IntKind.i64.wrap (x.1+x.2));(let x2:Int:=(IntKind.i64.wrap (x1 - 1));(bif (x.2==0) then none else (let x3:Int:=(IntKind.i64.wrap (x2.tdiv x.2));(let x4:Int:=(IntKind.i64.wrap (x3 * x.2));(some x4))))))
def fP (x:Y78):Option (Int):=rF x
def QPV:U0:=⟨[Z2,Z2],[Z2],[false],fun x=>fP x⟩
theorem QUB:Hw Tryz.prog 135 QPV:=rz (E:=QWj) (lt:=QYI) (lv:=6) (N:=big) ⟨aK,Yc,fun _ _ _=>rfl,mixed,Yt,Y0,Yz⟩ Tryz.func135 fun x _ h=>Eq.trans (b:=fP x) (by kernel_rfl) h
def QQ8:LT:={ live:=[(4,[0,5,6,7,15,16,17])],keep:=[] }
noncomputable def QMX (mk:(α:Type)->Nat->α->List α):Bn:={ tab:=tab,fs:=[(135,QPV)],inl:=[],rep:=mk }
noncomputable def QFQ (v:Y34):St:={ s:=[(0,(.val ⟨(.slice Z14),v.1⟩)),(5,(.loc 0 [])),(6,(.row 1)),(7,(.loc 2 [])),(15,(.val ⟨Z7,v.2.1⟩)),(16,(.val ⟨Z2,v.2.2.1⟩)),(17,(.val ⟨Z2,v.2.2.2.1⟩))],l:=[(0,.var Z14 (.val ⟨Z14,v.2.2.2.2.1⟩)),(1,.row Z2 v.2.2.2.2.2.1),(2,.var Z14 (.val ⟨Z14,v.2.2.2.2.2.2⟩))],k:=[],b:=4096 }
def gF (mk:(α:Type)->Nat->α->List α) (aG:Y34->Option (Zw×yM)) (v:Y34):Option (Zw×yM):=
 (bif (decide (v.2.2.2.1 < v.2.2.1)) then ((Nk v.2.1 v.2.2.2.1).bind fun x3=>((Nk v.1 x3.2.1).bind fun x4=>((fP (v.2.2.2.2.2.2.1,x4.2.1)).bind fun x5=>(bif (decide (0<=v.2.2.2.1)&&decide (v.2.2.2.1 < (List.length v.2.2.2.2.2.1:Int))) then (let x6:Zw:=(List.set v.2.2.2.2.2.1 (Int.toNat v.2.2.2.1) x5);(bif (decide (0<=v.2.2.2.1)&&decide (v.2.2.2.1 < (List.length x6:Int))) then ((nth x6 (Int.toNat v.2.2.2.1)).bind fun x7=>(let x8:Int:=(IntKind.i64.wrap (x7+x4.1));(let x9:Int:=(if x4.2.1 > (x8,v.2.2.2.2.2.2.2).2.1 then x4.2.1 else (x8,v.2.2.2.2.2.2.2).2.1);(let iO:yM:=((x8,v.2.2.2.2.2.2.2).1,(x9,(x8,v.2.2.2.2.2.2.2).2.2));(let pE:Int:=(IntKind.i64.wrap (v.2.2.2.1+1));(aG (v.1,v.2.1,v.2.2.1,pE,v.2.2.2.2.1,x6,iO))))))) else none)) else none)))) else ((fP (v.2.2.2.2.2.2.1,v.2.2.2.2.2.2.2.1)).bind fun qh=>(some (v.2.2.2.2.2.1,(qh,v.2.2.2.2.2.2.2)))))
def jd (mk:(α:Type)->Nat->α->List α) (N:Nat) (aG:Y34->Option (Zw×yM)) (v:Y34):Option (Zw×yM):=gF mk aG v
theorem QQl (mk:(α:Type)->Nat->α->List α) (N:Nat) (s0:St->Option (Zw×yM)) (v):(ZR (QMX mk) QQ8 6 N Tryz.f208 [Z6,Z14] [true,false] [] 0 Xv) s0 (QFQ v)=jd mk N (fun v=>s0 (QFQ v)) v:=by kernel_rfl
def nI (mk:(α:Type)->Nat->α->List α) (aJ:Y34->Option (Zw×yM)) (x:Zz×aA):Option (Zw×yM):=
 (bif (decide (0<=(List.length x.2:Int))&&(decide ((List.length x.2:Int)<=(List.length x.2:Int))&&(decide ((List.length x.2:Int)<=68719476736)&&true))) then (let x1:Zw:=(mk Int (Int.toNat (List.length x.2:Int)) (0:Int));(let x2:yM:=((0:Int),((1:Int),()));(aJ (x.1,x.2,(List.length x.2:Int),(0:Int),((0:Int),((0:Int),())),x1,x2)))) else none)
def yI (mk:(α:Type)->Nat->α->List α) (N:Nat) (x:Zz×aA):Option (Zw×yM):=nI mk (Gb (jd mk N) N) x
theorem QZE (mk:(α:Type)->Nat->α->List α) (N:Nat) (x:Zz×aA):rise (QMX mk) QQ8 6 N Tryz.f208 [(.slice Z14),Z7] [Z6,Z14] [true,false] x=yI mk N x:=Eq.trans (b:=nI mk (fun v=>Ot (ZR (QMX mk) QQ8 6 N Tryz.f208 [Z6,Z14] [true,false] [] 0 Xv) N (QFQ v)) x) (by kernel_rfl) (by rw [funext (Tf QFQ (QQl mk N) N)];rfl)
def iq (x:Zz×aA):Option (Zw×yM):=yI (fun _=>List.replicate) big x
def QT1:U0:=⟨[(.slice Z14),Z7],[Z6,Z14],[true,false],fun x=>iq x⟩
theorem QXZ:Hw Tryz.prog 208 QT1:=rz (E:=QMX (fun _=>List.replicate)) ⟨aK,(YH QUB Yc),fun _ _ _=>rfl,mixed,Yt,Y0,Yz⟩ Tryz.func208 fun _ _ h=>(QZE (fun _=>List.replicate) big _).trans h
def QYJ:LT:={ live:=[],keep:=[] }
noncomputable def QWk:Bn:={ tab:=tab,fs:=[(208,QT1)],inl:=[] }
def rD (x:Y12×Zz):Option (yM):=
 (bif (x.1.1==2) then (bif (x.1.1==2) then (let x1:yM:=((8:Int),((8:Int),()));(some x1)) else (bif (x.1.1==3) then (let x2:yM:=((16:Int),((8:Int),()));(some x2)) else (bif (x.1.1==7) then (let x3:yM:=((24:Int),((8:Int),()));(some x3)) else (bif (x.1.1==6) then ((Nk x.2 x.1.2.1).bind fun x4=>(let x5:Int:=(IntKind.i64.wrap (x.1.2.2.1 * x4.1));(some (x5,(x4.2.1,()))))) else (bif (x.1.1==5) then ((iq (x.2,x.1.2.2.2.1)).bind fun x6=>(some x6.2)) else (let x7:yM:=((1:Int),((1:Int),()));(some x7))))))) else (bif (x.1.1==4) then (let x8:yM:=((8:Int),((8:Int),()));(some x8)) else (bif (x.1.1==3) then (let x9:yM:=((16:Int),((8:Int),()));(some x9)) else (bif (x.1.1==7) then (let iO:yM:=((24:Int),((8:Int),()));(some iO)) else (bif (x.1.1==6) then ((Nk x.2 x.1.2.1).bind fun pE=>(let qh:Int:=(IntKind.i64.wrap (x.1.2.2.1 * pE.1));(some (qh,(pE.2.1,()))))) else (bif (x.1.1==5) then ((iq (x.2,x.1.2.2.2.1)).bind fun sQ=>(some sQ.2)) else (let lN:yM:=((1:Int),((1:Int),()));(some lN))))))))
def mV (x:Y12×Zz):Option (yM):=rD x
def QT2:U0:=⟨[Z1,(.slice Z14)],[Z14],[false],fun x=>mV x⟩
theorem QXa:Hw Tryz.prog 193 QT2:=rz (E:=QWk) (lt:=QYJ) (lv:=6) (N:=big) ⟨aK,(YH QXZ Yc),fun _ _ _=>rfl,mixed,Yt,Y0,Yz⟩ Tryz.func193 fun x _ h=>Eq.trans (b:=mV x) (by kernel_rfl) h
def QQ9:LT:={ live:=[(3,[3,6,7,8])],keep:=[] }
noncomputable def QMY:Bn:={ tab:=tab,fs:=[(193,QT2)],inl:=[] }
noncomputable def QFR (v:Zv×Int×Int×Zz):St:={ s:=[(3,(.row 0)),(6,(.val ⟨qj,v.1⟩)),(7,(.val ⟨Z2,v.2.1⟩)),(8,(.val ⟨Z2,v.2.2.1⟩))],l:=[(0,.row Z14 v.2.2.2)],k:=[],b:=4096 }
def gy (aG:Zv×Int×Int×Zz->Option (Zz)) (v:Zv×Int×Int×Zz):Option (Zz):=
 (bif (decide (v.2.2.1 < v.2.1)) then ((Nk v.1 v.2.2.1).bind fun x1=>((mV (x1,v.2.2.2)).bind fun x2=>(let x3:Zz:=([x2]:Zz);(bif (Nat.ble 1 2&&Nat.ble (List.length v.2.2.2+List.length x3) lim) then (let x4:Int:=(IntKind.i64.wrap (v.2.2.1+1));(aG (v.1,v.2.1,x4,(List.append v.2.2.2 x3)))) else none)))) else (some v.2.2.2))
def kZ (N:Nat) (aG:Zv×Int×Int×Zz->Option (Zz)) (v:Zv×Int×Int×Zz):Option (Zz):=gy aG v
theorem QQm (N:Nat) (s0:St->Option (Zz)) (v):(ZR (QMY) QQ9 6 N Tryz.f172 [(.slice Z14)] [true] [] 0 Xv) s0 (QFR v)=kZ N (fun v=>s0 (QFR v)) v:=by kernel_rfl
def oQ (aJ:Zv×Int×Int×Zz->Option (Zz)) (x:Zv):Option (Zz):=
 (aJ (x,(List.length x:Int),(0:Int),([]:List yM)))
def zN (N:Nat) (x:Zv):Option (Zz):=oQ (Gb (kZ N) N) x
theorem QZF (N:Nat) (x:Zv):rise (QMY) QQ9 6 N Tryz.f172 [qj] [(.slice Z14)] [true] x=zN N x:=Eq.trans (b:=oQ (fun v=>Ot (ZR (QMY) QQ9 6 N Tryz.f172 [(.slice Z14)] [true] [] 0 Xv) N (QFR v)) x) (by kernel_rfl) (by rw [funext (Tf QFR (QQm N) N)];rfl)
def su (x:Zv):Option (Zz):=zN big x
def QT3:U0:=⟨[qj],[(.slice Z14)],[true],fun x=>su x⟩
theorem QXb:Hw Tryz.prog 172 QT3:=rz (E:=QMY) ⟨aK,(YH QXa Yc),fun _ _ _=>rfl,mixed,Yt,Y0,Yz⟩ Tryz.func172 fun _ _ h=>(QZF big _).trans h
def QYK:LT:={ live:=[],keep:=[] }
noncomputable def QWl:Bn:={ tab:=tab,fs:=[(170,QSz),(171,QT0),(172,QT3)],inl:=[] }
def rE (x:zF):Option (Zz×Int):=
 ((yT x.1).bind fun x1=>(bif (x1 != 0) then (some (([]:List yM),x1)) else ((oH (x.2,(List.length x.1:Int))).bind fun x2=>(bif (!x2) then (some (([]:List yM),(2:Int))) else ((su x.1).bind fun x3=>(bif (decide (0<=x.2)&&decide (x.2 < (List.length x3:Int))) then ((nth x3 (Int.toNat x.2)).bind fun x4=>(bif (decide (x4.1 > 256)) then (some (([]:List yM),(16:Int))) else (some (x3,(0:Int))))) else none))))))
def mW (x:zF):Option (Zz×Int):=rE x
def QT4:U0:=⟨[qj,Z2],[(.slice Z14),Z2],[true,false],fun x=>mW x⟩
theorem QXc:Hw Tryz.prog 134 QT4:=rz (E:=QWl) (lt:=QYK) (lv:=6) (N:=big) ⟨aK,(YH QXX (YH QXY (YH QXb Yc))),fun _ _ _=>rfl,mixed,Yt,Y0,Yz⟩ Tryz.func134 fun x _ h=>Eq.trans (b:=mW x) (by kernel_rfl) h
def QYL:LT:={ live:=[],keep:=[] }
noncomputable def QWm:Bn:={ tab:=tab,fs:=[(134,QT4)],inl:=[] }
def y8 (x:zF):Option Y20:=
 ((mW (x.1,x.2)).bind fun x1=>(bif (x1.2 != 0) then (some ((0:Int),(0:Int),x1.2)) else (bif (decide (0<=x.2)&&decide (x.2 < (List.length x1.1:Int))) then ((nth x1.1 (Int.toNat x.2)).bind fun x2=>(bif (decide (0<=x.2)&&decide (x.2 < (List.length x1.1:Int))) then ((nth x1.1 (Int.toNat x.2)).bind fun x3=>(some (x2.1,x3.2.1,(0:Int)))) else none)) else none)))
def pX (x:zF):Option Y20:=y8 x
def QPW:U0:=⟨[qj,Z2],[Z2,Z2,Z2],[false,false,false],fun x=>pX x⟩
theorem QUC:Hw Tryz.prog 85 QPW:=rz (E:=QWm) (lt:=QYL) (lv:=6) (N:=big) ⟨aK,(YH QXc Yc),fun _ _ _=>rfl,mixed,Yt,Y0,Yz⟩ Tryz.func85 fun x _ h=>Eq.trans (b:=pX x) (by kernel_rfl) h
def QQA:LT:={ live:=[(2,[0,8,9])],keep:=[] }
noncomputable def QMZ:Bn:={ tab:=tab,fs:=[(85,QPW)],inl:=[] }
noncomputable def QFS (v:Y70):St:={ s:=[(0,(.val ⟨qj,v.1⟩)),(8,(.val ⟨Z2,v.2.1⟩)),(9,(.val ⟨Z2,v.2.2⟩))],l:=[],k:=[],b:=4096 }
def qM (aG:Y70->Option (Bool)) (v:Y70):Option (Bool):=
 (bif (decide (v.2.2 < v.2.1)) then ((pX (v.1,v.2.2)).bind fun x1=>(bif (x1.2.2 != 0) then (some false) else (let x2:Int:=(IntKind.i64.wrap (v.2.2+1));(aG (v.1,v.2.1,x2))))) else (some true))
def eX (N:Nat) (aG:Y70->Option (Bool)) (v:Y70):Option (Bool):=qM aG v
theorem QQn (N:Nat) (s0:St->Option (Bool)) (v):(ZR (QMZ) QQA 6 N Tryz.f148 [.bool] [false] [] 0 Xv) s0 (QFS v)=eX N (fun v=>s0 (QFS v)) v:=by kernel_rfl
def oO (aJ:Y70->Option (Bool)) (x:Zv):Option (Bool):=
 (aJ (x,(List.length x:Int),(0:Int)))
def zL (N:Nat) (x:Zv):Option (Bool):=oO (Gb (eX N) N) x
theorem QZG (N:Nat) (x:Zv):rise (QMZ) QQA 6 N Tryz.f148 [qj] [.bool] [false] x=zL N x:=Eq.trans (b:=oO (fun v=>Ot (ZR (QMZ) QQA 6 N Tryz.f148 [.bool] [false] [] 0 Xv) N (QFS v)) x) (by kernel_rfl) (by rw [funext (Tf QFS (QQn N) N)];rfl)
def sj (x:Zv):Option (Bool):=zL big x
def QT5:U0:=⟨[qj],[.bool],[false],fun x=>sj x⟩
theorem QXd:Hw Tryz.prog 148 QT5:=rz (E:=QMZ) ⟨aK,(YH QUC Yc),fun _ _ _=>rfl,mixed,Yt,Y0,Yz⟩ Tryz.func148 fun _ _ h=>(QZG big _).trans h
def QQB:LT:={ live:=[(4,[8,9,10])],keep:=[] }
noncomputable def QMa:Bn:={ tab:=tab,fs:=[],inl:=[] }
noncomputable def QFT (v:xZ×Int×Int):St:={ s:=[(8,(.val ⟨(.slice .str),v.1⟩)),(9,(.val ⟨Z2,v.2.1⟩)),(10,(.val ⟨Z2,v.2.2⟩))],l:=[],k:=[],b:=4096 }
def qL (aG:xZ×Int×Int->Option (Bool)) (v:xZ×Int×Int):Option (Bool):=
 (bif (decide (v.2.2 < v.2.1)) then ((Nk v.1 v.2.2).bind fun x1=>(bif (decide ((List.length x1:Int) > 64)) then (some false) else (let x2:Int:=(IntKind.i64.wrap (v.2.2+1));(aG (v.1,v.2.1,x2))))) else (some true))
def eU (N:Nat) (aG:xZ×Int×Int->Option (Bool)) (v:xZ×Int×Int):Option (Bool):=qL aG v
theorem QQo (N:Nat) (s0:St->Option (Bool)) (v):(ZR (QMa) QQB 6 N Tryz.f149 [.bool] [false] [] 0 Xv) s0 (QFT v)=eU N (fun v=>s0 (QFT v)) v:=by kernel_rfl
def oN (aJ:xZ×Int×Int->Option (Bool)) (x:xZ):Option (Bool):=
 (bif (decide ((List.length x:Int) > 32)) then (some false) else (aJ (x,(List.length x:Int),(0:Int))))
def zK (N:Nat) (x:xZ):Option (Bool):=oN (Gb (eU N) N) x
theorem QZH (N:Nat) (x:xZ):rise (QMa) QQB 6 N Tryz.f149 [(.slice .str)] [.bool] [false] x=zK N x:=Eq.trans (b:=oN (fun v=>Ot (ZR (QMa) QQB 6 N Tryz.f149 [.bool] [false] [] 0 Xv) N (QFT v)) x) (by kernel_rfl) (by rw [funext (Tf QFT (QQo N) N)];rfl)
def sZ (x:xZ):Option (Bool):=zK big x
def QT6:U0:=⟨[(.slice .str)],[.bool],[false],fun x=>sZ x⟩
theorem QXe:Hw Tryz.prog 149 QT6:=rz (E:=QMa) ⟨aK,Yc,fun _ _ _=>rfl,mixed,Yt,Y0,Yz⟩ Tryz.func149 fun _ _ h=>(QZH big _).trans h
def QYN:LT:={ live:=[],keep:=[] }
noncomputable def QWn:Bn:={ tab:=tab,fs:=[],inl:=[] }
def vU (x:Y78):Option (Bool):=
 (bif (decide (x.1≥0)) then (some (decide (x.1 < x.2))) else (some false))
def lV (x:Y78):Option (Bool):=vU x
def QPX:U0:=⟨[Z2,Z2],[.bool],[false],fun x=>lV x⟩
theorem QUD:Hw Tryz.prog 195 QPX:=rz (E:=QWn) (lt:=QYN) (lv:=6) (N:=big) ⟨aK,Yc,fun _ _ _=>rfl,mixed,Yt,Y0,Yz⟩ Tryz.func195 fun x _ h=>Eq.trans (b:=lV x) (by kernel_rfl) h
def QYP:LT:={ live:=[],keep:=[] }
noncomputable def QWo:Bn:={ tab:=tab,fs:=[],inl:=[] }
def QBZ (x:(Zw×Y19)):Option (Zw):=
 (some x.1)
def kX (x:(Zw×Y19)):Option (Zw):=QBZ x
def QT7:U0:=⟨[(.pair .str (.pair Z2 .unit))],[.str],[false],fun x=>kX x⟩
theorem QXf:Hw Tryz.prog 210 QT7:=rz (E:=QWo) (lt:=QYP) (lv:=6) (N:=big) ⟨aK,Yc,fun _ _ _=>rfl,mixed,Yt,Y0,Yz⟩ Tryz.func210 fun x _ h=>Eq.trans (b:=kX x) (by kernel_rfl) h
def QLG:LT:={ live:=[(4,[0,1,10,11,12])],keep:=[(23,[])] }
noncomputable def QJG:Bn:={ tab:=tab,fs:=[(195,QPX),(198,QMl),(210,QT7)],inl:=[(209,Tryz.f209,QYO)] }
noncomputable def QNe (v:aA×Int×Int×Y17):St:={ s:=[(1,(.Ee 210 .unit)),(5,(.mp 0)),(10,(.val ⟨Z7,v.1⟩)),(11,(.val ⟨Z2,v.2.1⟩)),(12,(.val ⟨Z2,v.2.2.1⟩))],l:=[(0,.mp .str .bool v.2.2.2)],k:=[(4096,[])],b:=16875520 }
noncomputable def QBx (v:Y46):St:={ s:=[(0,(.val ⟨Z7,v.1⟩)),(1,(.val ⟨Z2,v.2.1⟩)),(10,(.val ⟨Z7,v.2.2.1⟩)),(11,(.val ⟨Z2,v.2.2.2.1⟩)),(12,(.val ⟨Z2,v.2.2.2.2⟩))],l:=[],k:=[],b:=4096 }
def qK (aG:Y46->Option (Bool)) (aH:aA×Int×Int×Y17->Option (Bool)) (v:aA×Int×Int×Y17):Option (Bool):=
 (bif (decide (v.2.2.1 < v.2.1)) then ((Nk v.1 v.2.2.1).bind fun x4=>((kX x4).bind fun x5=>((pU x5).bind fun x6=>(bif (!x6) then (some false) else (bif (@Pw .str .bool x5 false v.2.2.2).1 then (some false) else (let x7:Y17:=(@MO .str .bool x5 true v.2.2.2);(let x8:Int:=(IntKind.i64.wrap (v.2.2.1+1));(aH (v.1,v.2.1,x8,x7))))))))) else (some true))
def eT (N:Nat) (aG:Y46->Option (Bool)) (aH:aA×Int×Int×Y17->Option (Bool)) (v:aA×Int×Int×Y17):Option (Bool):=qK aG aH v
theorem QYp (N:Nat) (s0:St->Option (Bool)) (s1:St->Option (Bool)) (v):(ZR (QJG) QLG 6 N Tryz.f194 [.bool] [false] [.call 9 1 209] 0 Xv) s1 (QNe v)=eT N (fun v=>s0 (QBx v)) (fun v=>s1 (QNe v)) v:=by kernel_rfl
def lC (bF:aA×Int×Int×Y17->Option (Bool)) (aG:Y46->Option (Bool)) (v:Y46):Option (Bool):=
 (bif (decide (v.2.2.2.2 < v.2.2.2.1)) then ((Nk v.2.2.1 v.2.2.2.2).bind fun x1=>((lV (x1.2.1,v.2.1)).bind fun x2=>(bif (!x2) then (some false) else (let x3:Int:=(IntKind.i64.wrap (v.2.2.2.2+1));(aG (v.1,v.2.1,v.2.2.1,v.2.2.2.1,x3)))))) else (bF (v.1,(List.length v.1:Int),(0:Int),([]:List Y22))))
def eP (N:Nat) (aG:Y46->Option (Bool)) (v:Y46):Option (Bool):=lC (Gb (eT N aG) N) aG v
theorem QQp (N:Nat) (s0:St->Option (Bool)) (v):(ZR (QJG) QLG 6 N Tryz.f194 [.bool] [false] [] 0 Xv) s0 (QBx v)=eP N (fun v=>s0 (QBx v)) v:=Eq.trans (b:=lC (fun v=>Ot (ZR (QJG) QLG 6 N Tryz.f194 [.bool] [false] [.call 9 1 209] 0 Xv) N (QNe v)) (fun v=>s0 (QBx v)) v) (by kernel_rfl) (by rw [funext (Tf QNe (QYp N s0) N)];rfl)
def oM (aJ:Y46->Option (Bool)) (x:aA×Int):Option (Bool):=
 (bif (decide ((List.length x.1:Int) > 16)) then (some false) else (aJ (x.1,x.2,x.1,(List.length x.1:Int),(0:Int))))
def zJ (N:Nat) (x:aA×Int):Option (Bool):=oM (Gb (eP N) N) x
theorem QZI (N:Nat) (x:aA×Int):rise (QJG) QLG 6 N Tryz.f194 [Z7,Z2] [.bool] [false] x=zJ N x:=Eq.trans (b:=oM (fun v=>Ot (ZR (QJG) QLG 6 N Tryz.f194 [.bool] [false] [] 0 Xv) N (QBx v)) x) (by kernel_rfl) (by rw [funext (Tf QBx (QQp N) N)];rfl)
def sW (x:aA×Int):Option (Bool):=zJ big x
def QT8:U0:=⟨[Z7,Z2],[.bool],[false],fun x=>sW x⟩
theorem QXg:Hw Tryz.prog 194 QT8:=rz (E:=QJG) ⟨aK,(YH QUD (YH QPj (YH QXf Yc))),fun _ _ _=>rfl,mixed,(YP (YO Tryz.func209 rfl rfl (by kernel_rfl)) Yt),Y0,Yz⟩ Tryz.func194 fun _ _ h=>(QZI big _).trans h
def QYQ:LT:={ live:=[],keep:=[] }
noncomputable def QWp:Bn:={ tab:=tab,fs:=[],inl:=[] }
def yK (x:Int):Option (Bool):=
 (bif (decide (x≥1)) then (some (decide (x<=34))) else (some false))
def iw (x:Int):Option (Bool):=yK x
def QT9:U0:=⟨[mQ],[.bool],[false],fun x=>iw x⟩
theorem QXh:Hw Tryz.prog 139 QT9:=rz (E:=QWp) (lt:=QYQ) (lv:=6) (N:=big) ⟨aK,Yc,fun _ _ _=>rfl,mixed,Yt,Y0,Yz⟩ Tryz.func139 fun x _ h=>Eq.trans (b:=iw x) (by kernel_rfl) h
def QYR:LT:={ live:=[],keep:=[] }
noncomputable def QWq:Bn:={ tab:=tab,fs:=[],inl:=[] }
def QEG (x:Zy):Option (Zw):=
 (let x1:Zw:=[x.2.1,x.2.2.1,x.2.2.2.1];(some x1))
def j4 (x:Zy):Option (Zw):=QEG x
def QMm:U0:=⟨[Z4],[(.arr 3 Z2)],[false],fun x=>j4 x⟩
theorem QPk:Hw Tryz.prog 140 QMm:=rz (E:=QWq) (lt:=QYR) (lv:=6) (N:=big) ⟨aK,Yc,fun _ _ _=>rfl,mixed,Yt,Y0,Yz⟩ Tryz.func140 fun x _ h=>Eq.trans (b:=j4 x) (by kernel_rfl) h
def QYS:LT:={ live:=[],keep:=[] }
noncomputable def QWr:Bn:={ tab:=tab,fs:=[],inl:=[] }
def QBa (x:Y78):Option (Bool):=
 (bif (decide (x.1≥0)) then (some (decide (x.1 < x.2))) else (some false))
def aN (x:Y78):Option (Bool):=QBa x
def QTA:U0:=⟨[Z2,Z2],[.bool],[false],fun x=>aN x⟩
theorem QXi:Hw Tryz.prog 174 QTA:=rz (E:=QWr) (lt:=QYS) (lv:=6) (N:=big) ⟨aK,Yc,fun _ _ _=>rfl,mixed,Yt,Y0,Yz⟩ Tryz.func174 fun x _ h=>Eq.trans (b:=aN x) (by kernel_rfl) h
def QYT:LT:={ live:=[],keep:=[] }
noncomputable def QWs:Bn:={ tab:=tab,fs:=[(174,QTA)],inl:=[] }
def QEo (x:Y78):Option (Bool):=
 (bif (x.1==5) then (some true) else (bif (x.1==3) then (bif (x.1==3) then (bif (x.2==(-1:Int)) then (some true) else ((aN (x.2,(16:Int))).bind fun x1=>(some x1))) else (bif (x.1==1) then (bif (x.1==1) then ((aN (x.2,(16:Int))).bind fun x2=>(some x2)) else (bif (x.1==6) then ((aN (x.2,(2:Int))).bind fun x3=>(some x3)) else (bif (x.1==7) then ((aN (x.2,(32:Int))).bind fun x4=>(some x4)) else (bif (x.1==8) then ((aN (x.2,(8:Int))).bind fun x5=>(some x5)) else (bif (x.1==9) then ((aN (x.2,(32:Int))).bind fun x6=>(some x6)) else (bif (x.1==10) then ((aN (x.2,(200:Int))).bind fun x7=>(some x7)) else (some (x.2==0)))))))) else (bif (x.1==2) then ((aN (x.2,(16:Int))).bind fun x8=>(some x8)) else (bif (x.1==6) then ((aN (x.2,(2:Int))).bind fun x9=>(some x9)) else (bif (x.1==7) then ((aN (x.2,(32:Int))).bind fun iO=>(some iO)) else (bif (x.1==8) then ((aN (x.2,(8:Int))).bind fun pE=>(some pE)) else (bif (x.1==9) then ((aN (x.2,(32:Int))).bind fun qh=>(some qh)) else (bif (x.1==10) then ((aN (x.2,(200:Int))).bind fun sQ=>(some sQ)) else (some (x.2==0)))))))))) else (bif (x.1==4) then (bif (x.2==(-1:Int)) then (some true) else ((aN (x.2,(16:Int))).bind fun lN=>(some lN))) else (bif (x.1==1) then (bif (x.1==1) then ((aN (x.2,(16:Int))).bind fun lS=>(some lS)) else (bif (x.1==6) then ((aN (x.2,(2:Int))).bind fun xq=>(some xq)) else (bif (x.1==7) then ((aN (x.2,(32:Int))).bind fun zS=>(some zS)) else (bif (x.1==8) then ((aN (x.2,(8:Int))).bind fun x18=>(some x18)) else (bif (x.1==9) then ((aN (x.2,(32:Int))).bind fun zU=>(some zU)) else (bif (x.1==10) then ((aN (x.2,(200:Int))).bind fun x20=>(some x20)) else (some (x.2==0)))))))) else (bif (x.1==2) then ((aN (x.2,(16:Int))).bind fun x21=>(some x21)) else (bif (x.1==6) then ((aN (x.2,(2:Int))).bind fun zV=>(some zV)) else (bif (x.1==7) then ((aN (x.2,(32:Int))).bind fun x23=>(some x23)) else (bif (x.1==8) then ((aN (x.2,(8:Int))).bind fun x24=>(some x24)) else (bif (x.1==9) then ((aN (x.2,(32:Int))).bind fun x25=>(some x25)) else (bif (x.1==10) then ((aN (x.2,(200:Int))).bind fun x26=>(some x26)) else (some (x.2==0))))))))))))
def yB (x:Y78):Option (Bool):=QEo x
def QTB:U0:=⟨[mQ,Z2],[.bool],[false],fun x=>yB x⟩
theorem QXj:Hw Tryz.prog 141 QTB:=rz (E:=QWs) (lt:=QYT) (lv:=6) (N:=big) ⟨aK,(YH QXi Yc),fun _ _ _=>rfl,mixed,Yt,Y0,Yz⟩ Tryz.func141 fun x _ h=>Eq.trans (b:=yB x) (by kernel_rfl) h
def QQC:LT:={ live:=[(5,[3,16,17])],keep:=[] }
noncomputable def QMb:Bn:={ tab:=tab,fs:=[(139,QT9),(140,QMm),(141,QTB)],inl:=[] }
noncomputable def QFU (v:Y75):St:={ s:=[(3,(.loc 0 [])),(16,(.val ⟨(.arr 3 mQ),v.1⟩)),(17,(.val ⟨Z2,v.2.1⟩))],l:=[(0,.var (.arr 3 Z2) (.val ⟨(.arr 3 Z2),v.2.2⟩))],k:=[],b:=4096 }
def yu (aG:Y75->Option (Int)) (v:Y75):Option (Int):=
 (bif (decide (v.2.1 < 3)) then ((Nk v.1 v.2.1).bind fun x4=>(bif (decide (0<=v.2.1)&&decide (v.2.1 < 3)) then ((nth v.2.2 (Int.toNat v.2.1)).bind fun x5=>((yB (x4,x5)).bind fun x6=>(bif (!x6) then (some (8:Int)) else (let x7:Int:=(IntKind.i64.wrap (v.2.1+1));(aG (v.1,x7,v.2.2)))))) else none)) else (some (0:Int)))
def uJ (N:Nat) (aG:Y75->Option (Int)) (v:Y75):Option (Int):=yu aG v
theorem QQq (N:Nat) (s0:St->Option (Int)) (v):(ZR (QMb) QQC 6 N Tryz.f98 [Z2] [false] [] 0 Xv) s0 (QFU v)=uJ N (fun v=>s0 (QFU v)) v:=by kernel_rfl
def y9 (aJ:Y75->Option (Int)) (x:Zy):Option (Int):=
 ((iw x.1).bind fun x1=>(bif (!x1) then (some (8:Int)) else ((j4 x).bind fun x2=>((Nk ZT x.1).bind fun x3=>(aJ (x3.2.1,(0:Int),x2))))))
def QDq (N:Nat) (x:Zy):Option (Int):=y9 (Gb (uJ N) N) x
theorem QZJ (N:Nat) (x:Zy):rise (QMb) QQC 6 N Tryz.f98 [Z4] [Z2] [false] x=QDq N x:=Eq.trans (b:=y9 (fun v=>Ot (ZR (QMb) QQC 6 N Tryz.f98 [Z2] [false] [] 0 Xv) N (QFU v)) x) (by kernel_rfl) (by rw [funext (Tf QFU (QQq N) N)];rfl)
def qx (x:Zy):Option (Int):=QDq big x
def QKb:U0:=⟨[Z4],[Z2],[false],fun x=>qx x⟩
theorem QMn:Hw Tryz.prog 98 QKb:=rz (E:=QMb) ⟨aK,(YH QXh (YH QPk (YH QXj Yc))),fun _ _ _=>rfl,mixed,Yt,Y0,Yz⟩ Tryz.func98 fun _ _ h=>(QZJ big _).trans h
def QQD:LT:={ live:=[(4,[13,14,15])],keep:=[] }
noncomputable def QMc:Bn:={ tab:=tab,fs:=[(98,QKb)],inl:=[] }
noncomputable def QFV (v:Y73):St:={ s:=[(13,(.val ⟨ql,v.1⟩)),(14,(.val ⟨Z2,v.2.1⟩)),(15,(.val ⟨Z2,v.2.2⟩))],l:=[],k:=[],b:=4096 }
def tJ (aG:Y73->Option (Bool)) (v:Y73):Option (Bool):=
 (bif (decide (v.2.2 < v.2.1)) then ((Nk v.1 v.2.2).bind fun x1=>((qx x1).bind fun x2=>(bif (x2 != 0) then (some false) else (let x3:Int:=(IntKind.i64.wrap (v.2.2+1));(aG (v.1,v.2.1,x3)))))) else (some true))
def gP (N:Nat) (aG:Y73->Option (Bool)) (v:Y73):Option (Bool):=tJ aG v
theorem QQr (N:Nat) (s0:St->Option (Bool)) (v):(ZR (QMc) QQD 6 N Tryz.f196 [.bool] [false] [] 0 Xv) s0 (QFV v)=gP N (fun v=>s0 (QFV v)) v:=by kernel_rfl
def sG (aJ:Y73->Option (Bool)) (x:aB):Option (Bool):=
 (bif (decide ((List.length x:Int) < 1)) then (some false) else (bif (decide ((List.length x:Int) > 200)) then (some false) else (aJ (x,(List.length x:Int),(0:Int)))))
def QAV (N:Nat) (x:aB):Option (Bool):=sG (Gb (gP N) N) x
theorem QZK (N:Nat) (x:aB):rise (QMc) QQD 6 N Tryz.f196 [ql] [.bool] [false] x=QAV N x:=Eq.trans (b:=sG (fun v=>Ot (ZR (QMc) QQD 6 N Tryz.f196 [.bool] [false] [] 0 Xv) N (QFV v)) x) (by kernel_rfl) (by rw [funext (Tf QFV (QQr N) N)];rfl)
def rP (x:aB):Option (Bool):=QAV big x
def QTC:U0:=⟨[ql],[.bool],[false],fun x=>rP x⟩
theorem QXk:Hw Tryz.prog 196 QTC:=rz (E:=QMc) ⟨aK,(YH QMn Yc),fun _ _ _=>rfl,mixed,Yt,Y0,Yz⟩ Tryz.func196 fun _ _ h=>(QZK big _).trans h
def QYV:LT:={ live:=[],keep:=[] }
noncomputable def QWt:Bn:={ tab:=tab,fs:=[],inl:=[] }
def tX (x:Int):Option (Bool):=
 (bif (decide (x≥1)) then (some (decide (x<=200))) else (some false))
def jv (x:Int):Option (Bool):=tX x
def QPY:U0:=⟨[Z2],[.bool],[false],fun x=>jv x⟩
theorem QUE:Hw Tryz.prog 168 QPY:=rz (E:=QWt) (lt:=QYV) (lv:=6) (N:=big) ⟨aK,Yc,fun _ _ _=>rfl,mixed,Yt,Y0,Yz⟩ Tryz.func168 fun x _ h=>Eq.trans (b:=jv x) (by kernel_rfl) h
def QYW:LT:={ live:=[],keep:=[] }
noncomputable def QWu:Bn:={ tab:=tab,fs:=[],inl:=[] }
def QBb (x:yM×yM):Option (Bool):=
 (some (JW Z16 (x.2.1,x.1.2) x.2))
def gX (x:yM×yM):Option (Bool):=QBb x
def QPZ:U0:=⟨[Z16,Z16],[.bool],[false],fun x=>gX x⟩
theorem QUF:Hw Tryz.prog 169 QPZ:=rz (E:=QWu) (lt:=QYW) (lv:=6) (N:=big) ⟨aK,Yc,fun _ _ _=>rfl,mixed,Yt,Y0,Yz⟩ Tryz.func169 fun x _ h=>Eq.trans (b:=gX x) (by kernel_rfl) h
def QQE:LT:={ live:=[(6,[0,32,33])],keep:=[] }
noncomputable def QMd:Bn:={ tab:=tab,fs:=[(168,QPY),(169,QPZ)],inl:=[] }
noncomputable def QFW (v:Y72):St:={ s:=[(0,(.val ⟨Z5,v.1⟩)),(32,(.val ⟨Z2,v.2.1⟩)),(33,(.val ⟨Z2,v.2.2⟩))],l:=[],k:=[],b:=4096 }
def j3 (aG:Y72->Option (Int)) (v:Y72):Option (Int):=
 (bif (decide (v.2.2 < v.2.1)) then ((Nk v.1 v.2.2).bind fun x6=>(let x7:Int:=(IntKind.i64.wrap (v.2.2+1));((Nk v.1 x7).bind fun x8=>(bif (decide (x6.1≥x8.1)) then (some (8:Int)) else ((Nk v.1 v.2.2).bind fun x9=>(let iO:Int:=(IntKind.i64.wrap (v.2.2+1));((Nk v.1 iO).bind fun pE=>((gX (x9,pE)).bind fun qh=>(bif qh then (some (8:Int)) else (let sQ:Int:=(IntKind.i64.wrap (v.2.2+1));(aG (v.1,v.2.1,sQ)))))))))))) else (some (0:Int)))
def oJ (N:Nat) (aG:Y72->Option (Int)) (v:Y72):Option (Int):=j3 aG v
theorem QQs (N:Nat) (s0:St->Option (Int)) (v):(ZR (QMd) QQE 6 N Tryz.f197 [Z2] [false] [] 0 Xv) s0 (QFW v)=oJ N (fun v=>s0 (QFW v)) v:=by kernel_rfl
def sJ (aJ:Y72->Option (Int)) (x:Zz×Int):Option (Int):=
 ((jv x.2).bind fun x1=>(bif (!x1) then (some (2:Int)) else (bif ((List.length x.1:Int)==0) then (some (8:Int)) else ((Nk x.1 (0:Int)).bind fun x2=>(bif (x2.1 != 0) then (some (8:Int)) else (let x3:Int:=(IntKind.i64.wrap ((List.length x.1:Int) - 1));((Nk x.1 x3).bind fun x4=>(bif (decide (x4.1≥x.2)) then (some (8:Int)) else (let x5:Int:=(IntKind.i64.wrap ((List.length x.1:Int) - 1));(aJ (x.1,x5,(0:Int))))))))))))
def QAa (N:Nat) (x:Zz×Int):Option (Int):=sJ (Gb (oJ N) N) x
theorem QZL (N:Nat) (x:Zz×Int):rise (QMd) QQE 6 N Tryz.f197 [Z5,Z2] [Z2] [false] x=QAa N x:=Eq.trans (b:=sJ (fun v=>Ot (ZR (QMd) QQE 6 N Tryz.f197 [Z2] [false] [] 0 Xv) N (QFW v)) x) (by kernel_rfl) (by rw [funext (Tf QFW (QQs N) N)];rfl)
def iH (x:Zz×Int):Option (Int):=QAa big x
def QPa:U0:=⟨[Z5,Z2],[Z2],[false],fun x=>iH x⟩
theorem QUG:Hw Tryz.prog 197 QPa:=rz (E:=QMd) ⟨aK,(YH QUE (YH QUF Yc)),fun _ _ _=>rfl,mixed,Yt,Y0,Yz⟩ Tryz.func197 fun _ _ h=>(QZL big _).trans h
def QYX:LT:={ live:=[],keep:=[] }
noncomputable def QWv:Bn:={ tab:=tab,fs:=[(194,QT8),(195,QPX),(196,QTC),(197,QPa)],inl:=[] }
def xS (x:Zu×Int):Option (Bool):=
 ((sW (x.1.2.2.2.1,x.2)).bind fun x1=>(bif (!x1) then (some false) else (bif (decide (x.1.2.1 < 0)) then (some false) else (bif (decide (x.1.2.1 > (List.length x.1.2.2.2.1:Int))) then (some false) else (bif (x.1.2.2.1 != (-1:Int)) then ((lV (x.1.2.2.1,x.2)).bind fun x2=>(bif (!x2) then (some false) else ((rP x.1.2.2.2.2.1).bind fun x3=>(bif x3 then ((iH (x.1.2.2.2.2.2.1,(List.length x.1.2.2.2.2.1:Int))).bind fun x4=>(bif (x4==0) then ((iH (x.1.2.2.2.2.2.2.1,(List.length x.1.2.2.2.2.1:Int))).bind fun x5=>(some (x5==0))) else (some false))) else (some false))))) else ((rP x.1.2.2.2.2.1).bind fun x6=>(bif x6 then ((iH (x.1.2.2.2.2.2.1,(List.length x.1.2.2.2.2.1:Int))).bind fun x7=>(bif (x7==0) then ((iH (x.1.2.2.2.2.2.2.1,(List.length x.1.2.2.2.2.1:Int))).bind fun x8=>(some (x8==0))) else (some false))) else (some false))))))))
def rQ (x:Zu×Int):Option (Bool):=xS x
def QTD:U0:=⟨[Z0,Z2],[.bool],[false],fun x=>rQ x⟩
theorem QXl:Hw Tryz.prog 177 QTD:=rz (E:=QWv) (lt:=QYX) (lv:=6) (N:=big) ⟨aK,(YH QXg (YH QUD (YH QXk (YH QUG Yc)))),fun _ _ _=>rfl,mixed,Yt,Y0,Yz⟩ Tryz.func177 fun x _ h=>Eq.trans (b:=rQ x) (by kernel_rfl) h
def QYZ:LT:={ live:=[],keep:=[] }
noncomputable def QWw:Bn:={ tab:=tab,fs:=[],inl:=[] }
def QBY (x:Zu):Option (Zw):=
 (some x.1)
def kW (x:Zu):Option (Zw):=QBY x
def QTE:U0:=⟨[Z0],[.str],[false],fun x=>kW x⟩
theorem QXm:Hw Tryz.prog 179 QTE:=rz (E:=QWw) (lt:=QYZ) (lv:=6) (N:=big) ⟨aK,Yc,fun _ _ _=>rfl,mixed,Yt,Y0,Yz⟩ Tryz.func179 fun x _ h=>Eq.trans (b:=kW x) (by kernel_rfl) h
def QLH:LT:={ live:=[(4,[0,1,15,16,17])],keep:=[(27,[])] }
noncomputable def QJH:Bn:={ tab:=tab,fs:=[(177,QTD),(179,QTE),(198,QMl)],inl:=[(178,Tryz.f178,QYY)] }
noncomputable def QNf (v:Y16×Int×Int×Y17):St:={ s:=[(1,(.Ee 179 .unit)),(5,(.mp 0)),(10,(.val ⟨(.slice Z0),v.1⟩)),(11,(.val ⟨Z2,v.2.1⟩)),(12,(.val ⟨Z2,v.2.2.1⟩))],l:=[(0,.mp .str .bool v.2.2.2)],k:=[(4096,[])],b:=16891904 }
noncomputable def QBy (v:Y41):St:={ s:=[(0,(.val ⟨(.slice Z0),v.1⟩)),(1,(.val ⟨Z2,v.2.1⟩)),(15,(.val ⟨(.slice Z0),v.2.2.1⟩)),(16,(.val ⟨Z2,v.2.2.2.1⟩)),(17,(.val ⟨Z2,v.2.2.2.2⟩))],l:=[],k:=[],b:=4096 }
def qJ (aG:Y41->Option (Bool)) (aH:Y16×Int×Int×Y17->Option (Bool)) (v:Y16×Int×Int×Y17):Option (Bool):=
 (bif (decide (v.2.2.1 < v.2.1)) then ((Nk v.1 v.2.2.1).bind fun x4=>((kW x4).bind fun x5=>((pU x5).bind fun x6=>(bif (!x6) then (some false) else (bif (@Pw .str .bool x5 false v.2.2.2).1 then (some false) else (let x7:Y17:=(@MO .str .bool x5 true v.2.2.2);(let x8:Int:=(IntKind.i64.wrap (v.2.2.1+1));(aH (v.1,v.2.1,x8,x7))))))))) else (some true))
def eO (N:Nat) (aG:Y41->Option (Bool)) (aH:Y16×Int×Int×Y17->Option (Bool)) (v:Y16×Int×Int×Y17):Option (Bool):=qJ aG aH v
theorem QYq (N:Nat) (s0:St->Option (Bool)) (s1:St->Option (Bool)) (v):(ZR (QJH) QLH 6 N Tryz.f150 [.bool] [false] [.call 9 1 178] 0 Xv) s1 (QNf v)=eO N (fun v=>s0 (QBy v)) (fun v=>s1 (QNf v)) v:=by kernel_rfl
def ku (bF:Y16×Int×Int×Y17->Option (Bool)) (aG:Y41->Option (Bool)) (v:Y41):Option (Bool):=
 (bif (decide (v.2.2.2.2 < v.2.2.2.1)) then ((Nk v.2.2.1 v.2.2.2.2).bind fun x1=>((rQ (x1,v.2.1)).bind fun x2=>(bif (!x2) then (some false) else (let x3:Int:=(IntKind.i64.wrap (v.2.2.2.2+1));(aG (v.1,v.2.1,v.2.2.1,v.2.2.2.1,x3)))))) else (bF (v.1,(List.length v.1:Int),(0:Int),([]:List Y22))))
def eH (N:Nat) (aG:Y41->Option (Bool)) (v:Y41):Option (Bool):=ku (Gb (eO N aG) N) aG v
theorem QQt (N:Nat) (s0:St->Option (Bool)) (v):(ZR (QJH) QLH 6 N Tryz.f150 [.bool] [false] [] 0 Xv) s0 (QBy v)=eH N (fun v=>s0 (QBy v)) v:=Eq.trans (b:=ku (fun v=>Ot (ZR (QJH) QLH 6 N Tryz.f150 [.bool] [false] [.call 9 1 178] 0 Xv) N (QNf v)) (fun v=>s0 (QBy v)) v) (by kernel_rfl) (by rw [funext (Tf QNf (QYq N s0) N)];rfl)
def oL (aJ:Y41->Option (Bool)) (x:Y16×Int):Option (Bool):=
 (bif (decide ((List.length x.1:Int) < 1)) then (some false) else (bif (decide ((List.length x.1:Int) > 32)) then (some false) else (aJ (x.1,x.2,x.1,(List.length x.1:Int),(0:Int)))))
def zI (N:Nat) (x:Y16×Int):Option (Bool):=oL (Gb (eH N) N) x
theorem QZM (N:Nat) (x:Y16×Int):rise (QJH) QLH 6 N Tryz.f150 [(.slice Z0),Z2] [.bool] [false] x=zI N x:=Eq.trans (b:=oL (fun v=>Ot (ZR (QJH) QLH 6 N Tryz.f150 [.bool] [false] [] 0 Xv) N (QBy v)) x) (by kernel_rfl) (by rw [funext (Tf QBy (QQt N) N)];rfl)
def sV (x:Y16×Int):Option (Bool):=zI big x
def QTF:U0:=⟨[(.slice Z0),Z2],[.bool],[false],fun x=>sV x⟩
theorem QXn:Hw Tryz.prog 150 QTF:=rz (E:=QJH) ⟨aK,(YH QXl (YH QXm (YH QPj Yc))),fun _ _ _=>rfl,mixed,(YP (YO Tryz.func178 rfl rfl (by kernel_rfl)) Yt),Y0,Yz⟩ Tryz.func150 fun _ _ h=>(QZM big _).trans h
def QYa:LT:={ live:=[],keep:=[] }
noncomputable def QWx:Bn:={ tab:=tab,fs:=[(148,QT5),(149,QT6),(150,QTF)],inl:=[] }
def vV (x:Zx):Option (Bool):=
 ((sj x.1).bind fun x1=>(bif x1 then ((sZ x.2.1).bind fun x2=>(bif x2 then ((sV (x.2.2.1,(List.length x.1:Int))).bind fun x3=>(some x3)) else (some false))) else (some false)))
def pR (x:Zx):Option (Bool):=vV x
def QTG:U0:=⟨[Z3],[.bool],[false],fun x=>pR x⟩
theorem QXo:Hw Tryz.prog 118 QTG:=rz (E:=QWx) (lt:=QYa) (lv:=6) (N:=big) ⟨aK,(YH QXd (YH QXe (YH QXn Yc))),fun _ _ _=>rfl,mixed,Yt,Y0,Yz⟩ Tryz.func118 fun x _ h=>Eq.trans (b:=pR x) (by kernel_rfl) h
def QLI:LT:={ live:=[(3,[0,3,9,10,11]),(9,[6,22,23,24])],keep:=[] }
noncomputable def QJI (mk:(α:Type)->Nat->α->List α):Bn:={ tab:=tab,fs:=[],inl:=[],rep:=mk }
noncomputable def QFX (v:Y63):St:={ s:=[(6,(.row 0)),(22,(.val ⟨(.slice Z8),v.1⟩)),(23,(.val ⟨Z2,v.2.1⟩)),(24,(.val ⟨Z2,v.2.2.1⟩))],l:=[(0,.row mQ v.2.2.2)],k:=[],b:=4096 }
noncomputable def QBz (v:Y42):St:={ s:=[(0,(.val ⟨(.slice Z8),v.1⟩)),(3,(.val ⟨Z2,v.2.1⟩)),(9,(.val ⟨(.slice Z8),v.2.2.1⟩)),(10,(.val ⟨Z2,v.2.2.2.1⟩)),(11,(.val ⟨Z2,v.2.2.2.2⟩))],l:=[],k:=[],b:=4096 }
def vL (mk:(α:Type)->Nat->α->List α) (aG:Y42->Option (Zw)) (aH:Y63->Option (Zw)) (v:Y63):Option (Zw):=
 (bif (decide (v.2.2.1 < v.2.1)) then ((Nk v.1 v.2.2.1).bind fun x5=>(bif (Nat.ble 1 1&&Nat.ble (List.length v.2.2.2+List.length x5) lim) then (let x6:Int:=(IntKind.i64.wrap (v.2.2.1+1));(aH (v.1,v.2.1,x6,(List.append v.2.2.2 x5)))) else none)) else (some v.2.2.2))
def lu (mk:(α:Type)->Nat->α->List α) (N:Nat) (aG:Y42->Option (Zw)) (aH:Y63->Option (Zw)) (v:Y63):Option (Zw):=vL mk aG aH v
theorem QQv (mk:(α:Type)->Nat->α->List α) (N:Nat) (s0:St->Option (Zw)) (s1:St->Option (Zw)) (v):(ZR (QJI mk) QLI 6 N Tryz.f200 [Z8] [true] [] 1 Xv) s1 (QFX v)=lu mk N (fun v=>s0 (QBz v)) (fun v=>s1 (QFX v)) v:=by kernel_rfl
def qV (mk:(α:Type)->Nat->α->List α) (bF:Y63->Option (Zw)) (aG:Y42->Option (Zw)) (v:Y42):Option (Zw):=
 (bif (decide (v.2.2.2.2 < v.2.2.2.1)) then ((Nk v.2.2.1 v.2.2.2.2).bind fun x1=>(let x2:Int:=(IntKind.i64.wrap (v.2.1+(List.length x1:Int)));(let x3:Int:=(IntKind.i64.wrap (v.2.2.2.2+1));(aG (v.1,x2,v.2.2.1,v.2.2.2.1,x3))))) else (bif (decide (0<=(0:Int))&&(decide ((0:Int)<=v.2.1)&&(decide (v.2.1<=68719476736)&&true))) then (let x4:Zw:=(mk Int (Int.toNat (0:Int)) (0:Int));(bF (v.1,(List.length v.1:Int),(0:Int),x4))) else none))
def jL (mk:(α:Type)->Nat->α->List α) (N:Nat) (aG:Y42->Option (Zw)) (v:Y42):Option (Zw):=qV mk (Gb (lu mk N aG) N) aG v
theorem QQu (mk:(α:Type)->Nat->α->List α) (N:Nat) (s0:St->Option (Zw)) (v):(ZR (QJI mk) QLI 6 N Tryz.f200 [Z8] [true] [] 0 Xv) s0 (QBz v)=jL mk N (fun v=>s0 (QBz v)) v:=Eq.trans (b:=qV mk (fun v=>Ot (ZR (QJI mk) QLI 6 N Tryz.f200 [Z8] [true] [] 1 Xv) N (QFX v)) (fun v=>s0 (QBz v)) v) (by kernel_rfl) (by rw [funext (Tf QFX (QQv mk N s0) N)];rfl)
def QBd (mk:(α:Type)->Nat->α->List α) (aJ:Y42->Option (Zw)) (x:xZ):Option (Zw):=
 (aJ (x,(0:Int),x,(List.length x:Int),(0:Int)))
def QBX (mk:(α:Type)->Nat->α->List α) (N:Nat) (x:xZ):Option (Zw):=QBd mk (Gb (jL mk N) N) x
theorem QZN (mk:(α:Type)->Nat->α->List α) (N:Nat) (x:xZ):rise (QJI mk) QLI 6 N Tryz.f200 [(.slice Z8)] [Z8] [true] x=QBX mk N x:=Eq.trans (b:=QBd mk (fun v=>Ot (ZR (QJI mk) QLI 6 N Tryz.f200 [Z8] [true] [] 0 Xv) N (QBz v)) x) (by kernel_rfl) (by rw [funext (Tf QBz (QQu mk N) N)];rfl)
def mZ (x:xZ):Option (Zw):=QBX (fun _=>List.replicate) big x
def QPb:U0:=⟨[(.slice Z8)],[Z8],[true],fun x=>mZ x⟩
theorem QUH:Hw Tryz.prog 200 QPb:=rz (E:=QJI (fun _=>List.replicate)) ⟨aK,Yc,fun _ _ _=>rfl,mixed,Yt,Y0,Yz⟩ Tryz.func200 fun _ _ h=>(QZN (fun _=>List.replicate) big _).trans h
def QQF:LT:={ live:=[(3,[0,3,4])],keep:=[] }
noncomputable def QMe:Bn:={ tab:=tab,fs:=[(200,QPb)],inl:=[] }
noncomputable def QFY (v:Int×Int×Zw):St:={ s:=[(0,(.val ⟨Z15,v.1⟩)),(3,(.loc 0 [])),(4,(.val ⟨Z2,v.2.1⟩))],l:=[(0,.var (.arr 10 mQ) (.val ⟨(.arr 10 mQ),v.2.2⟩))],k:=[],b:=4096 }
def QB5 (aG:Int×Int×Zw->Option (Zw)) (v:Int×Int×Zw):Option (Zw):=
 (bif (decide (v.1≥128)) then (let x1:Int:=(bits .or .u8 (IntKind.u8.wrap v.1) (128:Int));(bif (decide (0<=v.2.1)&&decide (v.2.1 < 10)) then (let x2:Zw:=(List.set v.2.2 (Int.toNat v.2.1) x1);(let x3:Int:=(IntKind.i64.wrap (v.2.1+1));(aG ((v.1.fdiv (2 ^ 7)),x3,x2)))) else none)) else (bif (decide (0<=v.2.1)&&decide (v.2.1 < 10)) then (let x4:Zw:=(List.set v.2.2 (Int.toNat v.2.1) (IntKind.u8.wrap v.1));(let x5:Int:=(IntKind.i64.wrap (v.2.1+1));(bif (decide (0<=x5)&&decide (x5<=(List.length x4:Int))) then (let x6:Zw:=(List.take (Int.toNat x5) x4);(let x7:xZ:=([x6]:xZ);((mZ x7).bind fun x8=>(some x8)))) else none))) else none))
def uL (N:Nat) (aG:Int×Int×Zw->Option (Zw)) (v:Int×Int×Zw):Option (Zw):=QB5 aG v
theorem QQw (N:Nat) (s0:St->Option (Zw)) (v):(ZR (QMe) QQF 6 N Tryz.f199 [Z8] [true] [] 0 Xv) s0 (QFY v)=uL N (fun v=>s0 (QFY v)) v:=by kernel_rfl
def QDu (aJ:Int×Int×Zw->Option (Zw)) (x:Int):Option (Zw):=
 (aJ (x,(0:Int),(List.replicate 10 (0:Int))))
def QDs (N:Nat) (x:Int):Option (Zw):=QDu (Gb (uL N) N) x
theorem QZO (N:Nat) (x:Int):rise (QMe) QQF 6 N Tryz.f199 [Z15] [Z8] [true] x=QDs N x:=Eq.trans (b:=QDu (fun v=>Ot (ZR (QMe) QQF 6 N Tryz.f199 [Z8] [true] [] 0 Xv) N (QFY v)) x) (by kernel_rfl) (by rw [funext (Tf QFY (QQw N) N)];rfl)
def fZ (x:Int):Option (Zw):=QDs big x
def QJN:U0:=⟨[Z15],[Z8],[true],fun x=>fZ x⟩
theorem QKk:Hw Tryz.prog 199 QJN:=rz (E:=QMe) ⟨aK,(YH QUH Yc),fun _ _ _=>rfl,mixed,Yt,Y0,Yz⟩ Tryz.func199 fun _ _ h=>(QZO big _).trans h
def QV1:LT:={ live:=[],keep:=[] }
noncomputable def QSW:Bn:={ tab:=tab,fs:=[(199,QJN)],inl:=[] }
def iY (x:Zw) (y:Y19):Option (Zw):=
 ((fZ (IntKind.u64.wrap y.1)).bind fun x1=>(bif (Nat.ble 1 1&&Nat.ble (List.length x+List.length x1) lim) then (some (List.append x x1)) else none))
def QAQ (N:Nat) (x:Zw) (y:Y19):Option (Zw):=iY x y
theorem QZP (N:Nat) (x:Zw) (y:Y19):V4 (QSW) QV1 6 N Tryz.f180 mQ [.hole Z2] x y=iY x y:=by kernel_rfl
def aM (x:Zw) (y:Y19):Option (Zw):=QAQ big x y
@[reducible] def QJQ:MF:=⟨mQ,[.hole Z2],fun x y=>aM x y⟩
theorem QMo:MS Tryz.prog 180 QJQ:=Yy (c:=QJQ) (E:=QSW) ⟨aK,(YH QKk Yc),fun _ _ _=>rfl,mixed,Yt,Y0,Yz⟩ Tryz.func180 rfl (by decide) (by kernel_rfl) (by kernel_rfl) (fun x y z h=>⟨QV1,6,big,(QZP big x y).trans h⟩)
def QYc:LT:={ live:=[],keep:=[] }
noncomputable def QWy:Bn:={ tab:=tab,fs:=[(199,QJN),(200,QPb)],inl:=[] }
def QDt (x:Zw):Option oW:=
 (bif (decide ((List.length x:Int) > 200000)) then (some (([]:List Int),(4:Int))) else (let x1:Int:=(IntKind.u64.wrap (List.length x:Int));((fZ x1).bind fun x2=>(let x3:xZ:=([x2,x]:xZ);((mZ x3).bind fun x4=>(some (x4,(0:Int))))))))
def vC (x:Zw):Option oW:=QDt x
def QTH:U0:=⟨[.str],[Z8,Z2],[true,false],fun x=>vC x⟩
theorem QXp:Hw Tryz.prog 183 QTH:=rz (E:=QWy) (lt:=QYc) (lv:=6) (N:=big) ⟨aK,(YH QKk (YH QUH Yc)),fun _ _ _=>rfl,mixed,Yt,Y0,Yz⟩ Tryz.func183 fun x _ h=>Eq.trans (b:=vC x) (by kernel_rfl) h
def QV3:LT:={ live:=[],keep:=[] }
noncomputable def QSX:Bn:={ tab:=tab,fs:=[(183,QTH)],inl:=[] }
def lI (x:Zw) (y:(Zw×Unit)):Option (Zw):=
 ((vC y.1).bind fun x1=>(bif (Nat.ble 1 1&&Nat.ble (List.length x+List.length x1.1) lim) then (some (List.append x x1.1)) else none))
def QBH (N:Nat) (x:Zw) (y:(Zw×Unit)):Option (Zw):=lI x y
theorem QZQ (N:Nat) (x:Zw) (y:(Zw×Unit)):V4 (QSX) QV3 6 N Tryz.f154 mQ [.hole .str] x y=lI x y:=by kernel_rfl
def gW (x:Zw) (y:(Zw×Unit)):Option (Zw):=QBH big x y
@[reducible] def QKn:MF:=⟨mQ,[.hole .str],fun x y=>gW x y⟩
theorem QPl:MS Tryz.prog 154 QKn:=Yy (c:=QKn) (E:=QSX) ⟨aK,(YH QXp Yc),fun _ _ _=>rfl,mixed,Yt,Y0,Yz⟩ Tryz.func154 rfl (by decide) (by kernel_rfl) (by kernel_rfl) (fun x y z h=>⟨QV3,6,big,(QZQ big x y).trans h⟩)
def QV4:LT:={ live:=[],keep:=[] }
noncomputable def QSY:Bn:={ tab:=tab,fs:=[],inl:=[],ow:=[(154,QKn),(180,QJQ)] }
def ji (x:Zw) (y:((Zw×Y19)×Unit)):Option (Zw):=
 ((gW x (y.1.1,())).bind fun x1=>((aM x1 (y.1.2.1,())).bind fun x2=>(some x2)))
def QAo (N:Nat) (x:Zw) (y:((Zw×Y19)×Unit)):Option (Zw):=ji x y
theorem QZR (N:Nat) (x:Zw) (y:((Zw×Y19)×Unit)):V4 (QSY) QV4 6 N Tryz.f182 mQ [.hole (.pair .str (.pair Z2 .unit))] x y=ji x y:=by kernel_rfl
def jc (x:Zw) (y:((Zw×Y19)×Unit)):Option (Zw):=QAo big x y
@[reducible] def QMr:MF:=⟨mQ,[.hole (.pair .str (.pair Z2 .unit))],fun x y=>jc x y⟩
theorem QUI:MS Tryz.prog 182 QMr:=Yy (c:=QMr) (E:=QSY) ⟨aK,Yc,fun _ _ _=>rfl,mixed,Yt,Y0,(YS QPl (YS QMo Yz))⟩ Tryz.func182 rfl (by decide) (by kernel_rfl) (by kernel_rfl) (fun x y z h=>⟨QV4,6,big,(QZR big x y).trans h⟩)
def QMs:LT:={ live:=[],keep:=[(34,[])] }
noncomputable def QMf:Bn:={ tab:=tab,fs:=[],inl:=[(181,Tryz.f181,QV2)],ow:=[(180,QJQ),(182,QMr)] }
noncomputable def QFZ (v:Y64):St:={ s:=[(0,(.row 0)),(2,(.Ee 182 .unit)),(13,(.val ⟨Z7,v.1⟩)),(14,(.val ⟨Z2,v.2.1⟩)),(15,(.val ⟨Z2,v.2.2.1⟩))],l:=[(0,.row mQ v.2.2.2)],k:=[(4096,[])],b:=16920576 }
def nQ (aG:Y64->Option (Zw)) (v:Y64):Option (Zw):=
 (bif (decide (v.2.2.1 < v.2.1)) then ((Nk v.1 v.2.2.1).bind fun x6=>((jc v.2.2.2 (x6,())).bind fun x7=>(let x8:Int:=(IntKind.i64.wrap (v.2.2.1+1));(aG (v.1,v.2.1,x8,x7))))) else (some v.2.2.2))
def bL (N:Nat) (aG:Y64->Option (Zw)) (v:Y64):Option (Zw):=nQ aG v
theorem QQx (N:Nat) (s0:St->Option (Zw)) (v):(Y5 (QMf) QMs 6 N Tryz.f152 mQ [.call 10 3 181] 0 Xv) s0 (QFZ v)=bL N (fun v=>s0 (QFZ v)) v:=by kernel_rfl
def lJ (aJ:Y64->Option (Zw)) (x:Zw) (y:(Y12×Unit)):Option (Zw):=
 (bif (Nat.ble 1 1&&Nat.ble (List.length x+List.length ([y.1.1]:Zw)) lim) then (let x1:Zw:=(List.append x ([y.1.1]:Zw));(bif (y.1.1==4) then (bif (y.1.1==4) then ((aM x1 (y.1.2.1,())).bind fun x2=>(some x2)) else (bif (y.1.1==6) then ((aM x1 (y.1.2.1,())).bind fun x3=>((aM x3 (y.1.2.2.1,())).bind fun x4=>(some x4))) else (bif (y.1.1==5) then ((aM x1 ((List.length y.1.2.2.2.1:Int),())).bind fun x5=>(aJ (y.1.2.2.2.1,(List.length y.1.2.2.2.1:Int),(0:Int),x5))) else (some x1)))) else (bif (y.1.1==7) then ((aM x1 (y.1.2.1,())).bind fun x9=>(some x9)) else (bif (y.1.1==6) then ((aM x1 (y.1.2.1,())).bind fun iO=>((aM iO (y.1.2.2.1,())).bind fun pE=>(some pE))) else (bif (y.1.1==5) then ((aM x1 ((List.length y.1.2.2.2.1:Int),())).bind fun qh=>(aJ (y.1.2.2.2.1,(List.length y.1.2.2.2.1:Int),(0:Int),qh))) else (some x1)))))) else none)
def wM (N:Nat) (x:Zw) (y:(Y12×Unit)):Option (Zw):=lJ (Gb (bL N) N) x y
theorem QZS (N:Nat) (x:Zw) (y:(Y12×Unit)):V4 (QMf) QMs 6 N Tryz.f152 mQ [.hole Z1] x y=wM N x y:=Eq.trans (b:=lJ (fun v=>Ot (Y5 (QMf) QMs 6 N Tryz.f152 mQ [.call 10 3 181] 0 Xv) N (QFZ v)) x y) (by kernel_rfl) (by rw [funext (Tf QFZ (QQx N) N)];rfl)
def pQ (x:Zw) (y:(Y12×Unit)):Option (Zw):=wM big x y
@[reducible] def QPm:MF:=⟨mQ,[.hole Z1],fun x y=>pQ x y⟩
theorem QXq:MS Tryz.prog 152 QPm:=Yy (c:=QPm) (E:=QMf) ⟨aK,Yc,fun _ _ _=>rfl,mixed,(YP (YO Tryz.func181 rfl rfl (by kernel_rfl)) Yt),Y0,(YS QMo (YS QUI Yz))⟩ Tryz.func152 rfl (by decide) (by kernel_rfl) (by kernel_rfl) (fun x y z h=>⟨QMs,6,big,(QZS big x y).trans h⟩)
def QYf:LT:={ live:=[],keep:=[] }
noncomputable def QWz:Bn:={ tab:=tab,fs:=[(199,QJN)],inl:=[] }
def QBc (x:Int):Option (Zw):=
 (bif (decide (x < 0)) then (let x1:Int:=(bits .xor .i64 (if IntKind.signed .i64 then -1 else IntKind.max .i64) x);(let x2:Int:=(IntKind.u64.wrap ((IntKind.u64.wrap x1) * 2 ^ 1));(let x3:Int:=(bits .or .u64 x2 (1:Int));((fZ x3).bind fun x4=>(some x4))))) else (let x5:Int:=(IntKind.u64.wrap ((IntKind.u64.wrap x) * 2 ^ 1));((fZ x5).bind fun x6=>(some x6))))
def mY (x:Int):Option (Zw):=QBc x
def QPc:U0:=⟨[Z2],[Z8],[true],fun x=>mY x⟩
theorem QUJ:Hw Tryz.prog 184 QPc:=rz (E:=QWz) (lt:=QYf) (lv:=6) (N:=big) ⟨aK,(YH QKk Yc),fun _ _ _=>rfl,mixed,Yt,Y0,Yz⟩ Tryz.func184 fun x _ h=>Eq.trans (b:=mY x) (by kernel_rfl) h
def QYh:LT:={ live:=[],keep:=[] }
noncomputable def QX0:Bn:={ tab:=tab,fs:=[],inl:=[] }
def QAc (x:Int):Option (Bool):=
 (bif (x==5) then (some true) else (bif (x==3) then (some true) else (some (x==4))))
def nZ (x:Int):Option (Bool):=QAc x
def QTI:U0:=⟨[mQ],[.bool],[false],fun x=>nZ x⟩
theorem QXr:Hw Tryz.prog 214 QTI:=rz (E:=QX0) (lt:=QYh) (lv:=6) (N:=big) ⟨aK,Yc,fun _ _ _=>rfl,mixed,Yt,Y0,Yz⟩ Tryz.func214 fun x _ h=>Eq.trans (b:=nZ x) (by kernel_rfl) h
def QQG:LT:={ live:=[],keep:=[(16,[5])] }
noncomputable def QMg:Bn:={ tab:=tab,fs:=[(98,QKb),(140,QMm),(184,QPc),(199,QJN),(214,QTI)],inl:=[(99,Tryz.f99,QV6),(213,Tryz.f213,QYi)] }
noncomputable def QFa (v:Y68):St:={ s:=[(1,(.Ee 213 (.pair (.loc 0 []) .unit))),(4,(.loc 2 [])),(13,(.val ⟨(.arr 3 mQ),v.1⟩)),(14,(.val ⟨Z2,v.2.1⟩))],l:=[(0,.var Z8 (.row 1)),(1,.row mQ v.2.2.1),(2,.var (.arr 3 Z2) (.val ⟨(.arr 3 Z2),v.2.2.2⟩))],k:=[(4096,[(5,(.loc 0 []))])],b:=16846848 }
def xH (aG:Y68->Option oW) (v:Y68):Option oW:=
 (bif (decide (v.2.1 < 3)) then ((Nk v.1 v.2.1).bind fun x4=>(bif (x4 != 0) then (bif (decide (0<=v.2.1)&&decide (v.2.1 < 3)) then ((nth v.2.2.2 (Int.toNat v.2.1)).bind fun x5=>((nZ x4).bind fun x6=>(bif x6 then ((mY x5).bind fun x7=>(bif (Nat.ble 1 1&&Nat.ble (List.length v.2.2.1+List.length x7) lim) then (let x8:Int:=(IntKind.i64.wrap (v.2.1+1));(aG (v.1,x8,(List.append v.2.2.1 x7),v.2.2.2))) else none)) else ((fZ (IntKind.u64.wrap x5)).bind fun x9=>(bif (Nat.ble 1 1&&Nat.ble (List.length v.2.2.1+List.length x9) lim) then (let iO:Int:=(IntKind.i64.wrap (v.2.1+1));(aG (v.1,iO,(List.append v.2.2.1 x9),v.2.2.2))) else none))))) else none) else (let pE:Int:=(IntKind.i64.wrap (v.2.1+1));(aG (v.1,pE,v.2.2.1,v.2.2.2))))) else (some (v.2.2.1,(0:Int))))
def rX (N:Nat) (aG:Y68->Option oW) (v:Y68):Option oW:=xH aG v
theorem QQy (N:Nat) (s0:St->Option oW) (v):(ZR (QMg) QQG 6 N Tryz.f201 [Z8,Z2] [true,false] [.call 5 2 99] 0 Xv) s0 (QFa v)=rX N (fun v=>s0 (QFa v)) v:=by kernel_rfl
def wU (aJ:Y68->Option oW) (x:Zy):Option oW:=
 ((qx x).bind fun x1=>(bif (x1 != 0) then (some (([]:List Int),x1)) else ((j4 x).bind fun x2=>((Nk ZT x.1).bind fun x3=>(aJ (x3.2.1,(0:Int),([x.1]:Zw),x2))))))
def QCP (N:Nat) (x:Zy):Option oW:=wU (Gb (rX N) N) x
theorem QZT (N:Nat) (x:Zy):rise (QMg) QQG 6 N Tryz.f201 [Z4] [Z8,Z2] [true,false] x=QCP N x:=Eq.trans (b:=wU (fun v=>Ot (ZR (QMg) QQG 6 N Tryz.f201 [Z8,Z2] [true,false] [.call 5 2 99] 0 Xv) N (QFa v)) x) (by kernel_rfl) (by rw [funext (Tf QFa (QQy N) N)];rfl)
def za (x:Zy):Option oW:=QCP big x
def QTJ:U0:=⟨[Z4],[Z8,Z2],[true,false],fun x=>za x⟩
theorem QXs:Hw Tryz.prog 201 QTJ:=rz (E:=QMg) ⟨aK,(YH QMn (YH QPk (YH QUJ (YH QKk (YH QXr Yc))))),fun _ _ _=>rfl,mixed,(YP (YO Tryz.func99 rfl rfl (by kernel_rfl)) (YP (YO Tryz.func213 rfl rfl (by kernel_rfl)) Yt)),Y0,Yz⟩ Tryz.func201 fun _ _ h=>(QZT big _).trans h
def QV7:LT:={ live:=[],keep:=[] }
noncomputable def QSZ:Bn:={ tab:=tab,fs:=[(201,QTJ)],inl:=[] }
def jl (x:Zw) (y:(Zy×Unit)):Option (Zw):=
 ((za y.1).bind fun x1=>(bif (Nat.ble 1 1&&Nat.ble (List.length x+List.length x1.1) lim) then (some (List.append x x1.1)) else none))
def QAp (N:Nat) (x:Zw) (y:(Zy×Unit)):Option (Zw):=jl x y
theorem QZU (N:Nat) (x:Zw) (y:(Zy×Unit)):V4 (QSZ) QV7 6 N Tryz.f186 mQ [.hole Z4] x y=jl x y:=by kernel_rfl
def og (x:Zw) (y:(Zy×Unit)):Option (Zw):=QAp big x y
@[reducible] def QPn:MF:=⟨mQ,[.hole Z4],fun x y=>og x y⟩
theorem QXt:MS Tryz.prog 186 QPn:=Yy (c:=QPn) (E:=QSZ) ⟨aK,(YH QXs Yc),fun _ _ _=>rfl,mixed,Yt,Y0,Yz⟩ Tryz.func186 rfl (by decide) (by kernel_rfl) (by kernel_rfl) (fun x y z h=>⟨QV7,6,big,(QZU big x y).trans h⟩)
def QQH:LT:={ live:=[(7,[7,8,21,22,23])],keep:=[] }
noncomputable def QMh:Bn:={ tab:=tab,fs:=[(197,QPa),(199,QJN)],inl:=[] }
noncomputable def QFb (v:Y47):St:={ s:=[(7,(.row 0)),(8,(.val ⟨Z2,v.1⟩)),(21,(.val ⟨Z5,v.2.1⟩)),(22,(.val ⟨Z2,v.2.2.1⟩)),(23,(.val ⟨Z2,v.2.2.2.1⟩))],l:=[(0,.row mQ v.2.2.2.2)],k:=[],b:=4096 }
def jR (aG:Y47->Option oW) (v:Y47):Option oW:=
 (bif (decide (v.2.2.2.1 < v.2.2.1)) then ((Nk v.2.1 v.2.2.2.1).bind fun x4=>(let x5:Int:=(IntKind.i64.wrap (x4.1 - v.1));((fZ (IntKind.u64.wrap x5)).bind fun x6=>(bif (Nat.ble 1 1&&Nat.ble (List.length v.2.2.2.2+List.length x6) lim) then (let x7:Zw:=(List.append v.2.2.2.2 x6);((fZ x4.2.1).bind fun x8=>(bif (Nat.ble 1 1&&Nat.ble (List.length x7+List.length x8) lim) then (let x9:Int:=(IntKind.i64.wrap (v.2.2.2.1+1));(aG (x4.1,v.2.1,v.2.2.1,x9,(List.append x7 x8)))) else none))) else none)))) else (some (v.2.2.2.2,(0:Int))))
def nD (N:Nat) (aG:Y47->Option oW) (v:Y47):Option oW:=jR aG v
theorem QQz (N:Nat) (s0:St->Option oW) (v):(ZR (QMh) QQH 6 N Tryz.f202 [Z8,Z2] [true,false] [] 0 Xv) s0 (QFb v)=nD N (fun v=>s0 (QFb v)) v:=by kernel_rfl
def qd (aJ:Y47->Option oW) (x:Zz×Int):Option oW:=
 ((iH (x.1,x.2)).bind fun x1=>(bif (x1 != 0) then (some (([]:List Int),x1)) else (let x2:Int:=(IntKind.u64.wrap (List.length x.1:Int));((fZ x2).bind fun x3=>(aJ ((0:Int),x.1,(List.length x.1:Int),(0:Int),x3))))))
def zw (N:Nat) (x:Zz×Int):Option oW:=qd (Gb (nD N) N) x
theorem QZV (N:Nat) (x:Zz×Int):rise (QMh) QQH 6 N Tryz.f202 [Z5,Z2] [Z8,Z2] [true,false] x=zw N x:=Eq.trans (b:=qd (fun v=>Ot (ZR (QMh) QQH 6 N Tryz.f202 [Z8,Z2] [true,false] [] 0 Xv) N (QFb v)) x) (by kernel_rfl) (by rw [funext (Tf QFb (QQz N) N)];rfl)
def vB (x:Zz×Int):Option oW:=zw big x
def QTK:U0:=⟨[Z5,Z2],[Z8,Z2],[true,false],fun x=>vB x⟩
theorem QXu:Hw Tryz.prog 202 QTK:=rz (E:=QMh) ⟨aK,(YH QUG (YH QKk Yc)),fun _ _ _=>rfl,mixed,Yt,Y0,Yz⟩ Tryz.func202 fun _ _ h=>(QZV big _).trans h
def QV8:LT:={ live:=[],keep:=[] }
noncomputable def QSa:Bn:={ tab:=tab,fs:=[(202,QTK)],inl:=[] }
def lH (x:Zw) (y:(Zz×Y19)):Option (Zw):=
 ((vB (y.1,y.2.1)).bind fun x1=>(bif (Nat.ble 1 1&&Nat.ble (List.length x+List.length x1.1) lim) then (some (List.append x x1.1)) else none))
def QBG (N:Nat) (x:Zw) (y:(Zz×Y19)):Option (Zw):=lH x y
theorem QZW (N:Nat) (x:Zw) (y:(Zz×Y19)):V4 (QSa) QV8 6 N Tryz.f187 mQ [.hole Z5,.hole Z2] x y=lH x y:=by kernel_rfl
def kV (x:Zw) (y:(Zz×Y19)):Option (Zw):=QBG big x y
@[reducible] def QPo:MF:=⟨mQ,[.hole Z5,.hole Z2],fun x y=>kV x y⟩
theorem QXv:MS Tryz.prog 187 QPo:=Yy (c:=QPo) (E:=QSa) ⟨aK,(YH QXu Yc),fun _ _ _=>rfl,mixed,Yt,Y0,Yz⟩ Tryz.func187 rfl (by decide) (by kernel_rfl) (by kernel_rfl) (fun x y z h=>⟨QV8,6,big,(QZW big x y).trans h⟩)
def QJU:LT:={ live:=[],keep:=[(21,[3]),(25,[3])] }
noncomputable def QJJ:Bn:={ tab:=tab,fs:=[(184,QPc)],inl:=[(181,Tryz.f181,QV2),(185,Tryz.f185,QYg)],ow:=[(154,QKn),(180,QJQ),(182,QMr),(186,QPn),(187,QPo)] }
noncomputable def QFc (v:Y56):St:={ s:=[(0,(.row 0)),(2,(.Ee 186 .unit)),(13,(.val ⟨ql,v.1⟩)),(14,(.val ⟨Z2,v.2.1⟩)),(15,(.val ⟨Z2,v.2.2.1⟩))],l:=[(0,.row mQ v.2.2.2.1),(1,.var Z0 (.val ⟨Z0,v.2.2.2.2⟩))],k:=[(4096,[(3,(.loc 1 []))])],b:=16883712 }
noncomputable def QC0 (v:Y57):St:={ s:=[(0,(.row 0)),(2,(.Ee 182 .unit)),(13,(.val ⟨Z7,v.1⟩)),(14,(.val ⟨Z2,v.2.1⟩)),(15,(.val ⟨Z2,v.2.2.1⟩))],l:=[(0,.row mQ v.2.2.2.1),(1,.var Z0 (.val ⟨Z0,v.2.2.2.2⟩))],k:=[(4096,[(3,(.loc 1 []))])],b:=16867328 }
def nP (aG:Y57->Option (Zw)) (aH:Y56->Option (Zw)) (v:Y56):Option (Zw):=
 (bif (decide (v.2.2.1 < v.2.1)) then ((Nk v.1 v.2.2.1).bind fun x9=>((og v.2.2.2.1 (x9,())).bind fun iO=>(let pE:Int:=(IntKind.i64.wrap (v.2.2.1+1));(aH (v.1,v.2.1,pE,iO,v.2.2.2.2))))) else ((kV v.2.2.2.1 (v.2.2.2.2.2.2.2.2.2.1,((List.length v.2.2.2.2.2.2.2.2.1:Int),()))).bind fun qh=>((kV qh (v.2.2.2.2.2.2.2.2.2.2.1,((List.length v.2.2.2.2.2.2.2.2.1:Int),()))).bind fun sQ=>(some sQ))))
def dG (N:Nat) (aG:Y57->Option (Zw)) (aH:Y56->Option (Zw)) (v:Y56):Option (Zw):=nP aG aH v
theorem QR1 (N:Nat) (s0:St->Option (Zw)) (s1:St->Option (Zw)) (v):(Y5 (QJJ) QJU 6 N Tryz.f156 mQ [.call 5 3 185] 0 Xv) s1 (QFc v)=dG N (fun v=>s0 (QC0 v)) (fun v=>s1 (QFc v)) v:=by kernel_rfl
def iT (bF:Y56->Option (Zw)) (aG:Y57->Option (Zw)) (v:Y57):Option (Zw):=
 (bif (decide (v.2.2.1 < v.2.1)) then ((Nk v.1 v.2.2.1).bind fun x5=>((jc v.2.2.2.1 (x5,())).bind fun x6=>(let x7:Int:=(IntKind.i64.wrap (v.2.2.1+1));(aG (v.1,v.2.1,x7,x6,v.2.2.2.2))))) else ((aM v.2.2.2.1 ((List.length v.2.2.2.2.2.2.2.2.1:Int),())).bind fun x8=>(bF (v.2.2.2.2.2.2.2.2.1,(List.length v.2.2.2.2.2.2.2.2.1:Int),(0:Int),x8,v.2.2.2.2))))
def dF (N:Nat) (aG:Y57->Option (Zw)) (v:Y57):Option (Zw):=iT (Gb (dG N aG) N) aG v
theorem QR0 (N:Nat) (s0:St->Option (Zw)) (v):(Y5 (QJJ) QJU 6 N Tryz.f156 mQ [.call 4 3 181] 0 Xv) s0 (QC0 v)=dF N (fun v=>s0 (QC0 v)) v:=Eq.trans (b:=iT (fun v=>Ot (Y5 (QJJ) QJU 6 N Tryz.f156 mQ [.call 5 3 185] 0 Xv) N (QFc v)) (fun v=>s0 (QC0 v)) v) (by kernel_rfl) (by rw [funext (Tf QFc (QR1 N s0) N)];rfl)
def lG (aJ:Y57->Option (Zw)) (x:Zw) (y:(Zu×Unit)):Option (Zw):=
 ((gW x (y.1.1,())).bind fun x1=>((aM x1 (y.1.2.1,())).bind fun x2=>((mY y.1.2.2.1).bind fun x3=>(bif (Nat.ble 1 1&&Nat.ble (List.length x2+List.length x3) lim) then ((aM (List.append x2 x3) ((List.length y.1.2.2.2.1:Int),())).bind fun x4=>(aJ (y.1.2.2.2.1,(List.length y.1.2.2.2.1:Int),(0:Int),x4,y.1))) else none))))
def wL (N:Nat) (x:Zw) (y:(Zu×Unit)):Option (Zw):=lG (Gb (dF N) N) x y
theorem QZX (N:Nat) (x:Zw) (y:(Zu×Unit)):V4 (QJJ) QJU 6 N Tryz.f156 mQ [.hole Z0] x y=wL N x y:=Eq.trans (b:=lG (fun v=>Ot (Y5 (QJJ) QJU 6 N Tryz.f156 mQ [.call 4 3 181] 0 Xv) N (QC0 v)) x y) (by kernel_rfl) (by rw [funext (Tf QC0 (QR0 N) N)];rfl)
def pO (x:Zw) (y:(Zu×Unit)):Option (Zw):=wL big x y
@[reducible] def QPp:MF:=⟨mQ,[.hole Z0],fun x y=>pO x y⟩
theorem QXw:MS Tryz.prog 156 QPp:=Yy (c:=QPp) (E:=QJJ) ⟨aK,(YH QUJ Yc),fun _ _ _=>rfl,mixed,(YP (YO Tryz.func181 rfl rfl (by kernel_rfl)) (YP (YO Tryz.func185 rfl rfl (by kernel_rfl)) Yt)),Y0,(YS QPl (YS QMo (YS QUI (YS QXt (YS QXv Yz)))))⟩ Tryz.func156 rfl (by decide) (by kernel_rfl) (by kernel_rfl) (fun x y z h=>⟨QJU,6,big,(QZX big x y).trans h⟩)
def QGI:LT:={ live:=[],keep:=[(8,[3]),(12,[3]),(16,[])] }
noncomputable def QGA:Bn:={ tab:=tab,fs:=[],inl:=[(151,Tryz.f151,QYb),(153,Tryz.f153,QYd),(155,Tryz.f155,QYe)],ow:=[(152,QPm),(154,QKn),(156,QPp),(180,QJQ)] }
noncomputable def QFd (v:Y16×Int×Int×Zw):St:={ s:=[(0,(.row 0)),(2,(.Ee 156 .unit)),(13,(.val ⟨(.slice Z0),v.1⟩)),(14,(.val ⟨Z2,v.2.1⟩)),(15,(.val ⟨Z2,v.2.2.1⟩))],l:=[(0,.row mQ v.2.2.2)],k:=[(4096,[])],b:=16846848 }
noncomputable def QC1 (v:Y48):St:={ s:=[(0,(.row 0)),(2,(.Ee 154 .unit)),(13,(.val ⟨(.slice .str),v.1⟩)),(14,(.val ⟨Z2,v.2.1⟩)),(15,(.val ⟨Z2,v.2.2.1⟩))],l:=[(0,.row mQ v.2.2.2.1),(1,.var Z3 (.val ⟨Z3,v.2.2.2.2⟩))],k:=[(4096,[(3,(.loc 1 []))])],b:=16830464 }
noncomputable def zm (v:Y58):St:={ s:=[(0,(.row 0)),(2,(.Ee 152 .unit)),(13,(.val ⟨qj,v.1⟩)),(14,(.val ⟨Z2,v.2.1⟩)),(15,(.val ⟨Z2,v.2.2.1⟩))],l:=[(0,.row mQ v.2.2.2.1),(1,.var Z3 (.val ⟨Z3,v.2.2.2.2⟩))],k:=[(4096,[(3,(.loc 1 []))])],b:=16814080 }
def l9 (aG:Y58->Option (Zw)) (aH:Y48->Option (Zw)) (bJ:Y16×Int×Int×Zw->Option (Zw)) (v:Y16×Int×Int×Zw):Option (Zw):=
 (bif (decide (v.2.2.1 < v.2.1)) then ((Nk v.1 v.2.2.1).bind fun iO=>((pO v.2.2.2 (iO,())).bind fun pE=>(let qh:Int:=(IntKind.i64.wrap (v.2.2.1+1));(bJ (v.1,v.2.1,qh,pE))))) else (some v.2.2.2))
def bg (N:Nat) (aG:Y58->Option (Zw)) (aH:Y48->Option (Zw)) (bJ:Y16×Int×Int×Zw->Option (Zw)) (v:Y16×Int×Int×Zw):Option (Zw):=l9 aG aH bJ v
theorem QR4 (N:Nat) (s0:St->Option (Zw)) (s1:St->Option (Zw)) (s2:St->Option (Zw)) (v):(Y5 (QGA) QGI 6 N Tryz.f119 mQ [.call 3 3 155] 0 Xv) s2 (QFd v)=bg N (fun v=>s0 (zm v)) (fun v=>s1 (QC1 v)) (fun v=>s2 (QFd v)) v:=by kernel_rfl
def gq (zn:Y16×Int×Int×Zw->Option (Zw)) (aG:Y58->Option (Zw)) (aH:Y48->Option (Zw)) (v:Y48):Option (Zw):=
 (bif (decide (v.2.2.1 < v.2.1)) then ((Nk v.1 v.2.2.1).bind fun x6=>((gW v.2.2.2.1 (x6,())).bind fun x7=>(let x8:Int:=(IntKind.i64.wrap (v.2.2.1+1));(aH (v.1,v.2.1,x8,x7,v.2.2.2.2))))) else ((aM v.2.2.2.1 ((List.length v.2.2.2.2.2.2.1:Int),())).bind fun x9=>(zn (v.2.2.2.2.2.2.1,(List.length v.2.2.2.2.2.2.1:Int),(0:Int),x9))))
def bf (N:Nat) (aG:Y58->Option (Zw)) (aH:Y48->Option (Zw)) (v:Y48):Option (Zw):=gq (Gb (bg N aG aH) N) aG aH v
theorem QR3 (N:Nat) (s0:St->Option (Zw)) (s1:St->Option (Zw)) (v):(Y5 (QGA) QGI 6 N Tryz.f119 mQ [.call 2 3 153] 0 Xv) s1 (QC1 v)=bf N (fun v=>s0 (zm v)) (fun v=>s1 (QC1 v)) v:=Eq.trans (b:=gq (fun v=>Ot (Y5 (QGA) QGI 6 N Tryz.f119 mQ [.call 3 3 155] 0 Xv) N (QFd v)) (fun v=>s0 (zm v)) (fun v=>s1 (QC1 v)) v) (by kernel_rfl) (by rw [funext (Tf QFd (QR4 N s0 s1) N)];rfl)
def gZ (bF:Y48->Option (Zw)) (aG:Y58->Option (Zw)) (v:Y58):Option (Zw):=
 (bif (decide (v.2.2.1 < v.2.1)) then ((Nk v.1 v.2.2.1).bind fun x2=>((pQ v.2.2.2.1 (x2,())).bind fun x3=>(let x4:Int:=(IntKind.i64.wrap (v.2.2.1+1));(aG (v.1,v.2.1,x4,x3,v.2.2.2.2))))) else ((aM v.2.2.2.1 ((List.length v.2.2.2.2.2.1:Int),())).bind fun x5=>(bF (v.2.2.2.2.2.1,(List.length v.2.2.2.2.2.1:Int),(0:Int),x5,v.2.2.2.2))))
def bZ (N:Nat) (aG:Y58->Option (Zw)) (v:Y58):Option (Zw):=gZ (Gb (bf N aG) N) aG v
theorem QR2 (N:Nat) (s0:St->Option (Zw)) (v):(Y5 (QGA) QGI 6 N Tryz.f119 mQ [.call 1 3 151] 0 Xv) s0 (zm v)=bZ N (fun v=>s0 (zm v)) v:=Eq.trans (b:=gZ (fun v=>Ot (Y5 (QGA) QGI 6 N Tryz.f119 mQ [.call 2 3 153] 0 Xv) N (QC1 v)) (fun v=>s0 (zm v)) v) (by kernel_rfl) (by rw [funext (Tf QC1 (QR3 N s0) N)];rfl)
def jk (aJ:Y58->Option (Zw)) (x:Zw) (y:(Zx×Unit)):Option (Zw):=
 ((aM x ((List.length y.1.1:Int),())).bind fun x1=>(aJ (y.1.1,(List.length y.1.1:Int),(0:Int),x1,y.1)))
def vQ (N:Nat) (x:Zw) (y:(Zx×Unit)):Option (Zw):=jk (Gb (bZ N) N) x y
theorem QZY (N:Nat) (x:Zw) (y:(Zx×Unit)):V4 (QGA) QGI 6 N Tryz.f119 mQ [.hole Z3] x y=vQ N x y:=Eq.trans (b:=jk (fun v=>Ot (Y5 (QGA) QGI 6 N Tryz.f119 mQ [.call 1 3 151] 0 Xv) N (zm v)) x y) (by kernel_rfl) (by rw [funext (Tf zm (QR2 N) N)];rfl)
def oZ (x:Zw) (y:(Zx×Unit)):Option (Zw):=vQ big x y
@[reducible] def QPq:MF:=⟨mQ,[.hole Z3],fun x y=>oZ x y⟩
theorem QXx:MS Tryz.prog 119 QPq:=Yy (c:=QPq) (E:=QGA) ⟨aK,Yc,fun _ _ _=>rfl,mixed,(YP (YO Tryz.func151 rfl rfl (by kernel_rfl)) (YP (YO Tryz.func153 rfl rfl (by kernel_rfl)) (YP (YO Tryz.func155 rfl rfl (by kernel_rfl)) Yt))),Y0,(YS QXq (YS QPl (YS QXw (YS QMo Yz))))⟩ Tryz.func119 rfl (by decide) (by kernel_rfl) (by kernel_rfl) (fun x y z h=>⟨QGI,6,big,(QZY big x y).trans h⟩)
def QYj:LT:={ live:=[],keep:=[] }
noncomputable def QX1:Bn:={ tab:=tab,fs:=[(118,QTG)],inl:=[],ow:=[(119,QPq)] }
def xR (x:Zx):Option oW:=
 ((pR x).bind fun x1=>(bif (!x1) then (some (([]:List Int),(8:Int))) else ((oZ ([]:List Int) (x,())).bind fun x2=>(bif (decide ((List.length x2:Int) > 20000)) then (some (([]:List Int),(4:Int))) else (some (x2,(0:Int)))))))
def rO (x:Zx):Option oW:=xR x
def QTL:U0:=⟨[Z3],[Z8,Z2],[true,false],fun x=>rO x⟩
theorem QXy:Hw Tryz.prog 77 QTL:=rz (E:=QX1) (lt:=QYj) (lv:=6) (N:=big) ⟨aK,(YH QXo Yc),fun _ _ _=>rfl,mixed,Yt,Y0,(YS QXx Yz)⟩ Tryz.func77 fun x _ h=>Eq.trans (b:=rO x) (by kernel_rfl) h
def QYk:LT:={ live:=[],keep:=[] }
noncomputable def QX2:Bn:={ tab:=tab,fs:=[(77,QTL)],inl:=[] }
def y7 (x:Zx):Option (Int):=
 ((rO x).bind fun x1=>(some x1.2))
def pK (x:Zx):Option (Int):=y7 x
def QPd:U0:=⟨[Z3],[Z2],[false],fun x=>pK x⟩
theorem QUK:Hw Tryz.prog 42 QPd:=rz (E:=QX2) (lt:=QYk) (lv:=6) (N:=big) ⟨aK,(YH QXy Yc),fun _ _ _=>rfl,mixed,Yt,Y0,Yz⟩ Tryz.func42 fun x _ h=>Eq.trans (b:=pK x) (by kernel_rfl) h
def QYl:LT:={ live:=[],keep:=[] }
noncomputable def QX3:Bn:={ tab:=tab,fs:=[(135,QPV)],inl:=[] }
def xU (x:Int):Option (Int×Int):=
 (bif (decide (x < 0)) then (some ((0:Int),(2:Int))) else (bif (decide (x > 1073741824)) then (some ((0:Int),(2:Int))) else ((fP (x,(8:Int))).bind fun x1=>(some (x1,(0:Int))))))
def rR (x:Int):Option (Int×Int):=xU x
def QTM:U0:=⟨[Z2],[Z2,Z2],[false,false],fun x=>rR x⟩
theorem QXz:Hw Tryz.prog 86 QTM:=rz (E:=QX3) (lt:=QYl) (lv:=6) (N:=big) ⟨aK,(YH QUB Yc),fun _ _ _=>rfl,mixed,Yt,Y0,Yz⟩ Tryz.func86 fun x _ h=>Eq.trans (b:=rR x) (by kernel_rfl) h
def QQI:LT:={ live:=[(3,[0,3,12,13])],keep:=[] }
noncomputable def QMi (mk:(α:Type)->Nat->α->List α):Bn:={ tab:=tab,fs:=[(85,QPW),(86,QTM)],inl:=[],rep:=mk }
noncomputable def QFe (v:Zv×Int×Int×Zw):St:={ s:=[(0,(.val ⟨qj,v.1⟩)),(3,(.row 0)),(12,(.val ⟨Z2,v.2.1⟩)),(13,(.val ⟨Z2,v.2.2.1⟩))],l:=[(0,.row Z2 v.2.2.2)],k:=[],b:=4096 }
def kR (mk:(α:Type)->Nat->α->List α) (aG:Zv×Int×Int×Zw->Option (Zw)) (v:Zv×Int×Int×Zw):Option (Zw):=
 (bif (decide (v.2.2.1 < v.2.1)) then ((pX (v.1,v.2.2.1)).bind fun x2=>((rR x2.1).bind fun x3=>(bif (decide (0<=v.2.2.1)&&decide (v.2.2.1 < (List.length v.2.2.2:Int))) then (let x4:Zw:=(List.set v.2.2.2 (Int.toNat v.2.2.1) x3.1);(let x5:Int:=(IntKind.i64.wrap (v.2.2.1+1));(aG (v.1,v.2.1,x5,x4)))) else none))) else (some v.2.2.2))
def bP (mk:(α:Type)->Nat->α->List α) (N:Nat) (aG:Zv×Int×Int×Zw->Option (Zw)) (v:Zv×Int×Int×Zw):Option (Zw):=kR mk aG v
theorem QR5 (mk:(α:Type)->Nat->α->List α) (N:Nat) (s0:St->Option (Zw)) (v):(ZR (QMi mk) QQI 6 N Tryz.f45 [Z6] [false] [] 0 Xv) s0 (QFe v)=bP mk N (fun v=>s0 (QFe v)) v:=by kernel_rfl
def iW (mk:(α:Type)->Nat->α->List α) (aJ:Zv×Int×Int×Zw->Option (Zw)) (x:Zv):Option (Zw):=
 (bif (decide (0<=(List.length x:Int))&&(decide ((List.length x:Int)<=(List.length x:Int))&&(decide ((List.length x:Int)<=68719476736)&&true))) then (let x1:Zw:=(mk Int (Int.toNat (List.length x:Int)) (0:Int));(aJ (x,(List.length x:Int),(0:Int),x1))) else none)
def tZ (mk:(α:Type)->Nat->α->List α) (N:Nat) (x:Zv):Option (Zw):=iW mk (Gb (bP mk N) N) x
theorem QZZ (mk:(α:Type)->Nat->α->List α) (N:Nat) (x:Zv):rise (QMi mk) QQI 6 N Tryz.f45 [qj] [Z6] [false] x=tZ mk N x:=Eq.trans (b:=iW mk (fun v=>Ot (ZR (QMi mk) QQI 6 N Tryz.f45 [Z6] [false] [] 0 Xv) N (QFe v)) x) (by kernel_rfl) (by rw [funext (Tf QFe (QR5 mk N) N)];rfl)
def iQ (x:Zv):Option (Zw):=tZ (fun _=>List.replicate) big x
def QPe:U0:=⟨[qj],[Z6],[false],fun x=>iQ x⟩
theorem QUL:Hw Tryz.prog 45 QPe:=rz (E:=QMi (fun _=>List.replicate)) ⟨aK,(YH QUC (YH QXz Yc)),fun _ _ _=>rfl,mixed,Yt,Y0,Yz⟩ Tryz.func45 fun _ _ h=>(QZZ (fun _=>List.replicate) big _).trans h
def QYm:LT:={ live:=[],keep:=[] }
noncomputable def QX4:Bn:={ tab:=tab,fs:=[],inl:=[] }
def QAb (x:Y78):Option (Bool):=
 (bif (decide (x.1≥0)) then (some (decide (x.1 < x.2))) else (some false))
def iF (x:Y78):Option (Bool):=QAb x
def QPf:U0:=⟨[Z2,Z2],[.bool],[false],fun x=>iF x⟩
theorem QUM:Hw Tryz.prog 157 QPf:=rz (E:=QX4) (lt:=QYm) (lv:=6) (N:=big) ⟨aK,Yc,fun _ _ _=>rfl,mixed,Yt,Y0,Yz⟩ Tryz.func157 fun x _ h=>Eq.trans (b:=iF x) (by kernel_rfl) h
def QYn:LT:={ live:=[],keep:=[] }
noncomputable def QX5:Bn:={ tab:=tab,fs:=[(157,QPf)],inl:=[] }
def zQ (x:Zy×Int):Option (Bool):=
 (bif (x.1.1==22) then ((iF (x.1.2.1,x.2)).bind fun x1=>(some x1)) else (bif (x.1.1==23) then ((iF (x.1.2.2.1,x.2)).bind fun x2=>(some x2)) else (some true)))
def jo (x:Zy×Int):Option (Bool):=zQ x
def QTN:U0:=⟨[Z4,Z2],[.bool],[false],fun x=>jo x⟩
theorem QY0:Hw Tryz.prog 120 QTN:=rz (E:=QX5) (lt:=QYn) (lv:=6) (N:=big) ⟨aK,(YH QUM Yc),fun _ _ _=>rfl,mixed,Yt,Y0,Yz⟩ Tryz.func120 fun x _ h=>Eq.trans (b:=jo x) (by kernel_rfl) h
def QQJ:LT:={ live:=[(4,[0,14,15,16])],keep:=[] }
noncomputable def QMj:Bn:={ tab:=tab,fs:=[(98,QKb),(120,QTN)],inl:=[] }
noncomputable def QFf (v:aB×aB×Int×Int):St:={ s:=[(0,(.val ⟨ql,v.1⟩)),(14,(.val ⟨ql,v.2.1⟩)),(15,(.val ⟨Z2,v.2.2.1⟩)),(16,(.val ⟨Z2,v.2.2.2⟩))],l:=[],k:=[],b:=4096 }
def kL (aG:aB×aB×Int×Int->Option (Int)) (v:aB×aB×Int×Int):Option (Int):=
 (bif (decide (v.2.2.2 < v.2.2.1)) then ((Nk v.2.1 v.2.2.2).bind fun x1=>((qx x1).bind fun x2=>(bif (x2 != 0) then (some (8:Int)) else ((jo (x1,(List.length v.1:Int))).bind fun x3=>(bif (!x3) then (some (8:Int)) else (let x4:Int:=(IntKind.i64.wrap (v.2.2.2+1));(aG (v.1,v.2.1,v.2.2.1,x4)))))))) else (let x5:Int:=(IntKind.i64.wrap ((List.length v.1:Int) - 1));((Nk v.1 x5).bind fun x6=>(bif (x6.1 != 34) then (some (8:Int)) else (bif (x6.2.1 != (-1:Int)) then (some (8:Int)) else (some (0:Int)))))))
def rV (N:Nat) (aG:aB×aB×Int×Int->Option (Int)) (v:aB×aB×Int×Int):Option (Int):=kL aG v
theorem QR6 (N:Nat) (s0:St->Option (Int)) (v):(ZR (QMj) QQJ 6 N Tryz.f78 [Z2] [false] [] 0 Xv) s0 (QFf v)=rV N (fun v=>s0 (QFf v)) v:=by kernel_rfl
def wQ (aJ:aB×aB×Int×Int->Option (Int)) (x:aB):Option (Int):=
 (bif ((List.length x:Int)==0) then (some (8:Int)) else (bif (decide ((List.length x:Int) > 200)) then (some (8:Int)) else (aJ (x,x,(List.length x:Int),(0:Int)))))
def QCM (N:Nat) (x:aB):Option (Int):=wQ (Gb (rV N) N) x
theorem QZa (N:Nat) (x:aB):rise (QMj) QQJ 6 N Tryz.f78 [ql] [Z2] [false] x=QCM N x:=Eq.trans (b:=wQ (fun v=>Ot (ZR (QMj) QQJ 6 N Tryz.f78 [Z2] [false] [] 0 Xv) N (QFf v)) x) (by kernel_rfl) (by rw [funext (Tf QFf (QR6 N) N)];rfl)
def lU (x:aB):Option (Int):=QCM big x
def QJO:U0:=⟨[ql],[Z2],[false],fun x=>lU x⟩
theorem QKl:Hw Tryz.prog 78 QJO:=rz (E:=QMj) ⟨aK,(YH QMn (YH QY0 Yc)),fun _ _ _=>rfl,mixed,Yt,Y0,Yz⟩ Tryz.func78 fun _ _ h=>(QZa big _).trans h
def QLJ:LT:={ live:=[],keep:=[(30,[])] }
noncomputable def QJK (mk:(α:Type)->Nat->α->List α):Bn:={ tab:=tab,fs:=[],inl:=[(203,Tryz.f203,QYo)],rep:=mk }
noncomputable def QFg (v:Y44):St:={ s:=[(0,(.row 0)),(3,(.val ⟨Z2,v.1⟩)),(4,(.sub 0 v.2.1 v.2.2.1)),(5,(.val ⟨Z2,v.2.2.2.1⟩))],l:=[(0,.row Z2 v.2.2.2.2)],k:=[(4096,[])],b:=16904192 }
noncomputable def QC2 (v:Int×Zw):St:={ s:=[(0,(.row 0)),(3,(.val ⟨Z2,v.1⟩))],l:=[(0,.row Z2 v.2)],k:=[(4096,[])],b:=16904192 }
def vG (mk:(α:Type)->Nat->α->List α) (aG:Int×Zw->Option (Zw)) (aH:Y44->Option (Zw)) (v:Y44):Option (Zw):=
 (bif (decide (v.2.2.2.1 < (List.length (List.drop v.2.1 (List.take v.2.2.1 v.2.2.2.2)):Int))) then (bif (decide (0<=v.2.2.2.1)&&decide (v.2.2.2.1 < (v.2.2.1:Int) - (v.2.1:Int))) then ((nth v.2.2.2.2 (Int.toNat ((v.2.1:Int)+v.2.2.2.1))).bind fun x9=>(let iO:Int:=(IntKind.i64.wrap (v.2.2.2.1 - 1));(bif (decide (0<=iO)&&decide (iO < (v.2.2.1:Int) - (v.2.1:Int))) then ((nth v.2.2.2.2 (Int.toNat ((v.2.1:Int)+iO))).bind fun pE=>(bif (x9 != pE) then (bif (decide (0<=v.2.2.2.1)&&decide (v.2.2.2.1 < (v.2.2.1:Int) - (v.2.1:Int))) then ((nth v.2.2.2.2 (Int.toNat ((v.2.1:Int)+v.2.2.2.1))).bind fun qh=>(bif (decide (0<=v.1)&&decide (v.1 < (List.length v.2.2.2.2:Int))) then (let sQ:Zw:=(List.set v.2.2.2.2 (Int.toNat v.1) qh);(let lN:Int:=(IntKind.i64.wrap (v.1+1));(let lS:Int:=(IntKind.i64.wrap (v.2.2.2.1+1));(aH (lN,v.2.1,v.2.2.1,lS,sQ))))) else none)) else none) else (let xq:Int:=(IntKind.i64.wrap (v.2.2.2.1+1));(aH (v.1,v.2.1,v.2.2.1,xq,v.2.2.2.2))))) else none))) else none) else (bif (decide (0<=v.1)&&decide (v.1<=((List.length v.2.2.2.2):Int))) then (let zS:Zw:=(List.append (List.take (Int.toNat v.1) v.2.2.2.2) (List.append (mk Int ((List.length v.2.2.2.2) - (Int.toNat v.1)) (0:Int)) (List.drop (List.length v.2.2.2.2) v.2.2.2.2)));(bif (decide (0<=v.1)&&decide (v.1<=((List.length zS):Int))) then (some (List.drop 0 (List.take (Int.toNat v.1) zS))) else none)) else none))
def pz (mk:(α:Type)->Nat->α->List α) (N:Nat) (aG:Int×Zw->Option (Zw)) (aH:Y44->Option (Zw)) (v:Y44):Option (Zw):=vG mk aG aH v
theorem QR8 (mk:(α:Type)->Nat->α->List α) (N:Nat) (s0:St->Option (Zw)) (s1:St->Option (Zw)) (v):(ZR (QJK mk) QLJ 6 N Tryz.f189 [Z6] [false] [.call 6 11 203] 1 (Yx s0 Xv)) s1 (QFg v)=pz mk N (fun v=>s0 (QC2 v)) (fun v=>s1 (QFg v)) v:=by kernel_rfl
def l7 (mk:(α:Type)->Nat->α->List α) (bF:Y44->Option (Zw)) (aG:Int×Zw->Option (Zw)) (v:Int×Zw):Option (Zw):=
 (bif (decide (v.1 < (List.length v.2:Int))) then (bif (decide (0<=v.1)&&decide (v.1 < (List.length v.2:Int))) then ((nth v.2 (Int.toNat v.1)).bind fun x6=>(let x7:Int:=(IntKind.i64.wrap (v.1 - 1));(bif (decide (0<=x7)&&decide (x7 < (List.length v.2:Int))) then ((nth v.2 (Int.toNat x7)).bind fun x8=>(bif (x6==x8) then (bif (decide (0<=v.1)&&decide (v.1<=((List.length v.2):Int))) then (bF (v.1,(Int.toNat v.1),(List.length v.2),(1:Int),v.2)) else none) else (let x18:Int:=(IntKind.i64.wrap (v.1+1));(aG (x18,v.2))))) else none))) else none) else (some v.2))
def bT (mk:(α:Type)->Nat->α->List α) (N:Nat) (aG:Int×Zw->Option (Zw)) (v:Int×Zw):Option (Zw):=l7 mk (Gb (pz mk N aG) N) aG v
theorem QR7 (mk:(α:Type)->Nat->α->List α) (N:Nat) (s0:St->Option (Zw)) (v):(ZR (QJK mk) QLJ 6 N Tryz.f189 [Z6] [false] [.call 6 11 203] 0 Xv) s0 (QC2 v)=bT mk N (fun v=>s0 (QC2 v)) v:=Eq.trans (b:=l7 mk (fun v=>Ot (ZR (QJK mk) QLJ 6 N Tryz.f189 [Z6] [false] [.call 6 11 203] 1 (Yx s0 Xv)) N (QFg v)) (fun v=>s0 (QC2 v)) v) (by kernel_rfl) (by rw [funext (Tf QFg (QR8 mk N s0) N)];rfl)
def uR (mk:(α:Type)->Nat->α->List α) (aJ:Int×Zw->Option (Zw)) (x:aB×Int):Option (Zw):=
 ((Nk x.1 x.2).bind fun x1=>(bif (x1.1==22) then (some ([x1.2.1]:Zw)) else (bif (x1.1==23) then (let x2:Int:=(IntKind.i64.wrap (x.2+1));(let x3:Int:=(if x1.2.2.1 < x2 then x1.2.2.1 else x2);(let x4:Int:=(IntKind.i64.wrap (x.2+1));(let x5:Int:=(if x1.2.2.1 > x4 then x1.2.2.1 else x4);(bif (decide ((List.length ([x3,x5]:Zw):Int) < 2)) then (some ([x3,x5]:Zw)) else (aJ ((1:Int),([x3,x5]:Zw)))))))) else (bif (x1.1==34) then (bif (x1.1==34) then (some ([]:List Int)) else (let zU:Int:=(IntKind.i64.wrap (x.2+1));(some ([zU]:Zw)))) else (bif (x1.1==28) then (bif (x1.1==28) then (some ([]:List Int)) else (let x20:Int:=(IntKind.i64.wrap (x.2+1));(some ([x20]:Zw)))) else (bif (x1.1==30) then (some ([]:List Int)) else (let x21:Int:=(IntKind.i64.wrap (x.2+1));(some ([x21]:Zw)))))))))
def QBE (mk:(α:Type)->Nat->α->List α) (N:Nat) (x:aB×Int):Option (Zw):=uR mk (Gb (bT mk N) N) x
theorem QZb (mk:(α:Type)->Nat->α->List α) (N:Nat) (x:aB×Int):rise (QJK mk) QLJ 6 N Tryz.f189 [ql,Z2] [Z6] [false] x=QBE mk N x:=Eq.trans (b:=uR mk (fun v=>Ot (ZR (QJK mk) QLJ 6 N Tryz.f189 [Z6] [false] [.call 6 11 203] 0 Xv) N (QC2 v)) x) (by kernel_rfl) (by rw [funext (Tf QC2 (QR7 mk N) N)];rfl)
def mU (x:aB×Int):Option (Zw):=QBE (fun _=>List.replicate) big x
def QKc:U0:=⟨[ql,Z2],[Z6],[false],fun x=>mU x⟩
theorem QMp:Hw Tryz.prog 189 QKc:=rz (E:=QJK (fun _=>List.replicate)) ⟨aK,Yc,fun _ _ _=>rfl,mixed,(YP (YO Tryz.func203 rfl rfl (by kernel_rfl)) Yt),Y0,Yz⟩ Tryz.func189 fun _ _ h=>(QZb (fun _=>List.replicate) big _).trans h
def QDK:LT:={ live:=[],keep:=[(12,[3])],rf:=[(13,[3],[3])] }
noncomputable def QEK (mk:(α:Type)->Nat->α->List α):Bn:={ tab:=tab,fs:=[(189,QKc)],inl:=[(160,Tryz.f160,QKq),(188,Tryz.f188,QKp)],rep:=mk }
noncomputable def QCk (v:Y33):St:={ s:=[(0,(.yl 0)),(1,(.loc 3 [])),(3,(.row 4)),(4,(.row 5)),(5,(.val ⟨Z2,v.1⟩)),(30,(.val ⟨Z6,v.2.1⟩)),(31,(.val ⟨Z2,v.2.2.1⟩)),(32,(.val ⟨Z2,v.2.2.2.1⟩))],l:=[(0,.lp (.pair .any (.pair .any (.pair .any (.pair (.loc 1 []) .unit)))) (Zq Tryz.f158 4 QDK .ready none)),(1,.var Z17 (.row 2)),(2,.row .bool v.2.2.2.2.1),(3,.var ql (.val ⟨ql,v.2.2.2.2.2.1⟩)),(4,.row .bool v.2.2.2.2.2.2.1),(5,.row Z2 v.2.2.2.2.2.2.2)],k:=[(0,[(0,(.yl 0))]),(4096,[(3,(.loc 1 []))])],b:=33165312 }
noncomputable def QAA (v:Y69):St:={ s:=[(0,(.yl 0)),(1,(.loc 3 [])),(3,(.row 4)),(4,(.row 5))],l:=[(0,.lp (.pair .any (.pair .any (.pair .any (.pair (.loc 1 []) .unit)))) (Zq Tryz.f158 4 QDK .ready none)),(1,.var Z17 (.row 2)),(2,.row .bool v.1),(3,.var ql (.val ⟨ql,v.2.1⟩)),(4,.row .bool v.2.2.1),(5,.row Z2 v.2.2.2)],k:=[(0,[(0,(.yl 0))]),(4096,[(3,(.loc 1 []))])],b:=33165312 }
def sN (mk:(α:Type)->Nat->α->List α) (aG:Y69->Option (aD)) (aH:Y33->Option (aD)) (v:Y33):Option (aD):=
 (bif (decide (v.2.2.2.1 < v.2.2.1)) then ((Nk v.2.1 v.2.2.2.1).bind fun iO=>(bif (decide (0<=iO)&&decide (iO < (List.length v.2.2.2.2.1:Int))) then (let pE:aD:=(List.set v.2.2.2.2.1 (Int.toNat iO) true);(bif (decide (0<=iO)&&decide (iO < (List.length v.2.2.2.2.2.2.1:Int))) then ((nth v.2.2.2.2.2.2.1 (Int.toNat iO)).bind fun qh=>(bif (!qh) then (bif (decide (0<=iO)&&decide (iO < (List.length v.2.2.2.2.2.2.1:Int))) then (let sQ:aD:=(List.set v.2.2.2.2.2.2.1 (Int.toNat iO) true);(bif (Nat.ble 1 1&&Nat.ble (List.length v.2.2.2.2.2.2.2+List.length ([iO]:Zw)) lim) then (let lN:Zw:=(List.append v.2.2.2.2.2.2.2 ([iO]:Zw));(let lS:Int:=(IntKind.i64.wrap (v.2.2.2.1+1));(aH (v.1,v.2.1,v.2.2.1,lS,pE,v.2.2.2.2.2.1,sQ,lN)))) else none)) else none) else (let xq:Int:=(IntKind.i64.wrap (v.2.2.2.1+1));(aH (v.1,v.2.1,v.2.2.1,xq,pE,v.2.2.2.2.2.1,v.2.2.2.2.2.2.1,v.2.2.2.2.2.2.2))))) else none)) else none)) else (aG (v.2.2.2.2.1,v.2.2.2.2.2.1,v.2.2.2.2.2.2.1,v.2.2.2.2.2.2.2)))
def wJ (mk:(α:Type)->Nat->α->List α) (N:Nat) (aG:Y69->Option (aD)) (aH:Y33->Option (aD)) (v:Y33):Option (aD):=sN mk aG aH v
theorem QN0 (mk:(α:Type)->Nat->α->List α) (N:Nat) (s0:St->Option (aD)) (s1:St->Option (aD)) (v):(ZR (QEK mk) QDK 6 N Tryz.f158 [Z17] [true] [.rng 4 188] 1 (Yx s0 Xv)) s1 (QCk v)=wJ mk N (fun v=>s0 (QAA v)) (fun v=>s1 (QCk v)) v:=by kernel_rfl
def wK (mk:(α:Type)->Nat->α->List α) (bF:Y33->Option (aD)) (aG:Y69->Option (aD)) (v:Y69):Option (aD):=
 (bif (decide ((List.length v.2.2.2:Int) > 0)) then (let x6:Int:=(IntKind.i64.wrap ((List.length v.2.2.2:Int) - 1));(bif (decide (0<=x6)&&decide (x6 < (List.length v.2.2.2:Int))) then ((nth v.2.2.2 (Int.toNat x6)).bind fun x7=>(let x8:Int:=(IntKind.i64.wrap ((List.length v.2.2.2:Int) - 1));(bif (decide (0<=x8)&&decide (x8<=((List.length v.2.2.2):Int))) then ((mU (v.2.1,x7)).bind fun x9=>(bF (x7,x9,(List.length x9:Int),(0:Int),v.1,v.2.1,v.2.2.1,(List.take (Int.toNat x8) v.2.2.2)))) else none))) else none)) else (some v.1))
def wI (mk:(α:Type)->Nat->α->List α) (N:Nat) (aG:Y69->Option (aD)) (v:Y69):Option (aD):=wK mk (Gb (wJ mk N aG) N) aG v
theorem QMz (mk:(α:Type)->Nat->α->List α) (N:Nat) (s0:St->Option (aD)) (v):(ZR (QEK mk) QDK 6 N Tryz.f158 [Z17] [true] [.rng 4 188] 0 Xv) s0 (QAA v)=wI mk N (fun v=>s0 (QAA v)) v:=Eq.trans (b:=wK mk (fun v=>Ot (ZR (QEK mk) QDK 6 N Tryz.f158 [Z17] [true] [.rng 4 188] 1 (Yx s0 Xv)) N (QCk v)) (fun v=>s0 (QAA v)) v) (by kernel_rfl) (by rw [funext (Tf QCk (QN0 mk N s0) N)];rfl)
def QAI (mk:(α:Type)->Nat->α->List α) (aJ:Y69->Option (aD)) (x:aB):Option (aD):=
 (bif (decide (0<=(List.length x:Int))&&(decide ((List.length x:Int)<=(List.length x:Int))&&(decide ((List.length x:Int)<=68719476736)&&true))) then (let x1:aD:=(mk Bool (Int.toNat (List.length x:Int)) false);(bif (decide (0<=(0:Int))&&decide ((0:Int) < (List.length x1:Int))) then (let x2:aD:=(List.set x1 (Int.toNat (0:Int)) true);(bif (decide (0<=(List.length x:Int))&&(decide ((List.length x:Int)<=(List.length x:Int))&&(decide ((List.length x:Int)<=68719476736)&&true))) then (let x3:aD:=(mk Bool (Int.toNat (List.length x:Int)) false);(bif (decide (0<=(0:Int))&&decide ((0:Int) < (List.length x3:Int))) then (let x4:aD:=(List.set x3 (Int.toNat (0:Int)) true);(let x5:Zw:=([(0:Int)]:Zw);(aJ (x2,x,x4,x5)))) else none)) else none)) else none)) else none)
def QEl (mk:(α:Type)->Nat->α->List α) (N:Nat) (x:aB):Option (aD):=QAI mk (Gb (wI mk N) N) x
theorem QVa (mk:(α:Type)->Nat->α->List α) (N:Nat) (x:aB):rise (QEK mk) QDK 6 N Tryz.f158 [ql] [Z17] [true] x=QEl mk N x:=Eq.trans (b:=QAI mk (fun v=>Ot (ZR (QEK mk) QDK 6 N Tryz.f158 [Z17] [true] [.rng 4 188] 0 Xv) N (QAA v)) x) (by kernel_rfl) (by rw [funext (Tf QAA (QMz mk N) N)];rfl)
def QA8 (x:aB):Option (aD):=QEl (fun _=>List.replicate) big x
def QKO:U0:=⟨[ql],[Z17],[true],fun x=>QA8 x⟩
theorem QOi:Hw Tryz.prog 158 QKO:=rz (E:=QEK (fun _=>List.replicate)) ⟨aK,(YH QMp Yc),fun _ _ _=>rfl,mixed,(YP (YO Tryz.func160 rfl rfl (by kernel_rfl)) (YP (YO Tryz.func188 rfl rfl (by kernel_rfl)) Yt)),Y0,Yz⟩ Tryz.func158 fun _ _ h=>(QVa (fun _=>List.replicate) big _).trans h
def QUS:LT:={ live:=[],keep:=[] }
noncomputable def QS5:Bn:={ tab:=tab,fs:=[(78,QJO),(158,QKO)],inl:=[] }
def xP (x:aB):Option (aD×Int):=
 ((lU x).bind fun x1=>(bif (x1 != 0) then (some (([]:List Bool),x1)) else ((QA8 x).bind fun x2=>(let x3:Int:=(IntKind.i64.wrap ((List.length x:Int) - 1));(bif (decide (0<=x3)&&decide (x3 < (List.length x2:Int))) then (let x4:aD:=(List.set x2 (Int.toNat x3) true);(some (x4,(0:Int)))) else none)))))
def rJ (x:aB):Option (aD×Int):=xP x
def QO5:U0:=⟨[ql],[Z17,Z2],[true,false],fun x=>rJ x⟩
theorem QTR:Hw Tryz.prog 121 QO5:=rz (E:=QS5) (lt:=QUS) (lv:=6) (N:=big) ⟨aK,(YH QKl (YH QOi Yc)),fun _ _ _=>rfl,mixed,Yt,Y0,Yz⟩ Tryz.func121 fun x _ h=>Eq.trans (b:=rJ x) (by kernel_rfl) h
def QKr:LT:={ live:=[],keep:=[(13,[2,3])] }
noncomputable def QI5:Bn:={ tab:=tab,fs:=[(98,QKb),(140,QMm)],inl:=[(99,Tryz.f99,QV6),(100,Tryz.f100,QUU),(101,Tryz.f101,QUT)] }
noncomputable def QCl (v:Y61):St:={ s:=[(1,(.Ee 100 (.pair (.loc 0 []) (.pair (.loc 2 []) .unit)))),(4,(.loc 4 [])),(13,(.val ⟨(.arr 3 mQ),v.1⟩)),(14,(.val ⟨Z2,v.2.1⟩))],l:=[(0,.var Z6 (.row 1)),(1,.row Z2 v.2.2.1),(2,.var Z6 (.row 3)),(3,.row Z2 v.2.2.2.1),(4,.var (.arr 3 Z2) (.val ⟨(.arr 3 Z2),v.2.2.2.2⟩))],k:=[(4096,[(2,(.loc 0 [])),(3,(.loc 2 []))])],b:=16834560 }
def yw (aG:Y61->Option Y23) (v:Y61):Option Y23:=
 (bif (decide (v.2.1 < 3)) then ((Nk v.1 v.2.1).bind fun x4=>(bif (x4 != 0) then (bif (decide (0<=v.2.1)&&decide (v.2.1 < 3)) then ((nth v.2.2.2.2 (Int.toNat v.2.1)).bind fun x5=>(bif (x4==1) then (bif (x4==1) then (bif (x5==(-1:Int)) then (let x6:Int:=(IntKind.i64.wrap (v.2.1+1));(aG (v.1,x6,v.2.2.1,v.2.2.2.1,v.2.2.2.2))) else (bif (Nat.ble 1 1&&Nat.ble (List.length v.2.2.1+List.length ([x5]:Zw)) lim) then (let x7:Zw:=(List.append v.2.2.1 ([x5]:Zw));(let x8:Int:=(IntKind.i64.wrap (v.2.1+1));(aG (v.1,x8,x7,v.2.2.2.1,v.2.2.2.2)))) else none)) else (bif (x4==2) then (bif (x4==2) then (bif (x5==(-1:Int)) then (let x9:Int:=(IntKind.i64.wrap (v.2.1+1));(aG (v.1,x9,v.2.2.1,v.2.2.2.1,v.2.2.2.2))) else (bif (Nat.ble 1 1&&Nat.ble (List.length v.2.2.2.1+List.length ([x5]:Zw)) lim) then (let iO:Zw:=(List.append v.2.2.2.1 ([x5]:Zw));(let pE:Int:=(IntKind.i64.wrap (v.2.1+1));(aG (v.1,pE,v.2.2.1,iO,v.2.2.2.2)))) else none)) else (let qh:Int:=(IntKind.i64.wrap (v.2.1+1));(aG (v.1,qh,v.2.2.1,v.2.2.2.1,v.2.2.2.2)))) else (bif (x4==4) then (bif (x5==(-1:Int)) then (let sQ:Int:=(IntKind.i64.wrap (v.2.1+1));(aG (v.1,sQ,v.2.2.1,v.2.2.2.1,v.2.2.2.2))) else (bif (Nat.ble 1 1&&Nat.ble (List.length v.2.2.2.1+List.length ([x5]:Zw)) lim) then (let lN:Zw:=(List.append v.2.2.2.1 ([x5]:Zw));(let lS:Int:=(IntKind.i64.wrap (v.2.1+1));(aG (v.1,lS,v.2.2.1,lN,v.2.2.2.2)))) else none)) else (let xq:Int:=(IntKind.i64.wrap (v.2.1+1));(aG (v.1,xq,v.2.2.1,v.2.2.2.1,v.2.2.2.2)))))) else (bif (x4==3) then (bif (x5==(-1:Int)) then (let zS:Int:=(IntKind.i64.wrap (v.2.1+1));(aG (v.1,zS,v.2.2.1,v.2.2.2.1,v.2.2.2.2))) else (bif (Nat.ble 1 1&&Nat.ble (List.length v.2.2.1+List.length ([x5]:Zw)) lim) then (let x18:Zw:=(List.append v.2.2.1 ([x5]:Zw));(let zU:Int:=(IntKind.i64.wrap (v.2.1+1));(aG (v.1,zU,x18,v.2.2.2.1,v.2.2.2.2)))) else none)) else (bif (x4==2) then (bif (x4==2) then (bif (x5==(-1:Int)) then (let x20:Int:=(IntKind.i64.wrap (v.2.1+1));(aG (v.1,x20,v.2.2.1,v.2.2.2.1,v.2.2.2.2))) else (bif (Nat.ble 1 1&&Nat.ble (List.length v.2.2.2.1+List.length ([x5]:Zw)) lim) then (let x21:Zw:=(List.append v.2.2.2.1 ([x5]:Zw));(let zV:Int:=(IntKind.i64.wrap (v.2.1+1));(aG (v.1,zV,v.2.2.1,x21,v.2.2.2.2)))) else none)) else (let x23:Int:=(IntKind.i64.wrap (v.2.1+1));(aG (v.1,x23,v.2.2.1,v.2.2.2.1,v.2.2.2.2)))) else (bif (x4==4) then (bif (x5==(-1:Int)) then (let x24:Int:=(IntKind.i64.wrap (v.2.1+1));(aG (v.1,x24,v.2.2.1,v.2.2.2.1,v.2.2.2.2))) else (bif (Nat.ble 1 1&&Nat.ble (List.length v.2.2.2.1+List.length ([x5]:Zw)) lim) then (let x25:Zw:=(List.append v.2.2.2.1 ([x5]:Zw));(let x26:Int:=(IntKind.i64.wrap (v.2.1+1));(aG (v.1,x26,v.2.2.1,x25,v.2.2.2.2)))) else none)) else (let x27:Int:=(IntKind.i64.wrap (v.2.1+1));(aG (v.1,x27,v.2.2.1,v.2.2.2.1,v.2.2.2.2)))))))) else none) else (let x28:Int:=(IntKind.i64.wrap (v.2.1+1));(aG (v.1,x28,v.2.2.1,v.2.2.2.1,v.2.2.2.2))))) else (some (v.2.2.1,v.2.2.2.1,(0:Int))))
def uK (N:Nat) (aG:Y61->Option Y23) (v:Y61):Option Y23:=yw aG v
theorem QN1 (N:Nat) (s0:St->Option Y23) (v):(ZR (QI5) QKr 6 N Tryz.f50 [Z6,Z6,Z2] [true,false,false] [.call 4 2 99] 0 Xv) s0 (QCl v)=uK N (fun v=>s0 (QCl v)) v:=by kernel_rfl
def zA (aJ:Y61->Option Y23) (x:Zy):Option Y23:=
 ((qx x).bind fun x1=>(bif (x1 != 0) then (some (([]:List Int),([]:List Int),x1)) else ((j4 x).bind fun x2=>((Nk ZT x.1).bind fun x3=>(aJ (x3.2.1,(0:Int),([]:List Int),([]:List Int),x2))))))
def QDr (N:Nat) (x:Zy):Option Y23:=zA (Gb (uK N) N) x
theorem QVb (N:Nat) (x:Zy):rise (QI5) QKr 6 N Tryz.f50 [Z4] [Z6,Z6,Z2] [true,false,false] x=QDr N x:=Eq.trans (b:=zA (fun v=>Ot (ZR (QI5) QKr 6 N Tryz.f50 [Z6,Z6,Z2] [true,false,false] [.call 4 2 99] 0 Xv) N (QCl v)) x) (by kernel_rfl) (by rw [funext (Tf QCl (QN1 N) N)];rfl)
def qy (x:Zy):Option Y23:=QDr big x
def QIT:U0:=⟨[Z4],[Z6,Z6,Z2],[true,false,false],fun x=>qy x⟩
theorem QKg:Hw Tryz.prog 50 QIT:=rz (E:=QI5) ⟨aK,(YH QMn (YH QPk Yc)),fun _ _ _=>rfl,mixed,(YP (YO Tryz.func99 rfl rfl (by kernel_rfl)) (YP (YO Tryz.func100 rfl rfl (by kernel_rfl)) (YP (YO Tryz.func101 rfl rfl (by kernel_rfl)) Yt))),Y0,Yz⟩ Tryz.func50 fun _ _ h=>(QVb big _).trans h
def QGF:LT:={ live:=[(3,[0,3,9,10,11]),(11,[6,25,26,27])],keep:=[(24,[0])],stk:=[6] }
noncomputable def QEL (mk:(α:Type)->Nat->α->List α):Bn:={ tab:=tab,fs:=[],inl:=[(136,Tryz.f136,QUV)],rep:=mk }
noncomputable def QCm (v:Y63):St:={ s:=[(6,(.row 0)),(25,(.val ⟨(.slice Z6),v.1⟩)),(26,(.val ⟨Z2,v.2.1⟩)),(27,(.val ⟨Z2,v.2.2.1⟩))],l:=[(0,.row Z2 v.2.2.2)],k:=[],b:=4096 }
noncomputable def QAB (v:Y42):St:={ s:=[(0,(.val ⟨(.slice Z6),v.1⟩)),(3,(.val ⟨Z2,v.2.1⟩)),(9,(.val ⟨(.slice Z6),v.2.2.1⟩)),(10,(.val ⟨Z2,v.2.2.2.1⟩)),(11,(.val ⟨Z2,v.2.2.2.2⟩))],l:=[],k:=[],b:=4096 }
def iL (mk:(α:Type)->Nat->α->List α) (aG:Y42->Option (Zw)) (aH:Y63->Option (Zw)) (v:Y63):Option (Zw):=
 (bif (decide (v.2.2.1 < v.2.1)) then ((Nk v.1 v.2.2.1).bind fun x7=>(bif (Nat.ble 1 1&&Nat.ble (List.length v.2.2.2+List.length x7) lim) then (let x8:Int:=(IntKind.i64.wrap (v.2.2.1+1));(aH (v.1,v.2.1,x8,(List.append v.2.2.2 x7)))) else none)) else (some v.2.2.2))
def ay (mk:(α:Type)->Nat->α->List α) (N:Nat) (aG:Y42->Option (Zw)) (aH:Y63->Option (Zw)) (v:Y63):Option (Zw):=iL mk aG aH v
theorem QN3 (mk:(α:Type)->Nat->α->List α) (N:Nat) (s0:St->Option (Zw)) (s1:St->Option (Zw)) (v):(ZR (QEL mk) QGF 6 N Tryz.f87 [Z6] [true] [] 1 Xv) s1 (QCm v)=ay mk N (fun v=>s0 (QAB v)) (fun v=>s1 (QCm v)) v:=by kernel_rfl
def bA (mk:(α:Type)->Nat->α->List α) (bF:Y63->Option (Zw)) (aG:Y42->Option (Zw)) (v:Y42):Option (Zw):=
 (bif (decide (v.2.2.2.2 < v.2.2.2.1)) then ((Nk v.2.2.1 v.2.2.2.2).bind fun x1=>(let x2:Int:=(IntKind.i64.wrap (v.2.1+(List.length x1:Int)));(bif (decide (x2 < 0)) then none else (let x3:Int:=(IntKind.i64.wrap (v.2.2.2.2+1));(aG (v.1,x2,v.2.2.1,v.2.2.2.1,x3)))))) else (bif (decide (v.2.1 < 0)) then none else (let x4:Int:=(IntKind.i64.wrap ((0:Int) - (List.length ([]:List Int):Int)));(let x5:Int:=(IntKind.i64.wrap (v.2.1 - x4));(bif (decide (x5 > 0)) then (bif (decide ((0:Int)=0)) then (bif (decide (1<=x5)&&decide (x5<=(lim:Int))) then (bif (Nat.ble 1 1&&Nat.ble (List.length ([]:List Int)+List.length (mk Int (Int.toNat x5) (0:Int))) lim) then (let x6:Zw:=(List.append ([]:List Int) (mk Int (Int.toNat x5) (0:Int)));(bif (decide (0<=(List.length ([]:List Int):Int))&&decide ((List.length ([]:List Int):Int)<=((List.length x6):Int))) then (bF (v.1,(List.length v.1:Int),(0:Int),(List.take (Int.toNat (List.length ([]:List Int):Int)) x6))) else none)) else none) else none) else none) else (bF (v.1,(List.length v.1:Int),(0:Int),([]:List Int))))))))
def av (mk:(α:Type)->Nat->α->List α) (N:Nat) (aG:Y42->Option (Zw)) (v:Y42):Option (Zw):=bA mk (Gb (ay mk N aG) N) aG v
theorem QN2 (mk:(α:Type)->Nat->α->List α) (N:Nat) (s0:St->Option (Zw)) (v):(ZR (QEL mk) QGF 6 N Tryz.f87 [Z6] [true] [] 0 Xv) s0 (QAB v)=av mk N (fun v=>s0 (QAB v)) v:=Eq.trans (b:=bA mk (fun v=>Ot (ZR (QEL mk) QGF 6 N Tryz.f87 [Z6] [true] [] 1 Xv) N (QCm v)) (fun v=>s0 (QAB v)) v) (by kernel_rfl) (by rw [funext (Tf QCm (QN3 mk N s0) N)];rfl)
def fO (mk:(α:Type)->Nat->α->List α) (aJ:Y42->Option (Zw)) (x:xZ):Option (Zw):=
 (aJ (x,(0:Int),x,(List.length x:Int),(0:Int)))
def qY (mk:(α:Type)->Nat->α->List α) (N:Nat) (x:xZ):Option (Zw):=fO mk (Gb (av mk N) N) x
theorem QVc (mk:(α:Type)->Nat->α->List α) (N:Nat) (x:xZ):rise (QEL mk) QGF 6 N Tryz.f87 [(.slice Z6)] [Z6] [true] x=qY mk N x:=Eq.trans (b:=fO mk (fun v=>Ot (ZR (QEL mk) QGF 6 N Tryz.f87 [Z6] [true] [] 0 Xv) N (QAB v)) x) (by kernel_rfl) (by rw [funext (Tf QAB (QN2 mk N) N)];rfl)
def cu (x:xZ):Option (Zw):=qY (fun _=>List.replicate) big x
def QKP:U0:=⟨[(.slice Z6)],[Z6],[true],fun x=>cu x⟩
theorem QOj:Hw Tryz.prog 87 QKP:=rz (E:=QEL (fun _=>List.replicate)) ⟨aK,Yc,fun _ _ _=>rfl,mixed,(YP (YO Tryz.func136 rfl rfl (by kernel_rfl)) Yt),Y0,Yz⟩ Tryz.func87 fun _ _ h=>(QVc (fun _=>List.replicate) big _).trans h
def QUW:LT:={ live:=[],keep:=[] }
noncomputable def QS6:Bn:={ tab:=tab,fs:=[],inl:=[] }
def xO (x:Zy):Option (Int×Bool):=
 (bif (x.1==25) then (some (x.2.2.1,true)) else (bif (x.1==26) then (bif (x.1==26) then (some (x.2.1,true)) else (some ((0:Int),false))) else (bif (x.1==27) then (some (x.2.1,true)) else (some ((0:Int),false)))))
def nY (x:Zy):Option (Int×Bool):=xO x
def QKQ:U0:=⟨[Z4],[Z2,.bool],[false,false],fun x=>nY x⟩
theorem QOk:Hw Tryz.prog 88 QKQ:=rz (E:=QS6) (lt:=QUW) (lv:=6) (N:=big) ⟨aK,Yc,fun _ _ _=>rfl,mixed,Yt,Y0,Yz⟩ Tryz.func88 fun x _ h=>Eq.trans (b:=nY x) (by kernel_rfl) h
def QKs:LT:={ live:=[(3,[2,3,21,22,23])],keep:=[] }
noncomputable def QI6:Bn:={ tab:=tab,fs:=[(50,QIT),(87,QKP),(88,QKQ)],inl:=[] }
noncomputable def QCn (v:Y59):St:={ s:=[(2,(.loc 0 [])),(3,(.loc 1 [])),(21,(.row 2)),(22,(.val ⟨Z2,v.1⟩)),(23,(.val ⟨Z2,v.2.1⟩))],l:=[(0,.var Z9 (.val ⟨Z9,v.2.2.1⟩)),(1,.var Z4 (.val ⟨Z4,v.2.2.2.1⟩)),(2,.row Z2 v.2.2.2.2)],k:=[],b:=4096 }
def iJ (aG:Y59->Option (Bool)) (v:Y59):Option (Bool):=
 (bif (decide (v.2.1 < v.1)) then (bif (decide (0<=v.2.1)&&decide (v.2.1 < (List.length v.2.2.2.2:Int))) then ((nth v.2.2.2.2 (Int.toNat v.2.1)).bind fun x4=>(bif (decide (x4≥(List.length v.2.2.1.2.1.2.2.2.1:Int))) then (some false) else (let x5:Int:=(IntKind.i64.wrap (v.2.1+1));(aG (v.1,x5,v.2.2.1,v.2.2.2.1,v.2.2.2.2))))) else none) else ((nY v.2.2.2.1).bind fun x6=>(bif x6.2 then (some (decide (x6.1 < (List.length v.2.2.1.1.2.2.1:Int)))) else (bif (v.2.2.2.1.1 != 2) then (some true) else (some (decide (v.2.2.2.1.2.2.1 < (List.length v.2.2.1.1.2.1:Int))))))))
def au (N:Nat) (aG:Y59->Option (Bool)) (v:Y59):Option (Bool):=iJ aG v
theorem QN4 (N:Nat) (s0:St->Option (Bool)) (v):(ZR (QI6) QKs 6 N Tryz.f48 [.bool] [false] [] 0 Xv) s0 (QCn v)=au N (fun v=>s0 (QCn v)) v:=by kernel_rfl
def fM (aJ:Y59->Option (Bool)) (x:aC×Zy):Option (Bool):=
 ((qy x.2).bind fun x1=>(let x2:xZ:=([x1.1,x1.2.1]:xZ);((cu x2).bind fun x3=>(aJ ((List.length x3:Int),(0:Int),x.1,x.2,x3)))))
def qX (N:Nat) (x:aC×Zy):Option (Bool):=fM (Gb (au N) N) x
theorem QVd (N:Nat) (x:aC×Zy):rise (QI6) QKs 6 N Tryz.f48 [Z9,Z4] [.bool] [false] x=qX N x:=Eq.trans (b:=fM (fun v=>Ot (ZR (QI6) QKs 6 N Tryz.f48 [.bool] [false] [] 0 Xv) N (QCn v)) x) (by kernel_rfl) (by rw [funext (Tf QCn (QN4 N) N)];rfl)
def jY (x:aC×Zy):Option (Bool):=qX big x
def QO6:U0:=⟨[Z9,Z4],[.bool],[false],fun x=>jY x⟩
theorem QTS:Hw Tryz.prog 48 QO6:=rz (E:=QI6) ⟨aK,(YH QKg (YH QOj (YH QOk Yc))),fun _ _ _=>rfl,mixed,Yt,Y0,Yz⟩ Tryz.func48 fun _ _ h=>(QVd big _).trans h
def QUX:LT:={ live:=[],keep:=[] }
noncomputable def QS7:Bn:={ tab:=tab,fs:=[],inl:=[] }
def nX (x:aC×Int):Option (Int):=
 ((Nk x.1.2.1.2.2.2.1 x.2).bind fun x1=>(some x1.2.1))
def aO (x:aC×Int):Option (Int):=nX x
def QDI:U0:=⟨[Z9,Z2],[Z2],[false],fun x=>aO x⟩
theorem QEO:Hw Tryz.prog 90 QDI:=rz (E:=QS7) (lt:=QUX) (lv:=6) (N:=big) ⟨aK,Yc,fun _ _ _=>rfl,mixed,Yt,Y0,Yz⟩ Tryz.func90 fun x _ h=>Eq.trans (b:=aO x) (by kernel_rfl) h
def QUY:LT:={ live:=[],keep:=[] }
noncomputable def QS8:Bn:={ tab:=tab,fs:=[(90,QDI)],inl:=[] }
def nV (x:aC×Int):Option (Int):=
 ((aO (x.1,x.2)).bind fun x1=>((Nk x.1.1.1 x1).bind fun x2=>(some x2.1)))
def bB (x:aC×Int):Option (Int):=nV x
def QIU:U0:=⟨[Z9,Z2],[mQ],[false],fun x=>bB x⟩
theorem QKh:Hw Tryz.prog 92 QIU:=rz (E:=QS8) (lt:=QUY) (lv:=6) (N:=big) ⟨aK,(YH QEO Yc),fun _ _ _=>rfl,mixed,Yt,Y0,Yz⟩ Tryz.func92 fun x _ h=>Eq.trans (b:=bB x) (by kernel_rfl) h
def QKt:LT:={ live:=[],keep:=[(9,[])] }
noncomputable def QI7:Bn:={ tab:=tab,fs:=[(92,QIU)],inl:=[(131,Tryz.f131,QIZ),(137,Tryz.f137,QUZ),(167,Tryz.f167,QIY)] }
noncomputable def QCo (v:Y49):St:={ s:=[(0,(.val ⟨Z6,v.1⟩)),(1,(.Ee 137 (.pair (.loc 0 []) (.pair (.loc 1 []) .unit)))),(7,(.val ⟨Z2,v.2.1⟩)),(8,(.val ⟨Z2,v.2.2.1⟩))],l:=[(0,.var Z9 (.val ⟨Z9,v.2.2.2.1⟩)),(1,.var mQ (.val ⟨mQ,v.2.2.2.2⟩))],k:=[(16818176,[]),(4096,[])],b:=68887281664 }
def oh (aG:Y49->Option (Bool)) (v:Y49):Option (Bool):=
 (bif (decide (v.2.2.1 < v.2.1)) then ((Nk v.1 v.2.2.1).bind fun x1=>((bB (v.2.2.2.1,x1)).bind fun x2=>(bif (x2 != v.2.2.2.2) then (some (!(decide (v.2.2.1≥0)))) else (let x3:Int:=(IntKind.i64.wrap (v.2.2.1+1));(aG (v.1,v.2.1,x3,v.2.2.2.1,v.2.2.2.2)))))) else (some (!(decide ((-1:Int)≥0)))))
def dX (N:Nat) (aG:Y49->Option (Bool)) (v:Y49):Option (Bool):=oh aG v
theorem QN5 (N:Nat) (s0:St->Option (Bool)) (v):(ZR (QI7) QKt 6 N Tryz.f89 [.bool] [false] [.call 1 2 131,.call 1 2 167] 0 Xv) s0 (QCo v)=dX N (fun v=>s0 (QCo v)) v:=by kernel_rfl
def nH (aJ:Y49->Option (Bool)) (x:aC×Int×Zw):Option (Bool):=
 (aJ (x.2.2,(List.length x.2.2:Int),(0:Int),x.1,x.2.1))
def yH (N:Nat) (x:aC×Int×Zw):Option (Bool):=nH (Gb (dX N) N) x
theorem QVe (N:Nat) (x:aC×Int×Zw):rise (QI7) QKt 6 N Tryz.f89 [Z9,mQ,Z6] [.bool] [false] x=yH N x:=Eq.trans (b:=nH (fun v=>Ot (ZR (QI7) QKt 6 N Tryz.f89 [.bool] [false] [.call 1 2 131,.call 1 2 167] 0 Xv) N (QCo v)) x) (by kernel_rfl) (by rw [funext (Tf QCo (QN5 N) N)];rfl)
def aL (x:aC×Int×Zw):Option (Bool):=yH big x
def QO7:U0:=⟨[Z9,mQ,Z6],[.bool],[false],fun x=>aL x⟩
theorem QTT:Hw Tryz.prog 89 QO7:=rz (E:=QI7) ⟨aK,(YH QKh Yc),fun _ _ _=>rfl,mixed,(YP (YO Tryz.func131 rfl rfl (by kernel_rfl)) (YP (YO Tryz.func137 rfl rfl (by kernel_rfl)) (YP (YO Tryz.func167 rfl rfl (by kernel_rfl)) Yt))),Y0,Yz⟩ Tryz.func89 fun _ _ h=>(QVe big _).trans h
def QKu:LT:={ live:=[(2,[0,1,7,8])],keep:=[] }
noncomputable def QI8:Bn:={ tab:=tab,fs:=[],inl:=[] }
noncomputable def QCp (v:Y62):St:={ s:=[(0,(.val ⟨Z8,v.1⟩)),(1,(.val ⟨mQ,v.2.1⟩)),(7,(.val ⟨Z2,v.2.2.1⟩)),(8,(.val ⟨Z2,v.2.2.2⟩))],l:=[],k:=[],b:=4096 }
def uM (aG:Y62->Option (Int)) (v:Y62):Option (Int):=
 (bif (decide (v.2.2.2 < v.2.2.1)) then ((Nk v.1 v.2.2.2).bind fun x1=>(bif (v.2.1==x1) then (some v.2.2.2) else (let x2:Int:=(IntKind.i64.wrap (v.2.2.2+1));(aG (v.1,v.2.1,v.2.2.1,x2))))) else (some (-1:Int)))
def ko (N:Nat) (aG:Y62->Option (Int)) (v:Y62):Option (Int):=uM aG v
theorem QN6 (N:Nat) (s0:St->Option (Int)) (v):(ZR (QI8) QKu 6 N Tryz.f173 [Z2] [false] [] 0 Xv) s0 (QCp v)=ko N (fun v=>s0 (QCp v)) v:=by kernel_rfl
def nO (aJ:Y62->Option (Int)) (x:Zw×Int):Option (Int):=
 (aJ (x.1,x.2,(List.length x.1:Int),(0:Int)))
def nN (N:Nat) (x:Zw×Int):Option (Int):=nO (Gb (ko N) N) x
theorem QVf (N:Nat) (x:Zw×Int):rise (QI8) QKu 6 N Tryz.f173 [Z8,mQ] [Z2] [false] x=nN N x:=Eq.trans (b:=nO (fun v=>Ot (ZR (QI8) QKu 6 N Tryz.f173 [Z2] [false] [] 0 Xv) N (QCp v)) x) (by kernel_rfl) (by rw [funext (Tf QCp (QN6 N) N)];rfl)
def nL (x:Zw×Int):Option (Int):=nN big x
def QO8:U0:=⟨[Z8,mQ],[Z2],[false],fun x=>nL x⟩
theorem QTU:Hw Tryz.prog 173 QO8:=rz (E:=QI8) ⟨aK,Yc,fun _ _ _=>rfl,mixed,Yt,Y0,Yz⟩ Tryz.func173 fun _ _ h=>(QVf big _).trans h
def QUa:LT:={ live:=[],keep:=[] }
noncomputable def QS9:Bn:={ tab:=tab,fs:=[(173,QO8)],inl:=[] }
def tV (x:Zw×Int):Option (Bool):=
 ((nL (x.1,x.2)).bind fun x1=>(some (decide (x1≥0))))
def fD (x:Zw×Int):Option (Bool):=tV x
def QO9:U0:=⟨[Z8,mQ],[.bool],[false],fun x=>fD x⟩
theorem QTV:Hw Tryz.prog 138 QO9:=rz (E:=QS9) (lt:=QUa) (lv:=6) (N:=big) ⟨aK,(YH QTU Yc),fun _ _ _=>rfl,mixed,Yt,Y0,Yz⟩ Tryz.func138 fun x _ h=>Eq.trans (b:=fD x) (by kernel_rfl) h
def QUb:LT:={ live:=[],keep:=[] }
noncomputable def QSA:Bn:={ tab:=tab,fs:=[(138,QO9)],inl:=[] }
def QFu (x:Int×Zw):Option (Bool):=
 ((fD (x.2,x.1)).bind fun x1=>(some x1))
def jW (x:Int×Zw):Option (Bool):=QFu x
def QIV:U0:=⟨[mQ,Z8],[.bool],[false],fun x=>jW x⟩
theorem QKi:Hw Tryz.prog 95 QIV:=rz (E:=QSA) (lt:=QUb) (lv:=6) (N:=big) ⟨aK,(YH QTV Yc),fun _ _ _=>rfl,mixed,Yt,Y0,Yz⟩ Tryz.func95 fun x _ h=>Eq.trans (b:=jW x) (by kernel_rfl) h
def QUc:LT:={ live:=[],keep:=[] }
noncomputable def QSB:Bn:={ tab:=tab,fs:=[(95,QIV)],inl:=[] }
def vS (x:Int):Option (Bool):=
 (let x1:Zw:=([(2:Int),(1:Int),(4:Int)]:Zw);((jW (x,x1)).bind fun x2=>(some x2)))
def lT (x:Int):Option (Bool):=vS x
def QKR:U0:=⟨[mQ],[.bool],[false],fun x=>lT x⟩
theorem QOl:Hw Tryz.prog 91 QKR:=rz (E:=QSB) (lt:=QUc) (lv:=6) (N:=big) ⟨aK,(YH QKi Yc),fun _ _ _=>rfl,mixed,Yt,Y0,Yz⟩ Tryz.func91 fun x _ h=>Eq.trans (b:=lT x) (by kernel_rfl) h
def QUd:LT:={ live:=[],keep:=[] }
noncomputable def QSC:Bn:={ tab:=tab,fs:=[(90,QDI)],inl:=[] }
def mO (x:aC×Int×Int×Int):Option (Bool):=
 ((aO (x.1,x.2.2.1)).bind fun x1=>((Nk x.1.1.1 x1).bind fun x2=>(bif (decide (x.2.2.2 < (List.length x2.2.2.2.1:Int))) then ((Nk x2.2.2.2.1 x.2.2.2).bind fun x3=>((aO (x.1,x.2.1)).bind fun x4=>(some (x3.2.1==x4)))) else (some false))))
def d9 (x:aC×Int×Int×Int):Option (Bool):=mO x
def QOA:U0:=⟨[Z9,Z2,Z2,Z2],[.bool],[false],fun x=>d9 x⟩
theorem QTX:Hw Tryz.prog 93 QOA:=rz (E:=QSC) (lt:=QUd) (lv:=6) (N:=big) ⟨aK,(YH QEO Yc),fun _ _ _=>rfl,mixed,Yt,Y0,Yz⟩ Tryz.func93 fun x _ h=>Eq.trans (b:=d9 x) (by kernel_rfl) h
def QUe:LT:={ live:=[],keep:=[] }
noncomputable def QSD:Bn:={ tab:=tab,fs:=[(90,QDI),(92,QIU),(95,QIV)],inl:=[] }
def nU (x:aC×Int×Int×Zw):Option (Bool):=
 ((bB (x.1,x.2.2.1)).bind fun x1=>((jW (x1,x.2.2.2)).bind fun x2=>(bif x2 then ((aO (x.1,x.2.2.1)).bind fun x3=>((Nk x.1.1.1 x3).bind fun x4=>((aO (x.1,x.2.1)).bind fun x5=>(some (x4.2.1==x5))))) else (some false))))
def bK (x:aC×Int×Int×Zw):Option (Bool):=nU x
def QOB:U0:=⟨[Z9,Z2,Z2,Z8],[.bool],[false],fun x=>bK x⟩
theorem QTY:Hw Tryz.prog 94 QOB:=rz (E:=QSD) (lt:=QUe) (lv:=6) (N:=big) ⟨aK,(YH QEO (YH QKh (YH QKi Yc))),fun _ _ _=>rfl,mixed,Yt,Y0,Yz⟩ Tryz.func94 fun x _ h=>Eq.trans (b:=bK x) (by kernel_rfl) h
def QUf:LT:={ live:=[],keep:=[] }
noncomputable def QSE:Bn:={ tab:=tab,fs:=[(90,QDI)],inl:=[] }
def iM (x:aC×Int×Zu):Option (Bool):=
 (bif (x.2.1==(-1:Int)) then (some true) else ((aO (x.1,x.2.1)).bind fun x1=>(some (x1==x.2.2.2.2.1))))
def bR (x:aC×Int×Zu):Option (Bool):=iM x
def QOC:U0:=⟨[Z9,Z2,Z0],[.bool],[false],fun x=>bR x⟩
theorem QTZ:Hw Tryz.prog 96 QOC:=rz (E:=QSE) (lt:=QUf) (lv:=6) (N:=big) ⟨aK,(YH QEO Yc),fun _ _ _=>rfl,mixed,Yt,Y0,Yz⟩ Tryz.func96 fun x _ h=>Eq.trans (b:=bR x) (by kernel_rfl) h
def QUg:LT:={ live:=[],keep:=[] }
noncomputable def QSF:Bn:={ tab:=tab,fs:=[(91,QKR)],inl:=[] }
def jg (x:aC×Zu):Option (Bool):=
 (bif (x.2.2.2.1 != (-1:Int)) then (some false) else (bif (decide (x.2.2.1 > 1)) then (some false) else (bif (x.2.2.1==0) then (some true) else ((Nk x.2.2.2.2.1 (0:Int)).bind fun x1=>((Nk x.1.1.1 x1.2.1).bind fun x2=>((lT x2.1).bind fun x3=>(some x3)))))))
def cZ (x:aC×Zu):Option (Bool):=jg x
def QOD:U0:=⟨[Z9,Z0],[.bool],[false],fun x=>cZ x⟩
theorem QTa:Hw Tryz.prog 97 QOD:=rz (E:=QSF) (lt:=QUg) (lv:=6) (N:=big) ⟨aK,(YH QOl Yc),fun _ _ _=>rfl,mixed,Yt,Y0,Yz⟩ Tryz.func97 fun x _ h=>Eq.trans (b:=cZ x) (by kernel_rfl) h
def QUh:LT:={ live:=[],keep:=[],cnd:=[7,22,41,224,244] }
noncomputable def QSG:Bn:={ tab:=tab,fs:=[(89,QO7),(90,QDI),(91,QKR),(92,QIU),(93,QOA),(94,QOB),(95,QIV),(96,QOC),(97,QOD)],inl:=[] }
def aI (x:aC×Zy):Option (Bool):=
 (bif (x.2.1==1) then ((aL (x.1,(2:Int),([x.2.2.1]:Zw))).bind fun x1=>(some x1)) else (bif (x.2.1==32) then ((aL (x.1,(2:Int),([x.2.2.1]:Zw))).bind fun x2=>(some x2)) else (bif (x.2.1==2) then ((aL (x.1,(3:Int),([x.2.2.1]:Zw))).bind fun x3=>(some x3)) else (bif (x.2.1==3) then ((aL (x.1,(1:Int),([x.2.2.1]:Zw))).bind fun x4=>(some x4)) else (bif (x.2.1==23) then ((aL (x.1,(1:Int),([x.2.2.1]:Zw))).bind fun x5=>(some x5)) else (bif (x.2.1==5) then ((aO (x.1,x.2.2.1)).bind fun x6=>((aO (x.1,x.2.2.2.1)).bind fun x7=>(some (x6==x7)))) else (bif (x.2.1==6) then (let x8:Zw:=([x.2.2.1,x.2.2.2.1,x.2.2.2.2.1]:Zw);((aL (x.1,(2:Int),x8)).bind fun x9=>(some x9))) else (bif (x.2.1==7) then (let iO:Zw:=([x.2.2.1,x.2.2.2.1,x.2.2.2.2.1]:Zw);((aL (x.1,(2:Int),iO)).bind fun pE=>(some pE))) else (bif (x.2.1==8) then (let qh:Zw:=([x.2.2.1,x.2.2.2.1,x.2.2.2.2.1]:Zw);((aL (x.1,(2:Int),qh)).bind fun sQ=>(some sQ))) else (bif (x.2.1==9) then (let lN:Zw:=([x.2.2.1,x.2.2.2.1,x.2.2.2.2.1]:Zw);((aL (x.1,(2:Int),lN)).bind fun lS=>(some lS))) else (bif (x.2.1==10) then ((aL (x.1,(1:Int),([x.2.2.1]:Zw))).bind fun xq=>(bif xq then (let zS:Zw:=([x.2.2.2.1,x.2.2.2.2.1]:Zw);((aL (x.1,(2:Int),zS)).bind fun x18=>(some x18))) else (some false))) else (bif (x.2.1==11) then ((aL (x.1,(1:Int),([x.2.2.1]:Zw))).bind fun zU=>(bif zU then ((aO (x.1,x.2.2.2.1)).bind fun x20=>((aO (x.1,x.2.2.2.2.1)).bind fun x21=>(bif (x20==x21) then ((bB (x.1,x.2.2.2.1)).bind fun zV=>((lT zV).bind fun x23=>(some x23))) else (some false)))) else (some false))) else (bif (x.2.1==12) then (let x24:Zw:=([x.2.2.1,x.2.2.2.1]:Zw);((aL (x.1,(1:Int),x24)).bind fun x25=>(some x25))) else (bif (x.2.1==13) then ((d9 (x.1,x.2.2.1,x.2.2.2.1,x.2.2.2.2.1)).bind fun x26=>(some x26)) else (bif (x.2.1==14) then ((d9 (x.1,x.2.2.2.2.1,x.2.2.1,x.2.2.2.1)).bind fun x27=>(some x27)) else (bif (x.2.1==15) then ((aL (x.1,(4:Int),([x.2.2.1]:Zw))).bind fun x28=>(some x28)) else (bif (x.2.1==16) then (let x29:Zw:=([(4:Int)]:Zw);((bK (x.1,x.2.2.1,x.2.2.2.1,x29)).bind fun x30=>(some x30))) else (bif (x.2.1==17) then (let x31:Zw:=([(4:Int)]:Zw);((bK (x.1,x.2.2.2.1,x.2.2.1,x31)).bind fun x32=>(some x32))) else (bif (x.2.1==18) then ((aL (x.1,(7:Int),([x.2.2.1]:Zw))).bind fun x33=>(bif x33 then (let x34:Zw:=([x.2.2.2.1]:Zw);((aL (x.1,(2:Int),x34)).bind fun x35=>(some x35))) else (some false))) else (bif (x.2.1==19) then (let x36:Zw:=([(7:Int),(6:Int)]:Zw);((bK (x.1,x.2.2.1,x.2.2.2.1,x36)).bind fun x37=>(bif x37 then (let x38:Zw:=([x.2.2.2.2.1]:Zw);((aL (x.1,(2:Int),x38)).bind fun x39=>(some x39))) else (some false)))) else (bif (x.2.1==20) then (let x40:Zw:=([(7:Int),(6:Int)]:Zw);((bK (x.1,x.2.2.2.2.1,x.2.2.1,x40)).bind fun x41=>(bif x41 then (let x42:Zw:=([x.2.2.2.1]:Zw);((aL (x.1,(2:Int),x42)).bind fun x43=>(some x43))) else (some false)))) else (bif (x.2.1==21) then ((aL (x.1,(2:Int),([x.2.2.1]:Zw))).bind fun x44=>(bif x44 then ((bB (x.1,x.2.2.2.1)).bind fun x45=>(let x46:Zw:=([(3:Int),(7:Int),(6:Int)]:Zw);((jW (x45,x46)).bind fun x47=>(some x47)))) else (some false))) else (bif (x.2.1==25) then ((Nk x.1.1.2.2.1 x.2.2.2.1).bind fun x48=>((bR (x.1,x.2.2.1,x48)).bind fun x49=>(some x49))) else (bif (x.2.1==26) then ((Nk x.1.1.2.2.1 x.2.2.1).bind fun x50=>((cZ (x.1,x50)).bind fun x51=>(some x51))) else (bif (x.2.1==27) then ((Nk x.1.1.2.2.1 x.2.2.1).bind fun x52=>((cZ (x.1,x52)).bind fun x53=>(some x53))) else (bif (x.2.1==28) then ((bB (x.1,x.2.2.1)).bind fun x54=>(let x55:Zw:=([(2:Int),(1:Int),(3:Int)]:Zw);((jW (x54,x55)).bind fun x56=>(some x56)))) else (bif (x.2.1==29) then ((aL (x.1,(1:Int),([x.2.2.1]:Zw))).bind fun x57=>(bif x57 then (let x58:Zw:=([x.2.2.2.1]:Zw);((aL (x.1,(2:Int),x58)).bind fun x59=>(some x59))) else (some false))) else (bif (x.2.1==33) then ((aL (x.1,(1:Int),([x.2.2.1]:Zw))).bind fun x60=>(bif x60 then (let x61:Zw:=([x.2.2.2.1]:Zw);((aL (x.1,(2:Int),x61)).bind fun x62=>(some x62))) else (some false))) else (bif (x.2.1==34) then ((bR (x.1,x.2.2.1,x.1.2.1)).bind fun x63=>(some x63)) else (some true))))))))))))))))))))))))))))))
def kU (x:aC×Zy):Option (Bool):=aI x
def QOE:U0:=⟨[Z9,Z4],[.bool],[false],fun x=>kU x⟩
theorem QTb:Hw Tryz.prog 49 QOE:=rz (E:=QSG) (lt:=QUh) (lv:=6) (N:=big) ⟨aK,(YH QTT (YH QEO (YH QOl (YH QKh (YH QTX (YH QTY (YH QKi (YH QTZ (YH QTa Yc))))))))),fun _ _ _=>rfl,mixed,Yt,Y0,Yz⟩ Tryz.func49 fun x _ h=>Eq.trans (b:=kU x) (by kernel_rfl) h
def QKv:LT:={ live:=[(3,[1,4,17,18,19])],keep:=[] }
noncomputable def QI9:Bn:={ tab:=tab,fs:=[(48,QO6),(49,QOE),(121,QO5)],inl:=[] }
noncomputable def QCq (v:Y60):St:={ s:=[(1,(.loc 0 [])),(4,(.row 1)),(17,(.val ⟨ql,v.1⟩)),(18,(.val ⟨Z2,v.2.1⟩)),(19,(.val ⟨Z2,v.2.2.1⟩))],l:=[(0,.var Z9 (.val ⟨Z9,v.2.2.2.1⟩)),(1,.row .bool v.2.2.2.2)],k:=[],b:=4096 }
def gL (aG:Y60->Option (Int×Int)) (v:Y60):Option (Int×Int):=
 (bif (decide (v.2.2.1 < v.2.1)) then ((Nk v.1 v.2.2.1).bind fun x2=>((jY (v.2.2.2.1,x2)).bind fun x3=>(bif (!x3) then (some (v.2.2.1,(16:Int))) else (bif (decide (0<=v.2.2.1)&&decide (v.2.2.1 < (List.length v.2.2.2.2:Int))) then ((nth v.2.2.2.2 (Int.toNat v.2.2.1)).bind fun x4=>(bif (!x4) then (some (v.2.2.1,(6:Int))) else ((kU (v.2.2.2.1,x2)).bind fun x5=>(bif (!x5) then (some (v.2.2.1,(30:Int))) else (let x6:Int:=(IntKind.i64.wrap (v.2.2.1+1));(aG (v.1,v.2.1,x6,v.2.2.2.1,v.2.2.2.2))))))) else none)))) else (some ((0:Int),(0:Int))))
def aZ (N:Nat) (aG:Y60->Option (Int×Int)) (v:Y60):Option (Int×Int):=gL aG v
theorem QN7 (N:Nat) (s0:St->Option (Int×Int)) (v):(ZR (QI9) QKv 6 N Tryz.f79 [Z2,Z2] [false,false] [] 0 Xv) s0 (QCq v)=aZ N (fun v=>s0 (QCq v)) v:=by kernel_rfl
def fA (aJ:Y60->Option (Int×Int)) (x:aC):Option (Int×Int):=
 ((rJ x.2.1.2.2.2.2.1).bind fun x1=>(aJ (x.2.1.2.2.2.2.1,(List.length x.2.1.2.2.2.2.1:Int),(0:Int),x,x1.1)))
def o8 (N:Nat) (x:aC):Option (Int×Int):=fA (Gb (aZ N) N) x
theorem QVg (N:Nat) (x:aC):rise (QI9) QKv 6 N Tryz.f79 [Z9] [Z2,Z2] [false,false] x=o8 N x:=Eq.trans (b:=fA (fun v=>Ot (ZR (QI9) QKv 6 N Tryz.f79 [Z2,Z2] [false,false] [] 0 Xv) N (QCq v)) x) (by kernel_rfl) (by rw [funext (Tf QCq (QN7 N) N)];rfl)
def bW (x:aC):Option (Int×Int):=o8 big x
def QOF:U0:=⟨[Z9],[Z2,Z2],[false,false],fun x=>bW x⟩
theorem QTc:Hw Tryz.prog 79 QOF:=rz (E:=QI9) ⟨aK,(YH QTS (YH QTb (YH QTR Yc))),fun _ _ _=>rfl,mixed,Yt,Y0,Yz⟩ Tryz.func79 fun _ _ h=>(QVg big _).trans h
def QUi:LT:={ live:=[],keep:=[] }
noncomputable def QSH:Bn:={ tab:=tab,fs:=[(90,QDI)],inl:=[] }
def nW (x:aC×Zy):Option (Zw):=
 (bif (x.2.1 != 24) then (some ([]:List Int)) else ((aO (x.1,x.2.2.1)).bind fun x1=>(some ([x1]:Zw))))
def fI (x:aC×Zy):Option (Zw):=nW x
def QKS:U0:=⟨[Z9,Z4],[Z6],[true],fun x=>fI x⟩
theorem QOm:Hw Tryz.prog 123 QKS:=rz (E:=QSH) (lt:=QUi) (lv:=6) (N:=big) ⟨aK,(YH QEO Yc),fun _ _ _=>rfl,mixed,Yt,Y0,Yz⟩ Tryz.func123 fun x _ h=>Eq.trans (b:=fI x) (by kernel_rfl) h
def QKw:LT:={ live:=[(3,[0,5,8,9,10])],keep:=[] }
noncomputable def QIA:Bn:={ tab:=tab,fs:=[],inl:=[] }
noncomputable def QCr (v:Y50):St:={ s:=[(0,(.val ⟨Z6,v.1⟩)),(5,(.val ⟨Z2,v.2.1⟩)),(8,(.val ⟨Z6,v.2.2.1⟩)),(9,(.val ⟨Z2,v.2.2.2.1⟩)),(10,(.val ⟨Z2,v.2.2.2.2⟩))],l:=[],k:=[],b:=4096 }
def vF (aG:Y50->Option (Int)) (v:Y50):Option (Int):=
 (bif (decide (v.2.2.2.2 < v.2.2.2.1)) then ((Nk v.2.2.1 v.2.2.2.2).bind fun x1=>((Nk v.1 x1).bind fun x2=>(let x3:Int:=(IntKind.i64.wrap (v.2.1+x2));(let x4:Int:=(IntKind.i64.wrap (v.2.2.2.2+1));(aG (v.1,x3,v.2.2.1,v.2.2.2.1,x4)))))) else (some v.2.1))
def jA (N:Nat) (aG:Y50->Option (Int)) (v:Y50):Option (Int):=vF aG v
theorem QN8 (N:Nat) (s0:St->Option (Int)) (v):(ZR (QIA) QKw 6 N Tryz.f122 [Z2] [false] [] 0 Xv) s0 (QCr v)=jA N (fun v=>s0 (QCr v)) v:=by kernel_rfl
def uP (aJ:Y50->Option (Int)) (x:Zw×Zw):Option (Int):=
 (aJ (x.1,(0:Int),x.2,(List.length x.2:Int),(0:Int)))
def QBC (N:Nat) (x:Zw×Zw):Option (Int):=uP (Gb (jA N) N) x
theorem QVh (N:Nat) (x:Zw×Zw):rise (QIA) QKw 6 N Tryz.f122 [Z6,Z6] [Z2] [false] x=QBC N x:=Eq.trans (b:=uP (fun v=>Ot (ZR (QIA) QKw 6 N Tryz.f122 [Z2] [false] [] 0 Xv) N (QCr v)) x) (by kernel_rfl) (by rw [funext (Tf QCr (QN8 N) N)];rfl)
def tu (x:Zw×Zw):Option (Int):=QBC big x
def QOG:U0:=⟨[Z6,Z6],[Z2],[false],fun x=>tu x⟩
theorem QTd:Hw Tryz.prog 122 QOG:=rz (E:=QIA) ⟨aK,Yc,fun _ _ _=>rfl,mixed,Yt,Y0,Yz⟩ Tryz.func122 fun _ _ h=>(QVh big _).trans h
def QKx:LT:={ live:=[(6,[7,31,32,33])],keep:=[] }
noncomputable def QIB:Bn:={ tab:=tab,fs:=[(88,QKQ)],inl:=[] }
noncomputable def QCs (v:Y64):St:={ s:=[(7,(.row 0)),(31,(.val ⟨Z7,v.1⟩)),(32,(.val ⟨Z2,v.2.1⟩)),(33,(.val ⟨Z2,v.2.2.1⟩))],l:=[(0,.row Z2 v.2.2.2)],k:=[],b:=4096 }
def l6 (aG:Y64->Option (Zw)) (v:Y64):Option (Zw):=
 (bif (decide (v.2.2.1 < v.2.1)) then ((Nk v.1 v.2.2.1).bind fun x5=>(bif (Nat.ble 1 1&&Nat.ble (List.length v.2.2.2+List.length ([x5.2.1]:Zw)) lim) then (let x6:Zw:=(List.append v.2.2.2 ([x5.2.1]:Zw));(let x7:Int:=(IntKind.i64.wrap (v.2.2.1+1));(aG (v.1,v.2.1,x7,x6)))) else none)) else (some v.2.2.2))
def bY (N:Nat) (aG:Y64->Option (Zw)) (v:Y64):Option (Zw):=l6 aG v
theorem QN9 (N:Nat) (s0:St->Option (Zw)) (v):(ZR (QIB) QKx 6 N Tryz.f124 [Z6] [true] [] 0 Xv) s0 (QCs v)=bY N (fun v=>s0 (QCs v)) v:=by kernel_rfl
def jh (aJ:Y64->Option (Zw)) (x:aC×Zy):Option (Zw):=
 ((nY x.2).bind fun x1=>(bif (!x1.2) then (some ([]:List Int)) else ((Nk x.1.1.2.2.1 x1.1).bind fun x2=>((Nk x.1.1.2.2.1 x1.1).bind fun x3=>(bif (decide (0<=x3.2.1)&&decide (x3.2.1<=(List.length x2.2.2.2.1:Int))) then (let x4:aA:=(List.take (Int.toNat x3.2.1) x2.2.2.2.1);(aJ (x4,(List.length x4:Int),(0:Int),([]:List Int)))) else none)))))
def vP (N:Nat) (x:aC×Zy):Option (Zw):=jh (Gb (bY N) N) x
theorem QVi (N:Nat) (x:aC×Zy):rise (QIB) QKx 6 N Tryz.f124 [Z9,Z4] [Z6] [true] x=vP N x:=Eq.trans (b:=jh (fun v=>Ot (ZR (QIB) QKx 6 N Tryz.f124 [Z6] [true] [] 0 Xv) N (QCs v)) x) (by kernel_rfl) (by rw [funext (Tf QCs (QN9 N) N)];rfl)
def jZ (x:aC×Zy):Option (Zw):=vP big x
def QKT:U0:=⟨[Z9,Z4],[Z6],[true],fun x=>jZ x⟩
theorem QOn:Hw Tryz.prog 124 QKT:=rz (E:=QIB) ⟨aK,(YH QOk Yc),fun _ _ _=>rfl,mixed,Yt,Y0,Yz⟩ Tryz.func124 fun _ _ h=>(QVi big _).trans h
def QUj:LT:={ live:=[],keep:=[] }
noncomputable def QSI:Bn:={ tab:=tab,fs:=[],inl:=[] }
def vT (x:Int):Option (Bool):=
 (bif (decide (x < (-4096:Int))) then (some true) else (some (decide (x > 4096))))
def pJ (x:Int):Option (Bool):=vT x
def QOH:U0:=⟨[Z2],[.bool],[false],fun x=>pJ x⟩
theorem QTf:Hw Tryz.prog 159 QOH:=rz (E:=QSI) (lt:=QUj) (lv:=6) (N:=big) ⟨aK,Yc,fun _ _ _=>rfl,mixed,Yt,Y0,Yz⟩ Tryz.func159 fun x _ h=>Eq.trans (b:=pJ x) (by kernel_rfl) h
def QUk:LT:={ live:=[],keep:=[] }
noncomputable def QSJ:Bn:={ tab:=tab,fs:=[],inl:=[] }
def xQ (x:Int×Int×Int):Option (Bool):=
 (let x1:Int:=(IntKind.i64.wrap (x.2.2 - 1));(bif (x.2.1==x1) then (some (x.1==0)) else (bif (decide (x.1≥0)) then (some (decide (x.1<=4096))) else (some false))))
def rM (x:Int×Int×Int):Option (Bool):=xQ x
def QOI:U0:=⟨[Z2,Z2,Z2],[.bool],[false],fun x=>rM x⟩
theorem QTg:Hw Tryz.prog 161 QOI:=rz (E:=QSJ) (lt:=QUk) (lv:=6) (N:=big) ⟨aK,Yc,fun _ _ _=>rfl,mixed,Yt,Y0,Yz⟩ Tryz.func161 fun x _ h=>Eq.trans (b:=rM x) (by kernel_rfl) h
def QAw:LT:={ live:=[],keep:=[(24,[2,3,4,5,22]),(35,[2,3,4,5,7,8])],rf:=[(36,[2,3,4,5,7,8],[4,5,7])] }
noncomputable def QCG (mk:(α:Type)->Nat->α->List α):Bn:={ tab:=tab,fs:=[(78,QJO),(159,QOH),(161,QOI),(189,QKc)],inl:=[(131,Tryz.f131,QIZ),(160,Tryz.f160,QKq),(167,Tryz.f167,QIY),(188,Tryz.f188,QKp)],rep:=mk }
noncomputable def QCt (v:Y24):St:={ s:=[(0,(.yl 0)),(1,(.loc 10 [])),(3,(.row 11)),(4,(.row 12)),(5,(.val ⟨Z2,v.1⟩)),(30,(.val ⟨Z6,v.2.1⟩)),(31,(.val ⟨Z2,v.2.2.1⟩)),(32,(.val ⟨Z2,v.2.2.2.1⟩))],l:=[(0,.lp (.pair .any (.pair .any (.pair (.loc 1 []) (.pair (.loc 2 []) (.pair (.loc 3 []) (.pair (.loc 5 []) (.pair .any (.pair (.loc 6 []) (.pair (.loc 8 []) .unit))))))))) (Zq Tryz.f125 10 QAw .ready none)),(1,.var ql (.val ⟨ql,v.2.2.2.2.1⟩)),(2,.var Z6 (.val ⟨Z6,v.2.2.2.2.2.1⟩)),(3,.var Z6 (.row 4)),(4,.row Z2 v.2.2.2.2.2.2.1),(5,.var Z2 (.val ⟨Z2,v.2.2.2.2.2.2.2.1⟩)),(6,.var Z6 (.row 7)),(7,.row Z2 v.2.2.2.2.2.2.2.2.1),(8,.var Z17 (.row 9)),(9,.row .bool v.2.2.2.2.2.2.2.2.2.1),(10,.var ql (.val ⟨ql,v.2.2.2.2.2.2.2.2.2.2.1⟩)),(11,.row .bool v.2.2.2.2.2.2.2.2.2.2.2.1),(12,.row Z2 v.2.2.2.2.2.2.2.2.2.2.2.2)],k:=[(0,[(0,(.yl 0))]),(4096,[(4,(.loc 3 [])),(5,(.loc 5 [])),(7,(.loc 6 []))])],b:=33165312 }
noncomputable def QAC (v:Y28):St:={ s:=[(0,(.yl 0)),(1,(.loc 10 [])),(3,(.row 11)),(4,(.row 12))],l:=[(0,.lp (.pair .any (.pair .any (.pair (.loc 1 []) (.pair (.loc 2 []) (.pair (.loc 3 []) (.pair (.loc 5 []) (.pair .any (.pair (.loc 6 []) (.pair (.loc 8 []) .unit))))))))) (Zq Tryz.f125 10 QAw .ready none)),(1,.var ql (.val ⟨ql,v.1⟩)),(2,.var Z6 (.val ⟨Z6,v.2.1⟩)),(3,.var Z6 (.row 4)),(4,.row Z2 v.2.2.1),(5,.var Z2 (.val ⟨Z2,v.2.2.2.1⟩)),(6,.var Z6 (.row 7)),(7,.row Z2 v.2.2.2.2.1),(8,.var Z17 (.row 9)),(9,.row .bool v.2.2.2.2.2.1),(10,.var ql (.val ⟨ql,v.2.2.2.2.2.2.1⟩)),(11,.row .bool v.2.2.2.2.2.2.2.1),(12,.row Z2 v.2.2.2.2.2.2.2.2)],k:=[(0,[(0,(.yl 0))]),(4096,[(4,(.loc 3 [])),(5,(.loc 5 [])),(7,(.loc 6 []))])],b:=33165312 }
noncomputable def wG (v:Y29):St:={ s:=[(0,(.val ⟨Z6,v.1⟩)),(1,(.Ee 159 .unit)),(7,(.val ⟨Z2,v.2.1⟩)),(8,(.val ⟨Z2,v.2.2.1⟩))],l:=[(0,.var ql (.val ⟨ql,v.2.2.2.1⟩)),(1,.var Z6 (.val ⟨Z6,v.2.2.2.2.1⟩)),(2,.var Z6 (.row 3)),(3,.row Z2 v.2.2.2.2.2.1),(4,.var Z2 (.val ⟨Z2,v.2.2.2.2.2.2.1⟩))],k:=[(16879616,[]),(4096,[(2,(.loc 0 [])),(3,(.loc 1 [])),(4,(.loc 2 [])),(5,(.loc 4 [])),(22,(.val ⟨.bool,v.2.2.2.2.2.2.2⟩))])],b:=69138939904 }
def fu (mk:(α:Type)->Nat->α->List α) (aG:Y29->Option oW) (aH:Y28->Option oW) (bJ:Y24->Option oW) (v:Y24):Option oW:=
 (bif (decide (v.2.2.2.1 < v.2.2.1)) then ((Nk v.2.1 v.2.2.2.1).bind fun lN=>(bif (decide (0<=v.1)&&decide (v.1 < (List.length v.2.2.2.2.2.2.2.2.1:Int))) then ((nth v.2.2.2.2.2.2.2.2.1 (Int.toNat v.1)).bind fun lS=>((Nk v.2.2.2.2.2.1 v.1).bind fun xq=>(let zS:Int:=(IntKind.i64.wrap (lS+xq));((rM (zS,lN,(List.length v.2.2.2.2.1:Int))).bind fun x18=>(bif (!x18) then (some (([]:List Int),(36:Int))) else (bif (decide (0<=lN)&&decide (lN < (List.length v.2.2.2.2.2.2.2.2.2.1:Int))) then ((nth v.2.2.2.2.2.2.2.2.2.1 (Int.toNat lN)).bind fun zU=>(bif zU then (bif (decide (0<=lN)&&decide (lN < (List.length v.2.2.2.2.2.2.2.2.1:Int))) then ((nth v.2.2.2.2.2.2.2.2.1 (Int.toNat lN)).bind fun x20=>(bif (x20 != zS) then (some (([]:List Int),(36:Int))) else (bif (decide (0<=lN)&&decide (lN < (List.length v.2.2.2.2.2.2.2.2.2.1:Int))) then (let x21:aD:=(List.set v.2.2.2.2.2.2.2.2.2.1 (Int.toNat lN) true);(bif (decide (0<=lN)&&decide (lN < (List.length v.2.2.2.2.2.2.2.2.1:Int))) then (let zV:Zw:=(List.set v.2.2.2.2.2.2.2.2.1 (Int.toNat lN) zS);(bif (decide (0<=lN)&&decide (lN < (List.length v.2.2.2.2.2.2.2.2.2.2.2.1:Int))) then ((nth v.2.2.2.2.2.2.2.2.2.2.2.1 (Int.toNat lN)).bind fun x23=>(bif (!x23) then (bif (decide (0<=lN)&&decide (lN < (List.length v.2.2.2.2.2.2.2.2.2.2.2.1:Int))) then (let x24:aD:=(List.set v.2.2.2.2.2.2.2.2.2.2.2.1 (Int.toNat lN) true);(bif (Nat.ble 1 1&&Nat.ble (List.length v.2.2.2.2.2.2.2.2.2.2.2.2+List.length ([lN]:Zw)) lim) then (let x25:Zw:=(List.append v.2.2.2.2.2.2.2.2.2.2.2.2 ([lN]:Zw));(let x26:Int:=(IntKind.i64.wrap (v.2.2.2.1+1));(bJ (v.1,v.2.1,v.2.2.1,x26,v.2.2.2.2.1,v.2.2.2.2.2.1,v.2.2.2.2.2.2.1,v.2.2.2.2.2.2.2.1,zV,x21,v.2.2.2.2.2.2.2.2.2.2.1,x24,x25)))) else none)) else none) else (let x27:Int:=(IntKind.i64.wrap (v.2.2.2.1+1));(bJ (v.1,v.2.1,v.2.2.1,x27,v.2.2.2.2.1,v.2.2.2.2.2.1,v.2.2.2.2.2.2.1,v.2.2.2.2.2.2.2.1,zV,x21,v.2.2.2.2.2.2.2.2.2.2.1,v.2.2.2.2.2.2.2.2.2.2.2.1,v.2.2.2.2.2.2.2.2.2.2.2.2))))) else none)) else none)) else none))) else none) else (bif (decide (0<=lN)&&decide (lN < (List.length v.2.2.2.2.2.2.2.2.2.1:Int))) then (let x28:aD:=(List.set v.2.2.2.2.2.2.2.2.2.1 (Int.toNat lN) true);(bif (decide (0<=lN)&&decide (lN < (List.length v.2.2.2.2.2.2.2.2.1:Int))) then (let x29:Zw:=(List.set v.2.2.2.2.2.2.2.2.1 (Int.toNat lN) zS);(bif (decide (0<=lN)&&decide (lN < (List.length v.2.2.2.2.2.2.2.2.2.2.2.1:Int))) then ((nth v.2.2.2.2.2.2.2.2.2.2.2.1 (Int.toNat lN)).bind fun x30=>(bif (!x30) then (bif (decide (0<=lN)&&decide (lN < (List.length v.2.2.2.2.2.2.2.2.2.2.2.1:Int))) then (let x31:aD:=(List.set v.2.2.2.2.2.2.2.2.2.2.2.1 (Int.toNat lN) true);(bif (Nat.ble 1 1&&Nat.ble (List.length v.2.2.2.2.2.2.2.2.2.2.2.2+List.length ([lN]:Zw)) lim) then (let x32:Zw:=(List.append v.2.2.2.2.2.2.2.2.2.2.2.2 ([lN]:Zw));(let x33:Int:=(IntKind.i64.wrap (v.2.2.2.1+1));(bJ (v.1,v.2.1,v.2.2.1,x33,v.2.2.2.2.1,v.2.2.2.2.2.1,v.2.2.2.2.2.2.1,v.2.2.2.2.2.2.2.1,x29,x28,v.2.2.2.2.2.2.2.2.2.2.1,x31,x32)))) else none)) else none) else (let x34:Int:=(IntKind.i64.wrap (v.2.2.2.1+1));(bJ (v.1,v.2.1,v.2.2.1,x34,v.2.2.2.2.1,v.2.2.2.2.2.1,v.2.2.2.2.2.2.1,v.2.2.2.2.2.2.2.1,x29,x28,v.2.2.2.2.2.2.2.2.2.2.1,v.2.2.2.2.2.2.2.2.2.2.2.1,v.2.2.2.2.2.2.2.2.2.2.2.2))))) else none)) else none)) else none))) else none)))))) else none)) else (aH (v.2.2.2.2.1,v.2.2.2.2.2.1,v.2.2.2.2.2.2.1,v.2.2.2.2.2.2.2.1,v.2.2.2.2.2.2.2.2.1,v.2.2.2.2.2.2.2.2.2.1,v.2.2.2.2.2.2.2.2.2.2.1,v.2.2.2.2.2.2.2.2.2.2.2.1,v.2.2.2.2.2.2.2.2.2.2.2.2)))
def pq (mk:(α:Type)->Nat->α->List α) (N:Nat) (aG:Y29->Option oW) (aH:Y28->Option oW) (bJ:Y24->Option oW) (v:Y24):Option oW:=fu mk aG aH bJ v
theorem QNC (mk:(α:Type)->Nat->α->List α) (N:Nat) (s0:St->Option oW) (s1:St->Option oW) (s2:St->Option oW) (v):(ZR (QCG mk) QAw 6 N Tryz.f125 [Z6,Z2] [true,false] [.rng 10 188] 1 (Yx s1 Xv)) s2 (QCt v)=pq mk N (fun v=>s0 (wG v)) (fun v=>s1 (QAC v)) (fun v=>s2 (QCt v)) v:=by kernel_rfl
def qI (mk:(α:Type)->Nat->α->List α) (zn:Y24->Option oW) (aG:Y29->Option oW) (aH:Y28->Option oW) (v:Y28):Option oW:=
 (bif (decide ((List.length v.2.2.2.2.2.2.2.2:Int) > 0)) then (let iO:Int:=(IntKind.i64.wrap ((List.length v.2.2.2.2.2.2.2.2:Int) - 1));(bif (decide (0<=iO)&&decide (iO < (List.length v.2.2.2.2.2.2.2.2:Int))) then ((nth v.2.2.2.2.2.2.2.2 (Int.toNat iO)).bind fun pE=>(let qh:Int:=(IntKind.i64.wrap ((List.length v.2.2.2.2.2.2.2.2:Int) - 1));(bif (decide (0<=qh)&&decide (qh<=((List.length v.2.2.2.2.2.2.2.2):Int))) then ((mU (v.2.2.2.2.2.2.1,pE)).bind fun sQ=>(zn (pE,sQ,(List.length sQ:Int),(0:Int),v.1,v.2.1,v.2.2.1,v.2.2.2.1,v.2.2.2.2.1,v.2.2.2.2.2.1,v.2.2.2.2.2.2.1,v.2.2.2.2.2.2.2.1,(List.take (Int.toNat qh) v.2.2.2.2.2.2.2.2)))) else none))) else none)) else (some (v.2.2.2.2.1,(0:Int))))
def jB (mk:(α:Type)->Nat->α->List α) (N:Nat) (aG:Y29->Option oW) (aH:Y28->Option oW) (v:Y28):Option oW:=qI mk (Gb (pq mk N aG aH) N) aG aH v
theorem QNB (mk:(α:Type)->Nat->α->List α) (N:Nat) (s0:St->Option oW) (s1:St->Option oW) (v):(ZR (QCG mk) QAw 6 N Tryz.f125 [Z6,Z2] [true,false] [.rng 10 188] 0 Xv) s1 (QAC v)=jB mk N (fun v=>s0 (wG v)) (fun v=>s1 (QAC v)) v:=Eq.trans (b:=qI mk (fun v=>Ot (ZR (QCG mk) QAw 6 N Tryz.f125 [Z6,Z2] [true,false] [.rng 10 188] 1 (Yx s1 Xv)) N (QCt v)) (fun v=>s0 (wG v)) (fun v=>s1 (QAC v)) v) (by kernel_rfl) (by rw [funext (Tf QCt (QNC mk N s0 s1) N)];rfl)
def jM (mk:(α:Type)->Nat->α->List α) (bF:Y28->Option oW) (aG:Y29->Option oW) (v:Y29):Option oW:=
 (bif (decide (v.2.2.1 < v.2.1)) then ((Nk v.1 v.2.2.1).bind fun x2=>((pJ x2).bind fun x3=>(bif x3 then (bif v.2.2.2.2.2.2.2 then (some (([]:List Int),(2:Int))) else (bif (decide (v.2.2.1≥0)) then (some (([]:List Int),(2:Int))) else (bif (decide (0<=(List.length v.2.2.2.1:Int))&&(decide ((List.length v.2.2.2.1:Int)<=(List.length v.2.2.2.1:Int))&&(decide ((List.length v.2.2.2.1:Int)<=68719476736)&&true))) then (let x4:Zw:=(mk Int (Int.toNat (List.length v.2.2.2.1:Int)) (0:Int));(bif (decide (0<=(List.length v.2.2.2.1:Int))&&(decide ((List.length v.2.2.2.1:Int)<=(List.length v.2.2.2.1:Int))&&(decide ((List.length v.2.2.2.1:Int)<=68719476736)&&true))) then (let x5:aD:=(mk Bool (Int.toNat (List.length v.2.2.2.1:Int)) false);(bif (decide (0<=(0:Int))&&decide ((0:Int) < (List.length x5:Int))) then (let x6:aD:=(List.set x5 (Int.toNat (0:Int)) true);(bif (decide (0<=(List.length v.2.2.2.1:Int))&&(decide ((List.length v.2.2.2.1:Int)<=(List.length v.2.2.2.1:Int))&&(decide ((List.length v.2.2.2.1:Int)<=68719476736)&&true))) then (let x7:aD:=(mk Bool (Int.toNat (List.length v.2.2.2.1:Int)) false);(bif (decide (0<=(0:Int))&&decide ((0:Int) < (List.length x7:Int))) then (let x8:aD:=(List.set x7 (Int.toNat (0:Int)) true);(let x9:Zw:=([(0:Int)]:Zw);(bF (v.2.2.2.1,v.2.2.2.2.1,v.2.2.2.2.2.1,v.2.2.2.2.2.2.1,x4,x6,v.2.2.2.1,x8,x9)))) else none)) else none)) else none)) else none)) else none))) else (let x35:Int:=(IntKind.i64.wrap (v.2.2.1+1));(aG (v.1,v.2.1,x35,v.2.2.2.1,v.2.2.2.2.1,v.2.2.2.2.2.1,v.2.2.2.2.2.2.1,v.2.2.2.2.2.2.2)))))) else (bif v.2.2.2.2.2.2.2 then (some (([]:List Int),(2:Int))) else (bif (decide (0<=(List.length v.2.2.2.1:Int))&&(decide ((List.length v.2.2.2.1:Int)<=(List.length v.2.2.2.1:Int))&&(decide ((List.length v.2.2.2.1:Int)<=68719476736)&&true))) then (let x36:Zw:=(mk Int (Int.toNat (List.length v.2.2.2.1:Int)) (0:Int));(bif (decide (0<=(List.length v.2.2.2.1:Int))&&(decide ((List.length v.2.2.2.1:Int)<=(List.length v.2.2.2.1:Int))&&(decide ((List.length v.2.2.2.1:Int)<=68719476736)&&true))) then (let x37:aD:=(mk Bool (Int.toNat (List.length v.2.2.2.1:Int)) false);(bif (decide (0<=(0:Int))&&decide ((0:Int) < (List.length x37:Int))) then (let x38:aD:=(List.set x37 (Int.toNat (0:Int)) true);(bif (decide (0<=(List.length v.2.2.2.1:Int))&&(decide ((List.length v.2.2.2.1:Int)<=(List.length v.2.2.2.1:Int))&&(decide ((List.length v.2.2.2.1:Int)<=68719476736)&&true))) then (let x39:aD:=(mk Bool (Int.toNat (List.length v.2.2.2.1:Int)) false);(bif (decide (0<=(0:Int))&&decide ((0:Int) < (List.length x39:Int))) then (let x40:aD:=(List.set x39 (Int.toNat (0:Int)) true);(let x41:Zw:=([(0:Int)]:Zw);(bF (v.2.2.2.1,v.2.2.2.2.1,v.2.2.2.2.2.1,v.2.2.2.2.2.2.1,x36,x38,v.2.2.2.1,x40,x41)))) else none)) else none)) else none)) else none)) else none)))
def lX (mk:(α:Type)->Nat->α->List α) (N:Nat) (aG:Y29->Option oW) (v:Y29):Option oW:=jM mk (Gb (jB mk N aG) N) aG v
theorem QNA (mk:(α:Type)->Nat->α->List α) (N:Nat) (s0:St->Option oW) (v):(ZR (QCG mk) QAw 6 N Tryz.f125 [Z6,Z2] [true,false] [.call 4 7 131,.call 1 2 167] 0 Xv) s0 (wG v)=lX mk N (fun v=>s0 (wG v)) v:=Eq.trans (b:=jM mk (fun v=>Ot (ZR (QCG mk) QAw 6 N Tryz.f125 [Z6,Z2] [true,false] [.rng 10 188] 0 Xv) N (QAC v)) (fun v=>s0 (wG v)) v) (by kernel_rfl) (by rw [funext (Tf QAC (QNB mk N s0) N)];rfl)
def uQ (mk:(α:Type)->Nat->α->List α) (aJ:Y29->Option oW) (x:aB×Zw):Option oW:=
 ((lU x.1).bind fun x1=>(bif (x1 != 0) then (some (([]:List Int),x1)) else (bif ((List.length x.2:Int) != (List.length x.1:Int)) then (some (([]:List Int),(2:Int))) else (aJ (x.2,(List.length x.2:Int),(0:Int),x.1,x.2,([]:List Int),(0:Int),false)))))
def QBD (mk:(α:Type)->Nat->α->List α) (N:Nat) (x:aB×Zw):Option oW:=uQ mk (Gb (lX mk N) N) x
theorem QVj (mk:(α:Type)->Nat->α->List α) (N:Nat) (x:aB×Zw):rise (QCG mk) QAw 6 N Tryz.f125 [ql,Z6] [Z6,Z2] [true,false] x=QBD mk N x:=Eq.trans (b:=uQ mk (fun v=>Ot (ZR (QCG mk) QAw 6 N Tryz.f125 [Z6,Z2] [true,false] [.call 4 7 131,.call 1 2 167] 0 Xv) N (wG v)) x) (by kernel_rfl) (by rw [funext (Tf wG (QNA mk N) N)];rfl)
def yP (x:aB×Zw):Option oW:=QBD (fun _=>List.replicate) big x
def QOJ:U0:=⟨[ql,Z6],[Z6,Z2],[true,false],fun x=>yP x⟩
theorem QTh:Hw Tryz.prog 125 QOJ:=rz (E:=QCG (fun _=>List.replicate)) ⟨aK,(YH QKl (YH QTf (YH QTg (YH QMp Yc)))),fun _ _ _=>rfl,mixed,(YP (YO Tryz.func131 rfl rfl (by kernel_rfl)) (YP (YO Tryz.func160 rfl rfl (by kernel_rfl)) (YP (YO Tryz.func167 rfl rfl (by kernel_rfl)) (YP (YO Tryz.func188 rfl rfl (by kernel_rfl)) Yt)))),Y0,Yz⟩ Tryz.func125 fun _ _ h=>(QVj (fun _=>List.replicate) big _).trans h
def QKy:LT:={ live:=[(4,[0,1,12,13])],keep:=[] }
noncomputable def QIC:Bn:={ tab:=tab,fs:=[],inl:=[] }
noncomputable def QCu (v:Zw×Zw×Int×Int):St:={ s:=[(0,(.val ⟨Z6,v.1⟩)),(1,(.val ⟨Z6,v.2.1⟩)),(12,(.val ⟨Z2,v.2.2.1⟩)),(13,(.val ⟨Z2,v.2.2.2⟩))],l:=[],k:=[],b:=4096 }
def jQ (aG:Zw×Zw×Int×Int->Option (Bool)) (v:Zw×Zw×Int×Int):Option (Bool):=
 (bif (decide (v.2.2.2 < v.2.2.1)) then ((Nk v.1 v.2.2.2).bind fun x1=>((Nk v.2.1 v.2.2.2).bind fun x2=>(bif (x1 != x2) then (some false) else (let x3:Int:=(IntKind.i64.wrap (v.2.2.2+1));(aG (v.1,v.2.1,v.2.2.1,x3)))))) else (some true))
def bE (N:Nat) (aG:Zw×Zw×Int×Int->Option (Bool)) (v:Zw×Zw×Int×Int):Option (Bool):=jQ aG v
theorem QND (N:Nat) (s0:St->Option (Bool)) (v):(ZR (QIC) QKy 6 N Tryz.f165 [.bool] [false] [] 0 Xv) s0 (QCu v)=bE N (fun v=>s0 (QCu v)) v:=by kernel_rfl
def gH (aJ:Zw×Zw×Int×Int->Option (Bool)) (x:Zw×Zw):Option (Bool):=
 (bif ((List.length x.1:Int) != (List.length x.2:Int)) then (some false) else (aJ (x.1,x.2,(List.length x.1:Int),(0:Int))))
def qm (N:Nat) (x:Zw×Zw):Option (Bool):=gH (Gb (bE N) N) x
theorem QVk (N:Nat) (x:Zw×Zw):rise (QIC) QKy 6 N Tryz.f165 [Z6,Z6] [.bool] [false] x=qm N x:=Eq.trans (b:=gH (fun v=>Ot (ZR (QIC) QKy 6 N Tryz.f165 [.bool] [false] [] 0 Xv) N (QCu v)) x) (by kernel_rfl) (by rw [funext (Tf QCu (QND N) N)];rfl)
def dU (x:Zw×Zw):Option (Bool):=qm big x
def QKU:U0:=⟨[Z6,Z6],[.bool],[false],fun x=>dU x⟩
theorem QOo:Hw Tryz.prog 165 QKU:=rz (E:=QIC) ⟨aK,Yc,fun _ _ _=>rfl,mixed,Yt,Y0,Yz⟩ Tryz.func165 fun _ _ h=>(QVk big _).trans h
def QUl:LT:={ live:=[],keep:=[] }
noncomputable def QSK:Bn:={ tab:=tab,fs:=[(87,QKP),(123,QKS),(124,QKT),(165,QKU)],inl:=[] }
def oo (x:aC×Zy×Zw):Option Y22:=
 ((jZ (x.1,x.2.1)).bind fun x1=>(let x2:Int:=(IntKind.i64.wrap ((List.length x.2.2:Int) - (List.length x1:Int)));(bif (decide (x2 < 0)) then (some (([]:List Int),false)) else (bif (decide (0<=x2)&&decide (x2<=(List.length x.2.2:Int))) then (let x3:Zw:=(List.drop (Int.toNat x2) x.2.2);((dU (x3,x1)).bind fun x4=>(bif (!x4) then (some (([]:List Int),false)) else (bif (decide (0<=x2)&&decide (x2<=(List.length x.2.2:Int))) then (let x5:Zw:=(List.take (Int.toNat x2) x.2.2);((fI (x.1,x.2.1)).bind fun x6=>(let x7:xZ:=([x5,x6]:xZ);((cu x7).bind fun x8=>(some (x8,true)))))) else none)))) else none))))
def jX (x:aC×Zy×Zw):Option Y22:=oo x
def QOK:U0:=⟨[Z9,Z4,Z6],[Z6,.bool],[false,false],fun x=>jX x⟩
theorem QTi:Hw Tryz.prog 163 QOK:=rz (E:=QSK) (lt:=QUl) (lv:=6) (N:=big) ⟨aK,(YH QOj (YH QOm (YH QOn (YH QOo Yc)))),fun _ _ _=>rfl,mixed,Yt,Y0,Yz⟩ Tryz.func163 fun x _ h=>Eq.trans (b:=jX x) (by kernel_rfl) h
def QUm:LT:={ live:=[],keep:=[] }
noncomputable def QSL:Bn:={ tab:=tab,fs:=[(78,QJO),(157,QPf),(189,QKc)],inl:=[] }
def QAq (x:aB×Int):Option oW:=
 ((lU x.1).bind fun x1=>(bif (x1 != 0) then (some (([]:List Int),x1)) else ((iF (x.2,(List.length x.1:Int))).bind fun x2=>(bif (!x2) then (some (([]:List Int),(2:Int))) else ((mU (x.1,x.2)).bind fun x3=>(some (x3,(0:Int))))))))
def yQ (x:aB×Int):Option oW:=QAq x
def QOL:U0:=⟨[ql,Z2],[Z6,Z2],[false,false],fun x=>yQ x⟩
theorem QTj:Hw Tryz.prog 164 QOL:=rz (E:=QSL) (lt:=QUm) (lv:=6) (N:=big) ⟨aK,(YH QKl (YH QUM (YH QMp Yc))),fun _ _ _=>rfl,mixed,Yt,Y0,Yz⟩ Tryz.func164 fun x _ h=>Eq.trans (b:=yQ x) (by kernel_rfl) h
def QKz:LT:={ live:=[(5,[6,13,14,15])],keep:=[] }
@[reducible] def QEP (me:Y15->Y13->Option Y18):FB:=⟨[.hole Z2,.fix (.loc 0 []),.fix (.loc 1 []),.fix (.loc 3 [])],[.var Z9 (.hole Z9),.var (.slice (.nes Z2)) (.fix (.row 2)),.row (.nes Z2),.var .fn (.fix (.Ee 162 (.pair (.loc 0 []) (.pair (.loc 1 []) (.pair (.loc 3 []) .unit)))))],2,[.bool],me⟩
noncomputable def QID (me:Y15->Y13->Option Y18):Bn:={ tab:=QG4,fs:=[(163,QOK),(164,QOL),(165,QKU)],inl:=[],rcs:=[(162,QEP me)] }
noncomputable def QCv (v:Y39):St:={ s:=[(2,(.loc 0 [])),(3,(.loc 2 [])),(6,(.val ⟨Z6,v.1⟩)),(43,(.val ⟨Z6,v.2.1⟩)),(44,(.val ⟨Z2,v.2.2.1⟩)),(45,(.val ⟨Z2,v.2.2.2.1⟩))],l:=[(0,.var (.slice (.nes Z2)) (.row 1)),(1,.row (.nes Z2) v.2.2.2.2.1),(2,.var .fn (.Ee 162 (.pair (.loc 3 []) (.pair (.loc 0 []) (.pair (.loc 2 []) .unit))))),(3,.var Z9 (.val ⟨Z9,v.2.2.2.2.2⟩))],k:=[(0,[(0,(.loc 3 [])),(1,(.loc 0 [])),(2,(.row 1)),(3,(.loc 2 []))])],b:=4096 }
def fK (me:Y15->Y13->Option Y18) (y:Y13) (aG:Y39->Option Y18) (v:Y39):Option Y18:=
 (bif (decide (v.2.2.2.1 < v.2.2.1)) then ((Nk v.2.1 v.2.2.2.1).bind fun x5=>(bif (decide (0<=x5)&&decide (x5 < (List.length v.2.2.2.2.1:Int))) then ((nth v.2.2.2.2.1 (Int.toNat x5)).bind fun x6=>(bif (List.isEmpty x6) then (bif (decide (0<=x5)&&decide (x5 < (List.length v.2.2.2.2.1:Int))) then (bif (List.isEmpty v.1) then none else (let x7:xZ:=(List.set v.2.2.2.2.1 (Int.toNat x5) v.1);(bif (Nat.ble 1 (List.length x7)&&true) then ((me (x5,((),((),((),())))) (v.2.2.2.2.2,((),(x7,((),()))))).bind fun x8=>(bif (!x8.2) then (bif (@JW Z9 y.1 v.2.2.2.2.2) then (some (x8.1,false)) else none) else (bif (decide (0<=x5)&&decide (x5 < (List.length x8.1:Int))) then ((nth x8.1 (Int.toNat x5)).bind fun x9=>((dU (x9,v.1)).bind fun iO=>(bif (!iO) then (bif (@JW Z9 y.1 v.2.2.2.2.2) then (some (x8.1,false)) else none) else (let pE:Int:=(IntKind.i64.wrap (v.2.2.2.1+1));(aG (v.1,v.2.1,v.2.2.1,pE,x8.1,v.2.2.2.2.2)))))) else none))) else none))) else none) else (bif (decide (0<=x5)&&decide (x5 < (List.length v.2.2.2.2.1:Int))) then ((nth v.2.2.2.2.1 (Int.toNat x5)).bind fun qh=>((dU (qh,v.1)).bind fun sQ=>(bif (!sQ) then (bif (@JW Z9 y.1 v.2.2.2.2.2) then (some (v.2.2.2.2.1,false)) else none) else (let lN:Int:=(IntKind.i64.wrap (v.2.2.2.1+1));(aG (v.1,v.2.1,v.2.2.1,lN,v.2.2.2.2.1,v.2.2.2.2.2)))))) else none))) else none)) else (bif (@JW Z9 y.1 v.2.2.2.2.2) then (some (v.2.2.2.2.1,true)) else none))
def aW (me:Y15->Y13->Option Y18) (y:Y13) (N:Nat) (aG:Y39->Option Y18) (v:Y39):Option Y18:=fK me y aG v
theorem QNE (me:Y15->Y13->Option Y18) (y:Y13) (N:Nat) (s0:St->Option Y18) (v):(Y6 (QID me) QIa 6 N Tryz.f162 (QEP me) y [] 0 Xv) s0 (QCv v)=aW me y N (fun v=>s0 (QCv v)) v:=by kernel_rfl
def dR (me:Y15->Y13->Option Y18) (y:Y13) (aJ:Y39->Option Y18) (x:Y15):Option Y18:=
 ((Nk y.1.2.1.2.2.2.2.1 x.1).bind fun x1=>(bif (decide (0<=x.1)&&decide (x.1 < (List.length y.2.2.1:Int))) then ((nth y.2.2.1 (Int.toNat x.1)).bind fun x2=>((jX (y.1,x1,x2)).bind fun x3=>(bif (!x3.2) then (bif (@JW Z9 y.1 y.1) then (some (y.2.2.1,x3.2)) else none) else (bif ((List.length x3.1:Int)==0) then (bif (@JW Z9 y.1 y.1) then (some (y.2.2.1,x3.2)) else none) else ((yQ (y.1.2.1.2.2.2.2.1,x.1)).bind fun x4=>(aJ (x3.1,x4.1,(List.length x4.1:Int),(0:Int),y.2.2.1,y.1))))))) else none))
def nM (me:Y15->Y13->Option Y18) (y:Y13) (N:Nat) (x:Y15):Option Y18:=dR me y (Gb (aW me y N) N) x
theorem QVl (me:Y15->Y13->Option Y18) (y:Y13) (N:Nat) (x:Y15):V5 (QID me) QIa 6 N Tryz.f162 (QEP me) x y=nM me y N x:=Eq.trans (b:=dR me y (fun v=>Ot (Y6 (QID me) QIa 6 N Tryz.f162 (QEP me) y [] 0 Xv) N (QCv v)) x) (by kernel_rfl) (by rw [funext (Tf QCv (QNE me y N) N)];rfl)
def aR:Nat->Y15->Y13->Option Y18
 | 0,_,_=>none
 | k+1,x,y=>nM (aR k) y big x
def gK (x:Y15) (y:Y13):Option Y18:=aR big x y
@[reducible] def QO1:FB:=QEP gK
theorem QOx:∀ k,Km Tryz.prog 162 (QEP (aR k))
 | 0=>Xy Tryz.func162 rfl (by decide)
 | k+1=>by
  have ih:=QOx k
  exact Y1 (E:=QID (aR k)) ⟨QEs,(YH QTi (YH QTj (YH QOo Yc))),fun _ _ _=>rfl,mixed,Yt,YT ih Y0,Yz⟩ Tryz.func162 rfl (by decide) (by kernel_rfl) (by kernel_rfl) (by kernel_rfl) (fun x y r h=>⟨QIa,6,big,(QVl (aR k) y big x).trans h⟩)
theorem QTk:Km Tryz.prog 162 QO1:=QOx big
noncomputable def QIE (mk:(α:Type)->Nat->α->List α):Bn:={ tab:=QG4,fs:=[],inl:=[],rep:=mk,rcs:=[(162,QO1)] }
noncomputable def QCw (v:Y51):St:={ s:=[(6,(.loc 0 [])),(13,(.val ⟨Z6,v.1⟩)),(14,(.val ⟨Z2,v.2.1⟩)),(15,(.val ⟨Z2,v.2.2.1⟩))],l:=[(0,.var .fn (.Ee 162 (.pair (.loc 1 []) (.pair (.loc 2 []) (.pair (.loc 0 []) .unit))))),(1,.var Z9 (.val ⟨Z9,v.2.2.2.1⟩)),(2,.var (.slice (.nes Z2)) (.row 3)),(3,.row (.nes Z2) v.2.2.2.2)],k:=[],b:=4096 }
def gM (mk:(α:Type)->Nat->α->List α) (aG:Y51->Option (Bool)) (v:Y51):Option (Bool):=
 (bif (decide (v.2.2.1 < v.2.1)) then ((Nk v.1 v.2.2.1).bind fun x2=>(bif (x2==0) then (bif (Nat.ble 1 (List.length v.2.2.2.2)&&true) then ((gK (v.2.2.1,((),((),((),())))) (v.2.2.2.1,((),(v.2.2.2.2,((),()))))).bind fun x3=>(bif (!x3.2) then (some false) else (let x4:Int:=(IntKind.i64.wrap (v.2.2.1+1));(aG (v.1,v.2.1,x4,v.2.2.2.1,x3.1))))) else none) else (let x5:Int:=(IntKind.i64.wrap (v.2.2.1+1));(aG (v.1,v.2.1,x5,v.2.2.2.1,v.2.2.2.2))))) else (some true))
def ah (mk:(α:Type)->Nat->α->List α) (N:Nat) (aG:Y51->Option (Bool)) (v:Y51):Option (Bool):=gM mk aG v
theorem QNF (mk:(α:Type)->Nat->α->List α) (N:Nat) (s0:St->Option (Bool)) (v):(ZR (QIE mk) QKz 6 N Tryz.f126 [.bool] [false] [] 0 Xv) s0 (QCw v)=ah mk N (fun v=>s0 (QCw v)) v:=by kernel_rfl
def fB (mk:(α:Type)->Nat->α->List α) (aJ:Y51->Option (Bool)) (x:aC×Zw):Option (Bool):=
 (bif (decide (0<=(List.length x.2:Int))&&(decide ((List.length x.2:Int)<=(List.length x.2:Int))&&(decide ((List.length x.2:Int)<=68719476736)&&true))) then (let x1:xZ:=(mk Zw (Int.toNat (List.length x.2:Int)) ([]:Zw));(aJ (x.2,(List.length x.2:Int),(0:Int),x.1,x1))) else none)
def o9 (mk:(α:Type)->Nat->α->List α) (N:Nat) (x:aC×Zw):Option (Bool):=fB mk (Gb (ah mk N) N) x
theorem QVm (mk:(α:Type)->Nat->α->List α) (N:Nat) (x:aC×Zw):rise (QIE mk) QKz 6 N Tryz.f126 [Z9,Z6] [.bool] [false] x=o9 mk N x:=Eq.trans (b:=fB mk (fun v=>Ot (ZR (QIE mk) QKz 6 N Tryz.f126 [.bool] [false] [] 0 Xv) N (QCw v)) x) (by kernel_rfl) (by rw [funext (Tf QCw (QNF mk N) N)];rfl)
def iZ (x:aC×Zw):Option (Bool):=o9 (fun _=>List.replicate) big x
def QOM:U0:=⟨[Z9,Z6],[.bool],[false],fun x=>iZ x⟩
theorem QTl:Hw Tryz.prog 126 QOM:=rz (E:=QIE (fun _=>List.replicate)) ⟨QEs,Yc,fun _ _ _=>rfl,mixed,Yt,(YT QTk Y0),Yz⟩ Tryz.func126 fun _ _ h=>(QVm (fun _=>List.replicate) big _).trans h
def QL0:LT:={ live:=[(3,[1,2,6,18,19,20])],keep:=[] }
noncomputable def QIF (mk:(α:Type)->Nat->α->List α):Bn:={ tab:=tab,fs:=[(122,QOG),(123,QKS),(124,QKT),(125,QOJ),(126,QOM)],inl:=[],rep:=mk }
noncomputable def QCx (v:Y40):St:={ s:=[(1,(.val ⟨Z6,v.1⟩)),(2,(.loc 0 [])),(6,(.row 1)),(18,(.val ⟨ql,v.2.1⟩)),(19,(.val ⟨Z2,v.2.2.1⟩)),(20,(.val ⟨Z2,v.2.2.2.1⟩))],l:=[(0,.var Z9 (.val ⟨Z9,v.2.2.2.2.1⟩)),(1,.row Z2 v.2.2.2.2.2)],k:=[],b:=4096 }
def kS (mk:(α:Type)->Nat->α->List α) (aG:Y40->Option Y22) (v:Y40):Option Y22:=
 (bif (decide (v.2.2.2.1 < v.2.2.1)) then ((Nk v.2.1 v.2.2.2.1).bind fun x2=>((fI (v.2.2.2.2.1,x2)).bind fun x3=>((tu (v.1,x3)).bind fun x4=>((jZ (v.2.2.2.2.1,x2)).bind fun x5=>((tu (v.1,x5)).bind fun x6=>(let x7:Int:=(IntKind.i64.wrap (x4 - x6));(bif (decide (0<=v.2.2.2.1)&&decide (v.2.2.2.1 < (List.length v.2.2.2.2.2:Int))) then (let x8:Zw:=(List.set v.2.2.2.2.2 (Int.toNat v.2.2.2.1) x7);(let x9:Int:=(IntKind.i64.wrap (v.2.2.2.1+1));(aG (v.1,v.2.1,v.2.2.1,x9,v.2.2.2.2.1,x8)))) else none))))))) else ((yP (v.2.2.2.2.1.2.1.2.2.2.2.1,v.2.2.2.2.2)).bind fun iO=>(bif (iO.2==0) then ((iZ (v.2.2.2.2.1,iO.1)).bind fun pE=>(some (iO.1,pE))) else (some (iO.1,false)))))
def bQ (mk:(α:Type)->Nat->α->List α) (N:Nat) (aG:Y40->Option Y22) (v:Y40):Option Y22:=kS mk aG v
theorem QNG (mk:(α:Type)->Nat->α->List α) (N:Nat) (s0:St->Option Y22) (v):(ZR (QIF mk) QL0 6 N Tryz.f80 [Z6,.bool] [true,false] [] 0 Xv) s0 (QCx v)=bQ mk N (fun v=>s0 (QCx v)) v:=by kernel_rfl
def iX (mk:(α:Type)->Nat->α->List α) (aJ:Y40->Option Y22) (x:aC×Zw):Option Y22:=
 (bif (decide (0<=(List.length x.1.2.1.2.2.2.2.1:Int))&&(decide ((List.length x.1.2.1.2.2.2.2.1:Int)<=(List.length x.1.2.1.2.2.2.2.1:Int))&&(decide ((List.length x.1.2.1.2.2.2.2.1:Int)<=68719476736)&&true))) then (let x1:Zw:=(mk Int (Int.toNat (List.length x.1.2.1.2.2.2.2.1:Int)) (0:Int));(aJ (x.2,x.1.2.1.2.2.2.2.1,(List.length x.1.2.1.2.2.2.2.1:Int),(0:Int),x.1,x1))) else none)
def tq (mk:(α:Type)->Nat->α->List α) (N:Nat) (x:aC×Zw):Option Y22:=iX mk (Gb (bQ mk N) N) x
theorem QVn (mk:(α:Type)->Nat->α->List α) (N:Nat) (x:aC×Zw):rise (QIF mk) QL0 6 N Tryz.f80 [Z9,Z6] [Z6,.bool] [true,false] x=tq mk N x:=Eq.trans (b:=iX mk (fun v=>Ot (ZR (QIF mk) QL0 6 N Tryz.f80 [Z6,.bool] [true,false] [] 0 Xv) N (QCx v)) x) (by kernel_rfl) (by rw [funext (Tf QCx (QNG mk N) N)];rfl)
def fH (x:aC×Zw):Option Y22:=tq (fun _=>List.replicate) big x
def QON:U0:=⟨[Z9,Z6],[Z6,.bool],[true,false],fun x=>fH x⟩
theorem QTm:Hw Tryz.prog 80 QON:=rz (E:=QIF (fun _=>List.replicate)) ⟨aK,(YH QTd (YH QOm (YH QOn (YH QTh (YH QTl Yc))))),fun _ _ _=>rfl,mixed,Yt,Y0,Yz⟩ Tryz.func80 fun _ _ h=>(QVn (fun _=>List.replicate) big _).trans h
def QL1:LT:={ live:=[],keep:=[(7,[])] }
noncomputable def QIG:Bn:={ tab:=tab,fs:=[],inl:=[(131,Tryz.f131,QIZ),(166,Tryz.f166,QUn),(167,Tryz.f167,QIY)] }
noncomputable def QCy (v:Y62):St:={ s:=[(0,(.val ⟨Z6,v.1⟩)),(1,(.Ee 166 (.pair (.loc 0 []) .unit))),(7,(.val ⟨Z2,v.2.1⟩)),(8,(.val ⟨Z2,v.2.2.1⟩))],l:=[(0,.var Z2 (.val ⟨Z2,v.2.2.2⟩))],k:=[(16809984,[]),(4096,[])],b:=68853727232 }
def kM (aG:Y62->Option (Bool)) (v:Y62):Option (Bool):=
 (bif (decide (v.2.2.1 < v.2.1)) then ((Nk v.1 v.2.2.1).bind fun x1=>(bif (decide (x1≥v.2.2.2)) then (some (!(decide (v.2.2.1≥0)))) else (let x2:Int:=(IntKind.i64.wrap (v.2.2.1+1));(aG (v.1,v.2.1,x2,v.2.2.2))))) else (some (!(decide ((-1:Int)≥0)))))
def rW (N:Nat) (aG:Y62->Option (Bool)) (v:Y62):Option (Bool):=kM aG v
theorem QNH (N:Nat) (s0:St->Option (Bool)) (v):(ZR (QIG) QL1 6 N Tryz.f127 [.bool] [false] [.call 1 2 131,.call 1 2 167] 0 Xv) s0 (QCy v)=rW N (fun v=>s0 (QCy v)) v:=by kernel_rfl
def wT (aJ:Y62->Option (Bool)) (x:Zw×Int):Option (Bool):=
 (aJ (x.1,(List.length x.1:Int),(0:Int),x.2))
def QCO (N:Nat) (x:Zw×Int):Option (Bool):=wT (Gb (rW N) N) x
theorem QVo (N:Nat) (x:Zw×Int):rise (QIG) QL1 6 N Tryz.f127 [Z6,Z2] [.bool] [false] x=QCO N x:=Eq.trans (b:=wT (fun v=>Ot (ZR (QIG) QL1 6 N Tryz.f127 [.bool] [false] [.call 1 2 131,.call 1 2 167] 0 Xv) N (QCy v)) x) (by kernel_rfl) (by rw [funext (Tf QCy (QNH N) N)];rfl)
def wB (x:Zw×Int):Option (Bool):=QCO big x
def QOO:U0:=⟨[Z6,Z2],[.bool],[false],fun x=>wB x⟩
theorem QTn:Hw Tryz.prog 127 QOO:=rz (E:=QIG) ⟨aK,Yc,fun _ _ _=>rfl,mixed,(YP (YO Tryz.func131 rfl rfl (by kernel_rfl)) (YP (YO Tryz.func166 rfl rfl (by kernel_rfl)) (YP (YO Tryz.func167 rfl rfl (by kernel_rfl)) Yt))),Y0,Yz⟩ Tryz.func127 fun _ _ h=>(QVo big _).trans h
def QL2:LT:={ live:=[(3,[3,6,7,8])],keep:=[] }
noncomputable def QIH:Bn:={ tab:=tab,fs:=[],inl:=[] }
noncomputable def QCz (v:Int×Zw×Int×Int):St:={ s:=[(3,(.val ⟨Z15,v.1⟩)),(6,(.val ⟨Z6,v.2.1⟩)),(7,(.val ⟨Z2,v.2.2.1⟩)),(8,(.val ⟨Z2,v.2.2.2⟩))],l:=[],k:=[],b:=4096 }
def l8 (aG:Int×Zw×Int×Int->Option (Int)) (v:Int×Zw×Int×Int):Option (Int):=
 (bif (decide (v.2.2.2 < v.2.2.1)) then ((Nk v.2.1 v.2.2.2).bind fun x1=>(bif (decide (x1 < 0)) then none else (let x2:Int:=(IntKind.u64.wrap ((1:Int) * 2 ^ (min (Int.toNat x1) 64)));(let x3:Int:=(IntKind.i64.wrap (v.2.2.2+1));(aG ((bits .or .u64 v.1 x2),v.2.1,v.2.2.1,x3)))))) else (some v.1))
def p8 (N:Nat) (aG:Int×Zw×Int×Int->Option (Int)) (v:Int×Zw×Int×Int):Option (Int):=l8 aG v
theorem QNI (N:Nat) (s0:St->Option (Int)) (v):(ZR (QIH) QL2 6 N Tryz.f128 [Z15] [false] [] 0 Xv) s0 (QCz v)=p8 N (fun v=>s0 (QCz v)) v:=by kernel_rfl
def uS (aJ:Int×Zw×Int×Int->Option (Int)) (x:Zw):Option (Int):=
 (aJ ((0:Int),x,(List.length x:Int),(0:Int)))
def QBF (N:Nat) (x:Zw):Option (Int):=uS (Gb (p8 N) N) x
theorem QVp (N:Nat) (x:Zw):rise (QIH) QL2 6 N Tryz.f128 [Z6] [Z15] [false] x=QBF N x:=Eq.trans (b:=uS (fun v=>Ot (ZR (QIH) QL2 6 N Tryz.f128 [Z15] [false] [] 0 Xv) N (QCz v)) x) (by kernel_rfl) (by rw [funext (Tf QCz (QNI N) N)];rfl)
def yR (x:Zw):Option (Int):=QBF big x
def QOP:U0:=⟨[Z6],[Z15],[false],fun x=>yR x⟩
theorem QTo:Hw Tryz.prog 128 QOP:=rz (E:=QIH) ⟨aK,Yc,fun _ _ _=>rfl,mixed,Yt,Y0,Yz⟩ Tryz.func128 fun _ _ h=>(QVp big _).trans h
def QUo:LT:={ live:=[],keep:=[] }
noncomputable def QSM:Bn:={ tab:=tab,fs:=[],inl:=[] }
def rC (x:Int):Option (Int):=
 (bif (decide (x < 0)) then none else (let x1:Int:=(IntKind.u64.wrap ((1:Int) * 2 ^ (min (Int.toNat x) 64)));(let x2:Int:=(IntKind.u64.wrap (x1 - 1));(some x2))))
def ig (x:Int):Option (Int):=rC x
def QOQ:U0:=⟨[Z2],[Z15],[false],fun x=>ig x⟩
theorem QTp:Hw Tryz.prog 130 QOQ:=rz (E:=QSM) (lt:=QUo) (lv:=6) (N:=big) ⟨aK,Yc,fun _ _ _=>rfl,mixed,Yt,Y0,Yz⟩ Tryz.func130 fun x _ h=>Eq.trans (b:=ig x) (by kernel_rfl) h
def zX:LT:={ live:=[(3,[0,2,3,5,9,20,21,22]),(10,[0,5,9,12])],keep:=[(38,[0,5,9,12])],rf:=[(39,[5,9,12],[0,5,9,12])] }
noncomputable def QAS (mk:(α:Type)->Nat->α->List α):Bn:={ tab:=tab,fs:=[(158,QKO),(189,QKc)],inl:=[(160,Tryz.f160,QKq),(188,Tryz.f188,QKp)],rep:=mk }
noncomputable def QD0 (v:Y25):St:={ s:=[(0,(.yl 0)),(1,(.loc 5 [])),(3,(.row 6)),(4,(.row 7)),(5,(.val ⟨Z2,v.1⟩)),(30,(.val ⟨Z6,v.2.1⟩)),(31,(.val ⟨Z2,v.2.2.1⟩)),(32,(.val ⟨Z2,v.2.2.2.1⟩))],l:=[(0,.lp (.pair .any (.pair .any (.pair .any (.pair .any (.pair .any (.pair (.loc 1 []) (.pair .any (.pair .any (.pair .any (.pair (.loc 2 []) (.pair .any (.pair .any (.pair (.loc 4 []) .unit))))))))))))) (Zq Tryz.f129 13 zX .ready none)),(1,.var yN (.val ⟨yN,v.2.2.2.2.1⟩)),(2,.var yN (.row 3)),(3,.row Z15 v.2.2.2.2.2.1),(4,.var .bool (.val ⟨.bool,v.2.2.2.2.2.2.1⟩)),(5,.var ql (.val ⟨ql,v.2.2.2.2.2.2.2.1⟩)),(6,.row .bool v.2.2.2.2.2.2.2.2.1),(7,.row Z2 v.2.2.2.2.2.2.2.2.2.1)],k:=[(0,[(0,(.yl 0))]),(4096,[(0,(.val ⟨ql,v.2.2.2.2.2.2.2.2.2.2⟩)),(5,(.loc 1 [])),(9,(.loc 2 [])),(12,(.loc 4 []))])],b:=33165312 }
noncomputable def QAD (v:Y37):St:={ s:=[(0,(.yl 0)),(1,(.loc 5 [])),(3,(.row 6)),(4,(.row 7))],l:=[(0,.lp (.pair .any (.pair .any (.pair .any (.pair .any (.pair .any (.pair (.loc 1 []) (.pair .any (.pair .any (.pair .any (.pair (.loc 2 []) (.pair .any (.pair .any (.pair (.loc 4 []) .unit))))))))))))) (Zq Tryz.f129 13 zX .ready none)),(1,.var yN (.val ⟨yN,v.1⟩)),(2,.var yN (.row 3)),(3,.row Z15 v.2.1),(4,.var .bool (.val ⟨.bool,v.2.2.1⟩)),(5,.var ql (.val ⟨ql,v.2.2.2.1⟩)),(6,.row .bool v.2.2.2.2.1),(7,.row Z2 v.2.2.2.2.2.1)],k:=[(0,[(0,(.yl 0))]),(4096,[(0,(.val ⟨ql,v.2.2.2.2.2.2⟩)),(5,(.loc 1 [])),(9,(.loc 2 [])),(12,(.loc 4 []))])],b:=33165312 }
noncomputable def wH (v:Y65):St:={ s:=[(0,(.val ⟨ql,v.1⟩)),(5,(.loc 0 [])),(9,(.loc 1 [])),(12,(.loc 3 []))],l:=[(0,.var yN (.val ⟨yN,v.2.1⟩)),(1,.var yN (.row 2)),(2,.row Z15 v.2.2.1),(3,.var .bool (.val ⟨.bool,v.2.2.2⟩))],k:=[],b:=4096 }
noncomputable def rU (v:Y32):St:={ s:=[(0,(.val ⟨ql,v.1⟩)),(2,(.val ⟨Z15,v.2.1⟩)),(3,(.val ⟨Z15,v.2.2.1⟩)),(5,(.loc 0 [])),(9,(.loc 1 [])),(20,(.row 3)),(21,(.val ⟨Z2,v.2.2.2.1⟩)),(22,(.val ⟨Z2,v.2.2.2.2.1⟩))],l:=[(0,.var yN (.val ⟨yN,v.2.2.2.2.2.1⟩)),(1,.var yN (.row 2)),(2,.row Z15 v.2.2.2.2.2.2.1),(3,.row .bool v.2.2.2.2.2.2.2)],k:=[],b:=4096 }
def jN (mk:(α:Type)->Nat->α->List α) (aG:Y32->Option (Zw)) (aH:Y65->Option (Zw)) (bJ:Y37->Option (Zw)) (w9:Y25->Option (Zw)) (v:Y25):Option (Zw):=
 (bif (decide (v.2.2.2.1 < v.2.2.1)) then ((Nk v.2.1 v.2.2.2.1).bind fun lS=>(bif (decide (0<=v.1)&&decide (v.1 < (List.length v.2.2.2.2.2.1:Int))) then ((nth v.2.2.2.2.2.1 (Int.toNat v.1)).bind fun xq=>((Nk v.2.2.2.2.1 v.1).bind fun zS=>(bif v.2.2.2.2.2.2.1 then (bif (decide (0<=lS)&&decide (lS < (List.length v.2.2.2.2.2.1:Int))) then ((nth v.2.2.2.2.2.1 (Int.toNat lS)).bind fun x18=>(let zU:Int:=(bits .and .u64 x18 (bits .or .u64 xq zS));(bif (decide (0<=lS)&&decide (lS < (List.length v.2.2.2.2.2.1:Int))) then (let x20:Zw:=(List.set v.2.2.2.2.2.1 (Int.toNat lS) zU);(bif (decide (0<=lS)&&decide (lS < (List.length v.2.2.2.2.2.2.2.2.1:Int))) then ((nth v.2.2.2.2.2.2.2.2.1 (Int.toNat lS)).bind fun x21=>(bif (!x21) then (bif (decide (0<=lS)&&decide (lS < (List.length v.2.2.2.2.2.2.2.2.1:Int))) then (let zV:aD:=(List.set v.2.2.2.2.2.2.2.2.1 (Int.toNat lS) true);(bif (Nat.ble 1 1&&Nat.ble (List.length v.2.2.2.2.2.2.2.2.2.1+List.length ([lS]:Zw)) lim) then (let x23:Zw:=(List.append v.2.2.2.2.2.2.2.2.2.1 ([lS]:Zw));(let x24:Int:=(IntKind.i64.wrap (v.2.2.2.1+1));(w9 (v.1,v.2.1,v.2.2.1,x24,v.2.2.2.2.1,x20,true,v.2.2.2.2.2.2.2.1,zV,x23,v.2.2.2.2.2.2.2.2.2.2)))) else none)) else none) else (let x25:Int:=(IntKind.i64.wrap (v.2.2.2.1+1));(w9 (v.1,v.2.1,v.2.2.1,x25,v.2.2.2.2.1,x20,true,v.2.2.2.2.2.2.2.1,v.2.2.2.2.2.2.2.2.1,v.2.2.2.2.2.2.2.2.2.1,v.2.2.2.2.2.2.2.2.2.2))))) else none)) else none))) else none) else (bif (decide (0<=lS)&&decide (lS < (List.length v.2.2.2.2.2.1:Int))) then ((nth v.2.2.2.2.2.1 (Int.toNat lS)).bind fun x26=>(let x27:Int:=(bits .andNot .u64 x26 (bits .or .u64 xq zS));(bif (decide (0<=lS)&&decide (lS < (List.length v.2.2.2.2.2.1:Int))) then ((nth v.2.2.2.2.2.1 (Int.toNat lS)).bind fun x28=>(let x29:Int:=(bits .and .u64 x28 (bits .or .u64 xq zS));(bif (decide (0<=lS)&&decide (lS < (List.length v.2.2.2.2.2.1:Int))) then (let x30:Zw:=(List.set v.2.2.2.2.2.1 (Int.toNat lS) x29);(bif (decide (0<=lS)&&decide (lS < (List.length v.2.2.2.2.2.2.2.2.1:Int))) then ((nth v.2.2.2.2.2.2.2.2.1 (Int.toNat lS)).bind fun x31=>(bif (!x31) then (bif (decide (0<=lS)&&decide (lS < (List.length v.2.2.2.2.2.2.2.2.1:Int))) then (let x32:aD:=(List.set v.2.2.2.2.2.2.2.2.1 (Int.toNat lS) true);(bif (Nat.ble 1 1&&Nat.ble (List.length v.2.2.2.2.2.2.2.2.2.1+List.length ([lS]:Zw)) lim) then (let x33:Zw:=(List.append v.2.2.2.2.2.2.2.2.2.1 ([lS]:Zw));(let x34:Int:=(IntKind.i64.wrap (v.2.2.2.1+1));(w9 (v.1,v.2.1,v.2.2.1,x34,v.2.2.2.2.1,x30,(x27 != 0),v.2.2.2.2.2.2.2.1,x32,x33,v.2.2.2.2.2.2.2.2.2.2)))) else none)) else none) else (let x35:Int:=(IntKind.i64.wrap (v.2.2.2.1+1));(w9 (v.1,v.2.1,v.2.2.1,x35,v.2.2.2.2.1,x30,(x27 != 0),v.2.2.2.2.2.2.2.1,v.2.2.2.2.2.2.2.2.1,v.2.2.2.2.2.2.2.2.2.1,v.2.2.2.2.2.2.2.2.2.2))))) else none)) else none))) else none))) else none)))) else none)) else (bJ (v.2.2.2.2.1,v.2.2.2.2.2.1,v.2.2.2.2.2.2.1,v.2.2.2.2.2.2.2.1,v.2.2.2.2.2.2.2.2.1,v.2.2.2.2.2.2.2.2.2.1,v.2.2.2.2.2.2.2.2.2.2)))
def jC (mk:(α:Type)->Nat->α->List α) (N:Nat) (aG:Y32->Option (Zw)) (aH:Y65->Option (Zw)) (bJ:Y37->Option (Zw)) (w9:Y25->Option (Zw)) (v:Y25):Option (Zw):=jN mk aG aH bJ w9 v
theorem QNM (mk:(α:Type)->Nat->α->List α) (N:Nat) (s0:St->Option (Zw)) (s1:St->Option (Zw)) (s2:St->Option (Zw)) (s3:St->Option (Zw)) (v):(ZR (QAS mk) zX 6 N Tryz.f129 [yN] [true] [.rng 13 188] 1 (Yx s1 (Yx s2 Xv))) s3 (QD0 v)=jC mk N (fun v=>s0 (rU v)) (fun v=>s1 (wH v)) (fun v=>s2 (QAD v)) (fun v=>s3 (QD0 v)) v:=by kernel_rfl
def nG (mk:(α:Type)->Nat->α->List α) (QGp:Y25->Option (Zw)) (aG:Y32->Option (Zw)) (aH:Y65->Option (Zw)) (bJ:Y37->Option (Zw)) (v:Y37):Option (Zw):=
 (bif (decide ((List.length v.2.2.2.2.2.1:Int) > 0)) then (let pE:Int:=(IntKind.i64.wrap ((List.length v.2.2.2.2.2.1:Int) - 1));(bif (decide (0<=pE)&&decide (pE < (List.length v.2.2.2.2.2.1:Int))) then ((nth v.2.2.2.2.2.1 (Int.toNat pE)).bind fun qh=>(let sQ:Int:=(IntKind.i64.wrap ((List.length v.2.2.2.2.2.1:Int) - 1));(bif (decide (0<=sQ)&&decide (sQ<=((List.length v.2.2.2.2.2.1):Int))) then ((mU (v.2.2.2.1,qh)).bind fun lN=>(QGp (qh,lN,(List.length lN:Int),(0:Int),v.1,v.2.1,v.2.2.1,v.2.2.2.1,v.2.2.2.2.1,(List.take (Int.toNat sQ) v.2.2.2.2.2.1),v.2.2.2.2.2.2))) else none))) else none)) else (aH (v.2.2.2.2.2.2,v.1,v.2.1,v.2.2.1)))
def nA (mk:(α:Type)->Nat->α->List α) (N:Nat) (aG:Y32->Option (Zw)) (aH:Y65->Option (Zw)) (bJ:Y37->Option (Zw)) (v:Y37):Option (Zw):=nG mk (Gb (jC mk N aG aH bJ) N) aG aH bJ v
theorem QNL (mk:(α:Type)->Nat->α->List α) (N:Nat) (s0:St->Option (Zw)) (s1:St->Option (Zw)) (s2:St->Option (Zw)) (v):(ZR (QAS mk) zX 6 N Tryz.f129 [yN] [true] [.rng 13 188] 0 (Yx s1 Xv)) s2 (QAD v)=nA mk N (fun v=>s0 (rU v)) (fun v=>s1 (wH v)) (fun v=>s2 (QAD v)) v:=Eq.trans (b:=nG mk (fun v=>Ot (ZR (QAS mk) zX 6 N Tryz.f129 [yN] [true] [.rng 13 188] 1 (Yx s1 (Yx s2 Xv))) N (QD0 v)) (fun v=>s0 (rU v)) (fun v=>s1 (wH v)) (fun v=>s2 (QAD v)) v) (by kernel_rfl) (by rw [funext (Tf QD0 (QNM mk N s0 s1 s2) N)];rfl)
def nE (mk:(α:Type)->Nat->α->List α) (zn:Y37->Option (Zw)) (aG:Y32->Option (Zw)) (aH:Y65->Option (Zw)) (v:Y65):Option (Zw):=
 (bif v.2.2.2 then (bif (decide (0<=(List.length v.1:Int))&&(decide ((List.length v.1:Int)<=(List.length v.1:Int))&&(decide ((List.length v.1:Int)<=68719476736)&&true))) then (let x8:aD:=(mk Bool (Int.toNat (List.length v.1:Int)) false);(bif (decide (0<=(0:Int))&&decide ((0:Int) < (List.length x8:Int))) then (let x9:aD:=(List.set x8 (Int.toNat (0:Int)) true);(let iO:Zw:=([(0:Int)]:Zw);(zn (v.2.1,v.2.2.1,false,v.1,x9,iO,v.1)))) else none)) else none) else (some v.2.2.1))
def mq (mk:(α:Type)->Nat->α->List α) (N:Nat) (aG:Y32->Option (Zw)) (aH:Y65->Option (Zw)) (v:Y65):Option (Zw):=nE mk (Gb (nA mk N aG aH) N) aG aH v
theorem QNK (mk:(α:Type)->Nat->α->List α) (N:Nat) (s0:St->Option (Zw)) (s1:St->Option (Zw)) (v):(ZR (QAS mk) zX 6 N Tryz.f129 [yN] [true] [] 1 Xv) s1 (wH v)=mq mk N (fun v=>s0 (rU v)) (fun v=>s1 (wH v)) v:=Eq.trans (b:=nE mk (fun v=>Ot (ZR (QAS mk) zX 6 N Tryz.f129 [yN] [true] [.rng 13 188] 0 (Yx s1 Xv)) N (QAD v)) (fun v=>s0 (rU v)) (fun v=>s1 (wH v)) v) (by kernel_rfl) (by rw [funext (Tf QAD (QNL mk N s0 s1) N)];rfl)
def fT (mk:(α:Type)->Nat->α->List α) (bF:Y65->Option (Zw)) (aG:Y32->Option (Zw)) (v:Y32):Option (Zw):=
 (bif (decide (v.2.2.2.2.1 < v.2.2.2.1)) then (bif (decide (0<=v.2.2.2.2.1)&&decide (v.2.2.2.2.1 < (List.length v.2.2.2.2.2.2.2:Int))) then ((nth v.2.2.2.2.2.2.2 (Int.toNat v.2.2.2.2.1)).bind fun x3=>(bif x3 then (bif (decide (0<=v.2.2.2.2.1)&&decide (v.2.2.2.2.1 < (List.length v.2.2.2.2.2.2.1:Int))) then (let x4:Zw:=(List.set v.2.2.2.2.2.2.1 (Int.toNat v.2.2.2.2.1) v.2.2.1);(let x5:Int:=(IntKind.i64.wrap (v.2.2.2.2.1+1));(aG (v.1,v.2.1,v.2.2.1,v.2.2.2.1,x5,v.2.2.2.2.2.1,x4,v.2.2.2.2.2.2.2)))) else none) else (let x6:Int:=(IntKind.i64.wrap (v.2.2.2.2.1+1));(aG (v.1,v.2.1,v.2.2.1,v.2.2.2.1,x6,v.2.2.2.2.2.1,v.2.2.2.2.2.2.1,v.2.2.2.2.2.2.2))))) else none) else (bif (decide (0<=(0:Int))&&decide ((0:Int) < (List.length v.2.2.2.2.2.2.1:Int))) then (let x7:Zw:=(List.set v.2.2.2.2.2.2.1 (Int.toNat (0:Int)) v.2.1);(bF (v.1,v.2.2.2.2.2.1,x7,true))) else none))
def mo (mk:(α:Type)->Nat->α->List α) (N:Nat) (aG:Y32->Option (Zw)) (v:Y32):Option (Zw):=fT mk (Gb (mq mk N aG) N) aG v
theorem QNJ (mk:(α:Type)->Nat->α->List α) (N:Nat) (s0:St->Option (Zw)) (v):(ZR (QAS mk) zX 6 N Tryz.f129 [yN] [true] [] 0 Xv) s0 (rU v)=mo mk N (fun v=>s0 (rU v)) v:=Eq.trans (b:=fT mk (fun v=>Ot (ZR (QAS mk) zX 6 N Tryz.f129 [yN] [true] [] 1 Xv) N (wH v)) (fun v=>s0 (rU v)) v) (by kernel_rfl) (by rw [funext (Tf wH (QNK mk N s0) N)];rfl)
def qb (mk:(α:Type)->Nat->α->List α) (aJ:Y32->Option (Zw)) (x:aB×Zw×Int×Int):Option (Zw):=
 (bif (decide (0<=(List.length x.1:Int))&&(decide ((List.length x.1:Int)<=(List.length x.1:Int))&&(decide ((List.length x.1:Int)<=68719476736)&&true))) then (let x1:Zw:=(mk Int (Int.toNat (List.length x.1:Int)) (0:Int));((QA8 x.1).bind fun x2=>(aJ (x.1,x.2.2.1,x.2.2.2,(List.length x2:Int),(0:Int),x.2.1,x1,x2)))) else none)
def zo (mk:(α:Type)->Nat->α->List α) (N:Nat) (x:aB×Zw×Int×Int):Option (Zw):=qb mk (Gb (mo mk N) N) x
theorem QVq (mk:(α:Type)->Nat->α->List α) (N:Nat) (x:aB×Zw×Int×Int):rise (QAS mk) zX 6 N Tryz.f129 [ql,yN,Z15,Z15] [yN] [true] x=zo mk N x:=Eq.trans (b:=qb mk (fun v=>Ot (ZR (QAS mk) zX 6 N Tryz.f129 [yN] [true] [] 0 Xv) N (rU v)) x) (by kernel_rfl) (by rw [funext (Tf rU (QNJ mk N) N)];rfl)
def u6 (x:aB×Zw×Int×Int):Option (Zw):=zo (fun _=>List.replicate) big x
def QOR:U0:=⟨[ql,yN,Z15,Z15],[yN],[true],fun x=>u6 x⟩
theorem QTq:Hw Tryz.prog 129 QOR:=rz (E:=QAS (fun _=>List.replicate)) ⟨aK,(YH QOi (YH QMp Yc)),fun _ _ _=>rfl,mixed,(YP (YO Tryz.func160 rfl rfl (by kernel_rfl)) (YP (YO Tryz.func188 rfl rfl (by kernel_rfl)) Yt)),Y0,Yz⟩ Tryz.func129 fun _ _ h=>(QVq (fun _=>List.replicate) big _).trans h
def QL3:LT:={ live:=[(8,[0,1,2,9,35,36,37])],keep:=[] }
noncomputable def QII (mk:(α:Type)->Nat->α->List α):Bn:={ tab:=tab,fs:=[(50,QIT),(78,QJO),(127,QOO),(128,QOP),(129,QOR),(130,QOQ)],inl:=[],rep:=mk }
noncomputable def QD1 (v:Y35):St:={ s:=[(0,(.val ⟨ql,v.1⟩)),(1,(.val ⟨Z2,v.2.1⟩)),(2,(.val ⟨Z2,v.2.2.1⟩)),(9,(.row 0)),(35,(.val ⟨ql,v.2.2.2.1⟩)),(36,(.val ⟨Z2,v.2.2.2.2.1⟩)),(37,(.val ⟨Z2,v.2.2.2.2.2.1⟩))],l:=[(0,.row Z15 v.2.2.2.2.2.2)],k:=[],b:=4096 }
def ny (mk:(α:Type)->Nat->α->List α) (aG:Y35->Option oW) (v:Y35):Option oW:=
 (bif (decide (v.2.2.2.2.2.1 < v.2.2.2.2.1)) then ((Nk v.2.2.2.1 v.2.2.2.2.2.1).bind fun x3=>((qy x3).bind fun x4=>((wB (x4.1,v.2.2.1)).bind fun x5=>(bif (!x5) then (some (([]:List Int),(16:Int))) else ((wB (x4.2.1,v.2.2.1)).bind fun x6=>(bif (!x6) then (some (([]:List Int),(16:Int))) else ((yR x4.2.1).bind fun x7=>(bif (decide (0<=v.2.2.2.2.2.1)&&decide (v.2.2.2.2.2.1 < (List.length v.2.2.2.2.2.2:Int))) then (let x8:Zw:=(List.set v.2.2.2.2.2.2 (Int.toNat v.2.2.2.2.2.1) x7);(let x9:Int:=(IntKind.i64.wrap (v.2.2.2.2.2.1+1));(aG (v.1,v.2.1,v.2.2.1,v.2.2.2.1,v.2.2.2.2.1,x9,x8)))) else none)))))))) else ((ig v.2.1).bind fun iO=>((ig v.2.2.1).bind fun pE=>((u6 (v.1,v.2.2.2.2.2.2,iO,pE)).bind fun qh=>(let sQ:Int:=(IntKind.i64.wrap ((List.length v.1:Int) - 1));(bif (decide (0<=sQ)&&decide (sQ < (List.length qh:Int))) then (let lN:Zw:=(List.set qh (Int.toNat sQ) (0:Int));(some (lN,(0:Int)))) else none))))))
def nu (mk:(α:Type)->Nat->α->List α) (N:Nat) (aG:Y35->Option oW) (v:Y35):Option oW:=ny mk aG v
theorem QNN (mk:(α:Type)->Nat->α->List α) (N:Nat) (s0:St->Option oW) (v):(ZR (QII mk) QL3 6 N Tryz.f81 [yN,Z2] [true,false] [] 0 Xv) s0 (QD1 v)=nu mk N (fun v=>s0 (QD1 v)) v:=by kernel_rfl
def wR (mk:(α:Type)->Nat->α->List α) (aJ:Y35->Option oW) (x:Y73):Option oW:=
 ((lU x.1).bind fun x1=>(bif (x1 != 0) then (some (([]:List Int),x1)) else (bif (decide (x.2.1 < 0)) then (some (([]:List Int),(2:Int))) else (bif (decide (x.2.1 > x.2.2)) then (some (([]:List Int),(2:Int))) else (bif (decide (x.2.2 > 16)) then (some (([]:List Int),(2:Int))) else (bif (decide (0<=(List.length x.1:Int))&&(decide ((List.length x.1:Int)<=(List.length x.1:Int))&&(decide ((List.length x.1:Int)<=68719476736)&&true))) then (let x2:Zw:=(mk Int (Int.toNat (List.length x.1:Int)) (0:Int));(aJ (x.1,x.2.1,x.2.2,x.1,(List.length x.1:Int),(0:Int),x2))) else none))))))
def QCN (mk:(α:Type)->Nat->α->List α) (N:Nat) (x:Y73):Option oW:=wR mk (Gb (nu mk N) N) x
theorem QVr (mk:(α:Type)->Nat->α->List α) (N:Nat) (x:Y73):rise (QII mk) QL3 6 N Tryz.f81 [ql,Z2,Z2] [yN,Z2] [true,false] x=QCN mk N x:=Eq.trans (b:=wR mk (fun v=>Ot (ZR (QII mk) QL3 6 N Tryz.f81 [yN,Z2] [true,false] [] 0 Xv) N (QD1 v)) x) (by kernel_rfl) (by rw [funext (Tf QD1 (QNN mk N) N)];rfl)
def o7 (x:Y73):Option oW:=QCN (fun _=>List.replicate) big x
def QOS:U0:=⟨[ql,Z2,Z2],[yN,Z2],[true,false],fun x=>o7 x⟩
theorem QTr:Hw Tryz.prog 81 QOS:=rz (E:=QII (fun _=>List.replicate)) ⟨aK,(YH QKg (YH QKl (YH QTn (YH QTo (YH QTq (YH QTp Yc)))))),fun _ _ _=>rfl,mixed,Yt,Y0,Yz⟩ Tryz.func81 fun _ _ h=>(QVr (fun _=>List.replicate) big _).trans h
def QGG:LT:={ live:=[(2,[3,10,11,12])],keep:=[(25,[3,5,10,11,12])] }
noncomputable def QEM:Bn:={ tab:=tab,fs:=[(50,QIT)],inl:=[(131,Tryz.f131,QIZ),(132,Tryz.f132,QUp),(167,Tryz.f167,QIY)] }
noncomputable def QIo (v:Y30):St:={ s:=[(0,(.row 0)),(1,(.Ee 132 (.pair (.loc 1 []) (.pair (.loc 2 []) .unit)))),(7,(.val ⟨Z2,v.1⟩)),(8,(.val ⟨Z2,v.2.1⟩))],l:=[(0,.row Z2 v.2.2.1),(1,.var yN (.val ⟨yN,v.2.2.2.1⟩)),(2,.var Z2 (.val ⟨Z2,v.2.2.2.2.1⟩))],k:=[(16883712,[]),(4096,[(3,(.loc 1 [])),(5,(.loc 2 [])),(10,(.val ⟨ql,v.2.2.2.2.2.1⟩)),(11,(.val ⟨Z2,v.2.2.2.2.2.2.1⟩)),(12,(.val ⟨Z2,v.2.2.2.2.2.2.2⟩))])],b:=69155717120 }
noncomputable def QAE (v:Y66):St:={ s:=[(3,(.loc 0 [])),(10,(.val ⟨ql,v.1⟩)),(11,(.val ⟨Z2,v.2.1⟩)),(12,(.val ⟨Z2,v.2.2.1⟩))],l:=[(0,.var yN (.val ⟨yN,v.2.2.2⟩))],k:=[],b:=4096 }
def kQ (aG:Y66->Option (Int)) (aH:Y30->Option (Int)) (v:Y30):Option (Int):=
 (bif (decide (v.2.1 < v.1)) then (bif (decide (0<=v.2.1)&&decide (v.2.1 < (List.length v.2.2.1:Int))) then ((nth v.2.2.1 (Int.toNat v.2.1)).bind fun x3=>((Nk v.2.2.2.1 v.2.2.2.2.1).bind fun x4=>(bif (decide (x3 < 0)) then none else (let x5:Int:=(IntKind.u64.wrap ((1:Int) * 2 ^ (min (Int.toNat x3) 64)));(bif ((bits .and .u64 x4 x5)==0) then (bif (decide (v.2.1≥0)) then (some v.2.2.2.2.1) else (let x6:Int:=(IntKind.i64.wrap (v.2.2.2.2.2.2.2+1));(aG (v.2.2.2.2.2.1,v.2.2.2.2.2.2.1,x6,v.2.2.2.1)))) else (let x7:Int:=(IntKind.i64.wrap (v.2.1+1));(aH (v.1,x7,v.2.2.1,v.2.2.2.1,v.2.2.2.2.1,v.2.2.2.2.2.1,v.2.2.2.2.2.2.1,v.2.2.2.2.2.2.2)))))))) else none) else (let x8:Int:=(IntKind.i64.wrap (v.2.2.2.2.2.2.2+1));(aG (v.2.2.2.2.2.1,v.2.2.2.2.2.2.1,x8,v.2.2.2.1))))
def dV (N:Nat) (aG:Y66->Option (Int)) (aH:Y30->Option (Int)) (v:Y30):Option (Int):=kQ aG aH v
theorem QVH (N:Nat) (s0:St->Option (Int)) (s1:St->Option (Int)) (v):(ZR (QEM) QGG 6 N Tryz.f82 [Z2] [false] [.call 5 2 131,.call 1 2 167] 0 (Yx s0 Xv)) s1 (QIo v)=dV N (fun v=>s0 (QAE v)) (fun v=>s1 (QIo v)) v:=by kernel_rfl
def gG (bF:Y30->Option (Int)) (aG:Y66->Option (Int)) (v:Y66):Option (Int):=
 (bif (decide (v.2.2.1 < v.2.1)) then ((Nk v.1 v.2.2.1).bind fun x1=>((qy x1).bind fun x2=>(bF ((List.length x2.1:Int),(0:Int),x2.1,v.2.2.2,v.2.2.1,v.1,v.2.1,v.2.2.1)))) else (some (-1:Int)))
def bC (N:Nat) (aG:Y66->Option (Int)) (v:Y66):Option (Int):=gG (Gb (dV N aG) N) aG v
theorem QNO (N:Nat) (s0:St->Option (Int)) (v):(ZR (QEM) QGG 6 N Tryz.f82 [Z2] [false] [] 0 Xv) s0 (QAE v)=bC N (fun v=>s0 (QAE v)) v:=Eq.trans (b:=gG (fun v=>Ot (ZR (QEM) QGG 6 N Tryz.f82 [Z2] [false] [.call 5 2 131,.call 1 2 167] 0 (Yx s0 Xv)) N (QIo v)) (fun v=>s0 (QAE v)) v) (by kernel_rfl) (by rw [funext (Tf QIo (QVH N s0) N)];rfl)
def iV (aJ:Y66->Option (Int)) (x:aB×Zw):Option (Int):=
 (aJ (x.1,(List.length x.1:Int),(0:Int),x.2))
def tY (N:Nat) (x:aB×Zw):Option (Int):=iV (Gb (bC N) N) x
theorem QVs (N:Nat) (x:aB×Zw):rise (QEM) QGG 6 N Tryz.f82 [ql,yN] [Z2] [false] x=tY N x:=Eq.trans (b:=iV (fun v=>Ot (ZR (QEM) QGG 6 N Tryz.f82 [Z2] [false] [] 0 Xv) N (QAE v)) x) (by kernel_rfl) (by rw [funext (Tf QAE (QNO N) N)];rfl)
def fG (x:aB×Zw):Option (Int):=tY big x
def QOT:U0:=⟨[ql,yN],[Z2],[false],fun x=>fG x⟩
theorem QTs:Hw Tryz.prog 82 QOT:=rz (E:=QEM) ⟨aK,(YH QKg Yc),fun _ _ _=>rfl,mixed,(YP (YO Tryz.func131 rfl rfl (by kernel_rfl)) (YP (YO Tryz.func132 rfl rfl (by kernel_rfl)) (YP (YO Tryz.func167 rfl rfl (by kernel_rfl)) Yt))),Y0,Yz⟩ Tryz.func82 fun _ _ h=>(QVs big _).trans h
def QL4:LT:={ live:=[(5,[4,17,18,19])],keep:=[] }
noncomputable def QIJ:Bn:={ tab:=tab,fs:=[(168,QPY),(169,QPZ)],inl:=[] }
noncomputable def QD2 (v:Zw×Int×Int×Zz):St:={ s:=[(4,(.row 0)),(17,(.val ⟨yN,v.1⟩)),(18,(.val ⟨Z2,v.2.1⟩)),(19,(.val ⟨Z2,v.2.2.1⟩))],l:=[(0,.row Z16 v.2.2.2)],k:=[],b:=4096 }
def mK (aG:Zw×Int×Int×Zz->Option (Zz×Int)) (v:Zw×Int×Int×Zz):Option (Zz×Int):=
 (bif (decide (v.2.2.1 < v.2.1)) then ((Nk v.1 v.2.2.1).bind fun x4=>(let x5:Int:=(IntKind.i64.wrap ((List.length v.2.2.2:Int) - 1));(bif (decide (0<=x5)&&decide (x5 < (List.length v.2.2.2:Int))) then ((nth v.2.2.2 (Int.toNat x5)).bind fun x6=>((gX (x6,(v.2.2.1,(x4,())))).bind fun x7=>(bif (!x7) then (let x8:Zz:=([(v.2.2.1,(x4,()))]:Zz);(bif (Nat.ble 1 2&&Nat.ble (List.length v.2.2.2+List.length x8) lim) then (let x9:Int:=(IntKind.i64.wrap (v.2.2.1+1));(aG (v.1,v.2.1,x9,(List.append v.2.2.2 x8)))) else none)) else (let iO:Int:=(IntKind.i64.wrap (v.2.2.1+1));(aG (v.1,v.2.1,iO,v.2.2.2)))))) else none))) else (some (v.2.2.2,(0:Int))))
def qG (N:Nat) (aG:Zw×Int×Int×Zz->Option (Zz×Int)) (v:Zw×Int×Int×Zz):Option (Zz×Int):=mK aG v
theorem QNP (N:Nat) (s0:St->Option (Zz×Int)) (v):(ZR (QIJ) QL4 6 N Tryz.f133 [Z5,Z2] [true,false] [] 0 Xv) s0 (QD2 v)=qG N (fun v=>s0 (QD2 v)) v:=by kernel_rfl
def uo (aJ:Zw×Int×Int×Zz->Option (Zz×Int)) (x:Zw):Option (Zz×Int):=
 ((jv (List.length x:Int)).bind fun x1=>(bif (!x1) then (some (([]:List yM),(2:Int))) else ((Nk x (0:Int)).bind fun x2=>(let x3:Zz:=([((0:Int),(x2,()))]:Zz);(aJ (x,(List.length x:Int),(0:Int),x3))))))
def QBW (N:Nat) (x:Zw):Option (Zz×Int):=uo (Gb (qG N) N) x
theorem QVt (N:Nat) (x:Zw):rise (QIJ) QL4 6 N Tryz.f133 [yN] [Z5,Z2] [true,false] x=QBW N x:=Eq.trans (b:=uo (fun v=>Ot (ZR (QIJ) QL4 6 N Tryz.f133 [Z5,Z2] [true,false] [] 0 Xv) N (QD2 v)) x) (by kernel_rfl) (by rw [funext (Tf QD2 (QNP N) N)];rfl)
def uI (x:Zw):Option (Zz×Int):=QBW big x
def QKV:U0:=⟨[yN],[Z5,Z2],[true,false],fun x=>uI x⟩
theorem QOq:Hw Tryz.prog 133 QKV:=rz (E:=QIJ) ⟨aK,(YH QUE (YH QUF Yc)),fun _ _ _=>rfl,mixed,Yt,Y0,Yz⟩ Tryz.func133 fun _ _ h=>(QVt big _).trans h
def QL5:LT:={ live:=[(3,[3,11,12,13])],keep:=[] }
noncomputable def QIK (mk:(α:Type)->Nat->α->List α):Bn:={ tab:=tab,fs:=[(133,QKV)],inl:=[],rep:=mk }
noncomputable def QD3 (v:Y67):St:={ s:=[(3,(.row 0)),(11,(.val ⟨Z6,v.1⟩)),(12,(.val ⟨Z2,v.2.1⟩)),(13,(.val ⟨Z2,v.2.2.1⟩))],l:=[(0,.row Z15 v.2.2.2)],k:=[],b:=4096 }
def qH (mk:(α:Type)->Nat->α->List α) (aG:Y67->Option (Zz)) (v:Y67):Option (Zz):=
 (bif (decide (v.2.2.1 < v.2.1)) then ((Nk v.1 v.2.2.1).bind fun x2=>(bif (decide (0<=v.2.2.1)&&decide (v.2.2.1 < (List.length v.2.2.2:Int))) then (let x3:Zw:=(List.set v.2.2.2 (Int.toNat v.2.2.1) (IntKind.u64.wrap x2));(let x4:Int:=(IntKind.i64.wrap (v.2.2.1+1));(aG (v.1,v.2.1,x4,x3)))) else none)) else ((uI v.2.2.2).bind fun x5=>(some x5.1)))
def eG (mk:(α:Type)->Nat->α->List α) (N:Nat) (aG:Y67->Option (Zz)) (v:Y67):Option (Zz):=qH mk aG v
theorem QNQ (mk:(α:Type)->Nat->α->List α) (N:Nat) (s0:St->Option (Zz)) (v):(ZR (QIK mk) QL5 6 N Tryz.f83 [Z5] [true] [] 0 Xv) s0 (QD3 v)=eG mk N (fun v=>s0 (QD3 v)) v:=by kernel_rfl
def oK (mk:(α:Type)->Nat->α->List α) (aJ:Y67->Option (Zz)) (x:Zw):Option (Zz):=
 (bif (decide (0<=(List.length x:Int))&&(decide ((List.length x:Int)<=(List.length x:Int))&&(decide ((List.length x:Int)<=68719476736)&&true))) then (let x1:Zw:=(mk Int (Int.toNat (List.length x:Int)) (0:Int));(aJ (x,(List.length x:Int),(0:Int),x1))) else none)
def zH (mk:(α:Type)->Nat->α->List α) (N:Nat) (x:Zw):Option (Zz):=oK mk (Gb (eG mk N) N) x
theorem QVu (mk:(α:Type)->Nat->α->List α) (N:Nat) (x:Zw):rise (QIK mk) QL5 6 N Tryz.f83 [Z6] [Z5] [true] x=zH mk N x:=Eq.trans (b:=oK mk (fun v=>Ot (ZR (QIK mk) QL5 6 N Tryz.f83 [Z5] [true] [] 0 Xv) N (QD3 v)) x) (by kernel_rfl) (by rw [funext (Tf QD3 (QNQ mk N) N)];rfl)
def jm (x:Zw):Option (Zz):=zH (fun _=>List.replicate) big x
def QOU:U0:=⟨[Z6],[Z5],[true],fun x=>jm x⟩
theorem QTt:Hw Tryz.prog 83 QOU:=rz (E:=QIK (fun _=>List.replicate)) ⟨aK,(YH QOq Yc),fun _ _ _=>rfl,mixed,Yt,Y0,Yz⟩ Tryz.func83 fun _ _ h=>(QVu (fun _=>List.replicate) big _).trans h
def QL6:LT:={ live:=[(3,[3,11,12,13])],keep:=[] }
noncomputable def QIL (mk:(α:Type)->Nat->α->List α):Bn:={ tab:=tab,fs:=[(133,QKV)],inl:=[],rep:=mk }
noncomputable def QD4 (v:Y67):St:={ s:=[(3,(.row 0)),(11,(.val ⟨yN,v.1⟩)),(12,(.val ⟨Z2,v.2.1⟩)),(13,(.val ⟨Z2,v.2.2.1⟩))],l:=[(0,.row Z15 v.2.2.2)],k:=[],b:=4096 }
def l5 (mk:(α:Type)->Nat->α->List α) (aG:Y67->Option (Zz)) (v:Y67):Option (Zz):=
 (bif (decide (v.2.2.1 < v.2.1)) then ((Nk v.1 v.2.2.1).bind fun x2=>(bif (decide (0<=v.2.2.1)&&decide (v.2.2.1 < (List.length v.2.2.2:Int))) then (let x3:Zw:=(List.set v.2.2.2 (Int.toNat v.2.2.1) x2);(let x4:Int:=(IntKind.i64.wrap (v.2.2.1+1));(aG (v.1,v.2.1,x4,x3)))) else none)) else ((uI v.2.2.2).bind fun x5=>(some x5.1)))
def bX (mk:(α:Type)->Nat->α->List α) (N:Nat) (aG:Y67->Option (Zz)) (v:Y67):Option (Zz):=l5 mk aG v
theorem QNR (mk:(α:Type)->Nat->α->List α) (N:Nat) (s0:St->Option (Zz)) (v):(ZR (QIL mk) QL6 6 N Tryz.f84 [Z5] [true] [] 0 Xv) s0 (QD4 v)=bX mk N (fun v=>s0 (QD4 v)) v:=by kernel_rfl
def jf (mk:(α:Type)->Nat->α->List α) (aJ:Y67->Option (Zz)) (x:Zw):Option (Zz):=
 (bif (decide (0<=(List.length x:Int))&&(decide ((List.length x:Int)<=(List.length x:Int))&&(decide ((List.length x:Int)<=68719476736)&&true))) then (let x1:Zw:=(mk Int (Int.toNat (List.length x:Int)) (0:Int));(aJ (x,(List.length x:Int),(0:Int),x1))) else none)
def vO (mk:(α:Type)->Nat->α->List α) (N:Nat) (x:Zw):Option (Zz):=jf mk (Gb (bX mk N) N) x
theorem QVv (mk:(α:Type)->Nat->α->List α) (N:Nat) (x:Zw):rise (QIL mk) QL6 6 N Tryz.f84 [yN] [Z5] [true] x=vO mk N x:=Eq.trans (b:=jf mk (fun v=>Ot (ZR (QIL mk) QL6 6 N Tryz.f84 [Z5] [true] [] 0 Xv) N (QD4 v)) x) (by kernel_rfl) (by rw [funext (Tf QD4 (QNR mk N) N)];rfl)
def fV (x:Zw):Option (Zz):=vO (fun _=>List.replicate) big x
def QOV:U0:=⟨[yN],[Z5],[true],fun x=>fV x⟩
theorem QTu:Hw Tryz.prog 84 QOV:=rz (E:=QIL (fun _=>List.replicate)) ⟨aK,(YH QOq Yc),fun _ _ _=>rfl,mixed,Yt,Y0,Yz⟩ Tryz.func84 fun _ _ h=>(QVv (fun _=>List.replicate) big _).trans h
def QUq:LT:={ live:=[],keep:=[] }
noncomputable def QSN:Bn:={ tab:=tab,fs:=[(78,QJO),(79,QOF),(80,QON),(81,QOS),(82,QOT),(83,QOU),(84,QOV)],inl:=[] }
def qZ (x:Zx×Int×Zw):Option (Zu×Int×Int):=
 ((Nk x.1.2.2.1 x.2.1).bind fun x1=>((lU x1.2.2.2.2.1).bind fun x2=>(bif (x2 != 0) then (let x3:Zu:=(([]:List Int),((0:Int),((0:Int),(([]:aA),(([]:aB),(([]:Zz),(([]:Zz),())))))));(some (x3,(-1:Int),(12:Int)))) else (bif (x.2.1==0) then (bif (decide (x1.2.1 > 0)) then (let x4:Zu:=(([]:List Int),((0:Int),((0:Int),(([]:aA),(([]:aB),(([]:Zz),(([]:Zz),())))))));(some (x4,(-1:Int),(30:Int)))) else (bif (x1.2.2.1 != (-1:Int)) then (let x5:Zu:=(([]:List Int),((0:Int),((0:Int),(([]:aA),(([]:aB),(([]:Zz),(([]:Zz),())))))));(some (x5,(-1:Int),(30:Int)))) else ((bW (x.1,(x1,()))).bind fun x6=>(bif (x6.2 != 0) then (let x7:Zu:=(([]:List Int),((0:Int),((0:Int),(([]:aA),(([]:aB),(([]:Zz),(([]:Zz),())))))));(some (x7,x6.1,x6.2))) else ((fH ((x.1,(x1,())),x.2.2)).bind fun x8=>(bif (!x8.2) then (let x9:Zu:=(([]:List Int),((0:Int),((0:Int),(([]:aA),(([]:aB),(([]:Zz),(([]:Zz),())))))));(some (x9,(-1:Int),(36:Int)))) else ((o7 (x1.2.2.2.2.1,x1.2.1,(List.length x1.2.2.2.1:Int))).bind fun iO=>((fG (x1.2.2.2.2.1,iO.1)).bind fun pE=>(bif (pE != (-1:Int)) then (let qh:Zu:=(([]:List Int),((0:Int),((0:Int),(([]:aA),(([]:aB),(([]:Zz),(([]:Zz),())))))));(some (qh,pE,(38:Int)))) else ((jm x8.1).bind fun sQ=>((fV iO.1).bind fun lN=>(some ((x1.1,(x1.2.1,(x1.2.2.1,(x1.2.2.2.1,(x1.2.2.2.2.1,(sQ,(lN,x1.2.2.2.2.2.2.2))))))),(0:Int),(0:Int)))))))))))))) else ((bW (x.1,(x1,()))).bind fun lS=>(bif (lS.2 != 0) then (let xq:Zu:=(([]:List Int),((0:Int),((0:Int),(([]:aA),(([]:aB),(([]:Zz),(([]:Zz),())))))));(some (xq,lS.1,lS.2))) else ((fH ((x.1,(x1,())),x.2.2)).bind fun zS=>(bif (!zS.2) then (let x18:Zu:=(([]:List Int),((0:Int),((0:Int),(([]:aA),(([]:aB),(([]:Zz),(([]:Zz),())))))));(some (x18,(-1:Int),(36:Int)))) else ((o7 (x1.2.2.2.2.1,x1.2.1,(List.length x1.2.2.2.1:Int))).bind fun zU=>((fG (x1.2.2.2.2.1,zU.1)).bind fun x20=>(bif (x20 != (-1:Int)) then (let x21:Zu:=(([]:List Int),((0:Int),((0:Int),(([]:aA),(([]:aB),(([]:Zz),(([]:Zz),())))))));(some (x21,x20,(38:Int)))) else ((jm zS.1).bind fun zV=>((fV zU.1).bind fun x23=>(some ((x1.1,(x1.2.1,(x1.2.2.1,(x1.2.2.2.1,(x1.2.2.2.2.1,(zV,(x23,x1.2.2.2.2.2.2.2))))))),(0:Int),(0:Int))))))))))))))))
def gV (x:Zx×Int×Zw):Option (Zu×Int×Int):=qZ x
def QKW:U0:=⟨[Z3,Z2,Z6],[Z0,Z2,Z2],[false,false,false],fun x=>gV x⟩
theorem QOr:Hw Tryz.prog 44 QKW:=rz (E:=QSN) (lt:=QUq) (lv:=6) (N:=big) ⟨aK,(YH QKl (YH QTc (YH QTm (YH QTr (YH QTs (YH QTt (YH QTu Yc))))))),fun _ _ _=>rfl,mixed,Yt,Y0,Yz⟩ Tryz.func44 fun x _ h=>Eq.trans (b:=gV x) (by kernel_rfl) h
def QL7:LT:={ live:=[(4,[0,1,12,13])],keep:=[] }
noncomputable def QIM:Bn:={ tab:=tab,fs:=[],inl:=[] }
noncomputable def QD5 (v:Zz×Zz×Int×Int):St:={ s:=[(0,(.val ⟨Z5,v.1⟩)),(1,(.val ⟨Z5,v.2.1⟩)),(12,(.val ⟨Z2,v.2.2.1⟩)),(13,(.val ⟨Z2,v.2.2.2⟩))],l:=[],k:=[],b:=4096 }
def dQ (aG:Zz×Zz×Int×Int->Option (Bool)) (v:Zz×Zz×Int×Int):Option (Bool):=
 (bif (decide (v.2.2.2 < v.2.2.1)) then ((Nk v.1 v.2.2.2).bind fun x1=>((Nk v.2.1 v.2.2.2).bind fun x2=>(bif (!(JW Z16 x1 x2)) then (some false) else (let x3:Int:=(IntKind.i64.wrap (v.2.2.2+1));(aG (v.1,v.2.1,v.2.2.1,x3)))))) else (some true))
def aT (N:Nat) (aG:Zz×Zz×Int×Int->Option (Bool)) (v:Zz×Zz×Int×Int):Option (Bool):=dQ aG v
theorem QNS (N:Nat) (s0:St->Option (Bool)) (v):(ZR (QIM) QL7 6 N Tryz.f56 [.bool] [false] [] 0 Xv) s0 (QD5 v)=aT N (fun v=>s0 (QD5 v)) v:=by kernel_rfl
def bO (aJ:Zz×Zz×Int×Int->Option (Bool)) (x:Zz×Zz):Option (Bool):=
 (bif ((List.length x.1:Int) != (List.length x.2:Int)) then (some false) else (aJ (x.1,x.2,(List.length x.1:Int),(0:Int))))
def jU (N:Nat) (x:Zz×Zz):Option (Bool):=bO (Gb (aT N) N) x
theorem QVw (N:Nat) (x:Zz×Zz):rise (QIM) QL7 6 N Tryz.f56 [Z5,Z5] [.bool] [false] x=jU N x:=Eq.trans (b:=bO (fun v=>Ot (ZR (QIM) QL7 6 N Tryz.f56 [.bool] [false] [] 0 Xv) N (QD5 v)) x) (by kernel_rfl) (by rw [funext (Tf QD5 (QNS N) N)];rfl)
def bN (x:Zz×Zz):Option (Bool):=jU big x
def QOW:U0:=⟨[Z5,Z5],[.bool],[false],fun x=>bN x⟩
theorem QTv:Hw Tryz.prog 56 QOW:=rz (E:=QIM) ⟨aK,Yc,fun _ _ _=>rfl,mixed,Yt,Y0,Yz⟩ Tryz.func56 fun _ _ h=>(QVw big _).trans h
def QL8:LT:={ live:=[(6,[1,6,21,22,23])],keep:=[] }
noncomputable def QIN:Bn:={ tab:=tab,fs:=[(42,QPd),(44,QKW),(45,QPe),(56,QOW)],inl:=[] }
noncomputable def QD6 (v:Y52):St:={ s:=[(1,(.loc 0 [])),(6,(.val ⟨Z6,v.1⟩)),(21,(.val ⟨(.slice Z0),v.2.1⟩)),(22,(.val ⟨Z2,v.2.2.1⟩)),(23,(.val ⟨Z2,v.2.2.2.1⟩))],l:=[(0,.var Z3 (.val ⟨Z3,v.2.2.2.2⟩))],k:=[],b:=4096 }
def vE (aG:Y52->Option Y20) (v:Y52):Option Y20:=
 (bif (decide (v.2.2.2.1 < v.2.2.1)) then ((Nk v.2.1 v.2.2.2.1).bind fun x3=>((gV (v.2.2.2.2,v.2.2.2.1,v.1)).bind fun x4=>(bif (x4.2.2 != 0) then (some (v.2.2.2.1,x4.2.1,x4.2.2)) else ((bN (x3.2.2.2.2.2.1,x4.1.2.2.2.2.2.1)).bind fun x5=>(bif (!x5) then (some (v.2.2.2.1,(-1:Int),(32:Int))) else ((bN (x3.2.2.2.2.2.2.1,x4.1.2.2.2.2.2.2.1)).bind fun x6=>(bif (!x6) then (some (v.2.2.2.1,(-1:Int),(32:Int))) else (let x7:Int:=(IntKind.i64.wrap (v.2.2.2.1+1));(aG (v.1,v.2.1,v.2.2.1,x7,v.2.2.2.2)))))))))) else (some ((0:Int),(0:Int),(0:Int))))
def iy (N:Nat) (aG:Y52->Option Y20) (v:Y52):Option Y20:=vE aG v
theorem QNT (N:Nat) (s0:St->Option Y20) (v):(ZR (QIN) QL8 6 N Tryz.f19 [Z2,Z2,Z2] [false,false,false] [] 0 Xv) s0 (QD6 v)=iy N (fun v=>s0 (QD6 v)) v:=by kernel_rfl
def uO (aJ:Y52->Option Y20) (x:Zx):Option Y20:=
 ((pK x).bind fun x1=>(bif (x1 != 0) then (some ((0:Int),(0:Int),x1)) else ((iQ x.1).bind fun x2=>(aJ (x2,x.2.2.1,(List.length x.2.2.1:Int),(0:Int),x)))))
def QBB (N:Nat) (x:Zx):Option Y20:=uO (Gb (iy N) N) x
theorem QVx (N:Nat) (x:Zx):rise (QIN) QL8 6 N Tryz.f19 [Z3] [Z2,Z2,Z2] [false,false,false] x=QBB N x:=Eq.trans (b:=uO (fun v=>Ot (ZR (QIN) QL8 6 N Tryz.f19 [Z2,Z2,Z2] [false,false,false] [] 0 Xv) N (QD6 v)) x) (by kernel_rfl) (by rw [funext (Tf QD6 (QNT N) N)];rfl)
def pG (x:Zx):Option Y20:=QBB big x
def QKX:U0:=⟨[Z3],[Z2,Z2,Z2],[false,false,false],fun x=>pG x⟩
theorem QOs:Hw Tryz.prog 19 QKX:=rz (E:=QIN) ⟨aK,(YH QUK (YH QOr (YH QUL (YH QTv Yc)))),fun _ _ _=>rfl,mixed,Yt,Y0,Yz⟩ Tryz.func19 fun _ _ h=>(QVx big _).trans h
def QUr:LT:={ live:=[],keep:=[] }
noncomputable def QSO:Bn:={ tab:=tab,fs:=[(19,QKX)],inl:=[] }
def QFt (x:Zx):Option (Int):=
 ((pG x).bind fun x1=>(some x1.2.2))
def fJ (x:Zx):Option (Int):=QFt x
def QKY:U0:=⟨[Z3],[Z2],[false],fun x=>fJ x⟩
theorem QOt:Hw Tryz.prog 23 QKY:=rz (E:=QSO) (lt:=QUr) (lv:=6) (N:=big) ⟨aK,(YH QOs Yc),fun _ _ _=>rfl,mixed,Yt,Y0,Yz⟩ Tryz.func23 fun x _ h=>Eq.trans (b:=fJ x) (by kernel_rfl) h
def QUv:LT:={ live:=[],keep:=[] }
noncomputable def QSR:Bn:={ tab:=tab,fs:=[],inl:=[] }
def vR (x:Y78):Option (Bool):=
 (bif (decide (x.1≥0)) then (some (decide (x.1 < x.2))) else (some false))
def pI (x:Y78):Option (Bool):=vR x
def QOa:U0:=⟨[Z2,Z2],[.bool],[false],fun x=>pI x⟩
theorem QTz:Hw Tryz.prog 43 QOa:=rz (E:=QSR) (lt:=QUv) (lv:=6) (N:=big) ⟨aK,Yc,fun _ _ _=>rfl,mixed,Yt,Y0,Yz⟩ Tryz.func43 fun x _ h=>Eq.trans (b:=pI x) (by kernel_rfl) h
def QUw:LT:={ live:=[],keep:=[] }
noncomputable def QSS:Bn:={ tab:=tab,fs:=[],inl:=[] }
def bn (x:aA):Option (aA):=
 (bif (List.isEmpty x) then (OX (some ([]:List (Zw×Y19))) (let x1:aA:=([]:aA);(bif (Nat.ble 1 2&&Nat.ble (List.length x1+List.length x) lim) then (some (List.append x1 x)) else none))) else (let x2:aA:=([]:aA);(bif (Nat.ble 1 2&&Nat.ble (List.length x2+List.length x) lim) then (some (List.append x2 x)) else none)))
def aj (x:aA):Option (aA):=bn x
def QOb:U0:=⟨[Z7],[Z7],[true],fun x=>aj x⟩
theorem QU0:Hw Tryz.prog 46 QOb:=rz (E:=QSS) (lt:=QUw) (lv:=6) (N:=big) ⟨aK,Yc,fun _ _ _=>rfl,mixed,Yt,Y0,Yz⟩ Tryz.func46 fun x _ h=>Eq.trans (b:=aj x) (by kernel_rfl) h
def QUx:LT:={ live:=[],keep:=[] }
noncomputable def QST:Bn:={ tab:=tab,fs:=[],inl:=[] }
def bq (x:aB):Option (aB):=
 (bif (List.isEmpty x) then (OX (some ([]:List Zy)) (let x1:aB:=([]:aB);(bif (Nat.ble 1 4&&Nat.ble (List.length x1+List.length x) lim) then (some (List.append x1 x)) else none))) else (let x2:aB:=([]:aB);(bif (Nat.ble 1 4&&Nat.ble (List.length x2+List.length x) lim) then (some (List.append x2 x)) else none)))
def ak (x:aB):Option (aB):=bq x
def QOc:U0:=⟨[ql],[ql],[true],fun x=>ak x⟩
theorem QU1:Hw Tryz.prog 47 QOc:=rz (E:=QST) (lt:=QUx) (lv:=6) (N:=big) ⟨aK,Yc,fun _ _ _=>rfl,mixed,Yt,Y0,Yz⟩ Tryz.func47 fun x _ h=>Eq.trans (b:=ak x) (by kernel_rfl) h
def QUy:LT:={ live:=[],keep:=[] }
noncomputable def QSU:Bn:={ tab:=tab,fs:=[(42,QPd),(43,QOa),(44,QKW),(45,QPe),(46,QOb),(47,QOc)],inl:=[] }
def xM (x:Zx×Int):Option (Zu×Int):=
 ((pK x.1).bind fun x1=>(bif (x1 != 0) then (let x2:Zu:=(([]:List Int),((0:Int),((0:Int),(([]:aA),(([]:aB),(([]:Zz),(([]:Zz),())))))));(some (x2,x1))) else ((pI (x.2,(List.length x.1.2.2.1:Int))).bind fun x3=>(bif (!x3) then (let x4:Zu:=(([]:List Int),((0:Int),((0:Int),(([]:aA),(([]:aB),(([]:Zz),(([]:Zz),())))))));(some (x4,(2:Int)))) else ((iQ x.1.1).bind fun x5=>((gV (x.1,x.2,x5)).bind fun x6=>(bif (x6.2.2 != 0) then (let x7:Zu:=(([]:List Int),((0:Int),((0:Int),(([]:aA),(([]:aB),(([]:Zz),(([]:Zz),())))))));(some (x7,x6.2.2))) else ((aj x6.1.2.2.2.1).bind fun x8=>((ak x6.1.2.2.2.2.1).bind fun x9=>(some ((x6.1.1,(x6.1.2.1,(x6.1.2.2.1,(x8,(x9,x6.1.2.2.2.2.2))))),(0:Int))))))))))))
def rH (x:Zx×Int):Option (Zu×Int):=xM x
def QOd:U0:=⟨[Z3,Z2],[Z0,Z2],[false,false],fun x=>rH x⟩
theorem QU2:Hw Tryz.prog 14 QOd:=rz (E:=QSU) (lt:=QUy) (lv:=6) (N:=big) ⟨aK,(YH QUK (YH QTz (YH QOr (YH QUL (YH QU0 (YH QU1 Yc)))))),fun _ _ _=>rfl,mixed,Yt,Y0,Yz⟩ Tryz.func14 fun x _ h=>Eq.trans (b:=rH x) (by kernel_rfl) h
end Go.Proofs.YtbgmjjplddddnaaGreatDoor
