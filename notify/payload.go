package notify

import (
	"strconv"
	"strings"

	"tocsin/api"
	"tocsin/jsontext"
	"tocsin/labelsets"
	"tocsin/spans"
)

// The statuses of a notification, and of each of its alerts.
const (
	isFiring   = "firing"
	isResolved = "resolved"
)

// Payload answers the bytes of a notification.
func Payload(n api.Notice) (string, api.Errno) {
	if e := fault(n); e != api.OK {
		return "", e
	}
	return written(n), api.OK
}

// fault answers what is wrong of a notification.
func fault(n api.Notice) api.Errno {
	if !spans.Time(n.At) {
		return api.ErrArg
	}
	e := addressFault(n.Receiver, n.Key)
	if e == api.OK && !(labelsets.Right(n.Firing...) && labelsets.Right(n.Resolved...)) {
		e = api.ErrLabel
	}
	return e
}

// written answers the payload of a notification that has no fault.
func written(n api.Notice) string {
	status := isResolved
	if len(n.Firing) > 0 {
		status = isFiring
	}
	var alerts []string
	for _, set := range n.Firing {
		alerts = append(alerts, writtenAlert(isFiring, set))
	}
	for _, set := range n.Resolved {
		alerts = append(alerts, writtenAlert(isResolved, set))
	}
	return `{"at":` + strconv.FormatInt(n.At, 10) +
		`,"receiver":` + jsontext.Quote(n.Receiver) +
		`,"group":` + jsontext.Quote(n.Key) +
		`,"status":` + jsontext.Quote(status) +
		`,"alerts":[` + strings.Join(alerts, ",") + `]}`
}

func writtenAlert(status string, set []api.Label) string {
	var members []string
	for _, one := range set {
		members = append(members, jsontext.Quote(one.Name)+":"+jsontext.Quote(one.Value))
	}
	return `{"status":` + jsontext.Quote(status) + `,"labels":{` + strings.Join(members, ",") + `}}`
}
